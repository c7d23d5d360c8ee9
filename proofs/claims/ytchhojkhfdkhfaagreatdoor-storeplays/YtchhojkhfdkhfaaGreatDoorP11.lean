/- Joined texts. -/
import Derived.Test.YtchhojkhfdkhfaaGreatDoorP00
import Derived.Lib.BufferWrite
namespace Go.Proofs.YtchhojkhfdkhfaaGreatDoor
open Go

def tc (s : ByteArray) : List Value := Lib.byteCells s.data.toList
theorem tc_length (s : ByteArray) : (tc s).length = s.size := by unfold tc; rw [Lib.byteCells_length, <- Lib.size_eq]
theorem tc_one (s : ByteArray) : ∀ v ∈ tc s,v.oneCell' = true := Lib.byteCells_one _
def sc (l : List ByteArray) : List Value := l.flatMap tc
def wc (w : Nat × ByteArray) : List Value := .int .i64 (w.1 : Int) :: tc w.2
theorem wc_length (w : Nat × ByteArray) (h : w.2.size = 256) : (wc w).length = 257 := by unfold wc; rw [List.length_cons,tc_length,h]
theorem wc_one (w : Nat × ByteArray) : ∀ v ∈ wc w,v.oneCell' = true := fun v hv => by
 rcases List.mem_cons.1 hv with rfl | h
 · rfl
 · exact tc_one _ v h
def lc (l : List (Nat × ByteArray)) : List Value := l.flatMap wc
theorem flat_length {α : Type} (f : α -> List Value) (m : Nat) : ∀ (l : List α),(∀ x ∈ l,(f x).length = m) -> (l.flatMap f).length = l.length * m
 | [],_ => by simp
 | x :: l,h => by
   rw [List.flatMap_cons,List.length_append,h x (by simp),flat_length f m l (fun y hy => h y (List.mem_cons_of_mem _ hy)),List.length_cons,Nat.add_mul,Nat.one_mul,Nat.add_comm]
theorem flat_split {α : Type} (f : α -> List Value) (l : List α) (i : Nat) (hi : i < l.length) : l.flatMap f = (l.take i).flatMap f ++ (f l[i] ++ (l.drop (i + 1)).flatMap f) := by
 conv => lhs; rw [<- List.take_append_drop i l,List.drop_eq_getElem_cons hi]
 rw [List.flatMap_append,List.flatMap_cons]
theorem flat_take {α : Type} (f : α -> List Value) (m : Nat) (l : List α) (h : ∀ x ∈ l,(f x).length = m) (i : Nat) (hi : i < l.length) : (l.flatMap f).take (i * m) = (l.take i).flatMap f := by
 have hl : ((l.take i).flatMap f).length = i * m := by
   rw [flat_length f m _ (fun x hx => h x (List.mem_of_mem_take hx)),List.length_take,Nat.min_eq_left (by omega)]
 rw [flat_split f l i hi, <- hl,List.take_left]
theorem flat_drop {α : Type} (f : α -> List Value) (m : Nat) (l : List α) (h : ∀ x ∈ l,(f x).length = m) (i : Nat) (hi : i < l.length) : (l.flatMap f).drop (i * m) = f l[i] ++ (l.drop (i + 1)).flatMap f := by
 have hl : ((l.take i).flatMap f).length = i * m := by
   rw [flat_length f m _ (fun x hx => h x (List.mem_of_mem_take hx)),List.length_take,Nat.min_eq_left (by omega)]
 rw [flat_split f l i hi, <- hl,List.drop_left]
theorem flat_at {α : Type} (f : α -> List Value) (m : Nat) (l : List α) (h : ∀ x ∈ l,(f x).length = m) (i : Nat) (hi : i < l.length) (j : Nat) (hj : j < m) : (l.flatMap f)[i * m + j]? = (f l[i])[j]? := by
 rw [<- List.getElem?_drop,flat_drop f m l h i hi,List.getElem?_append_left (by rw [h _ (List.getElem_mem hi)]; exact hj)]
theorem flat_set {α : Type} (f : α -> List Value) (l : List α) (i : Nat) (hi : i < l.length) (y : α) : (l.set i y).flatMap f = (l.take i).flatMap f ++ (f y ++ (l.drop (i + 1)).flatMap f) := by
 rw [flat_split f (l.set i y) i (by rw [List.length_set]; exact hi),List.take_set_of_le (Nat.le_refl _),List.getElem_set_self,List.drop_set_of_lt (by omega)]
theorem sc_length (l : List ByteArray) (h : ∀ s ∈ l,s.size = 256) : (sc l).length = l.length * 256 := flat_length tc 256 l (fun s hs => by rw [tc_length]; exact h s hs)
theorem sc_at (l : List ByteArray) (h : ∀ s ∈ l,s.size = 256) (i : Nat) (hi : i < l.length) (j : Nat) (hj : j < 256) : (sc l)[i * 256 + j]? = (tc l[i])[j]? := flat_at tc 256 l (fun s hs => by rw [tc_length]; exact h s hs) i hi j hj
theorem lc_at (l : List (Nat × ByteArray)) (h : ∀ w ∈ l,w.2.size = 256) (i : Nat) (hi : i < l.length) (j : Nat) (hj : j < 257) : (lc l)[i * 257 + j]? = (wc l[i])[j]? := flat_at wc 257 l (fun w hw => wc_length w (h w hw)) i hi j hj
theorem tc_append (s t : ByteArray) : tc (s ++ t) = tc s ++ tc t := by
 unfold tc Lib.byteCells
 rw [ByteArray.data_append,Array.toList_append,List.map_append]
theorem tc_extract (s : ByteArray) (a b : Nat) : tc (s.extract a b) = ((tc s).take b).drop a := by
 unfold tc Lib.byteCells
 rw [ByteArray.data_extract,Array.toList_extract,List.extract_eq_take_drop,List.map_take,List.map_drop, <- List.drop_take]
theorem tc_nil (s : ByteArray) (h : s.size = 0) : tc s = [] := List.eq_nil_of_length_eq_zero (by rw [tc_length]; exact h)
theorem sc_copy (l : List ByteArray) (h : ∀ s ∈ l,s.size = 256) (i : Nat) (hi : i < l.length) (d : ByteArray) (p : Int) (q : Nat) (hq : max (min p 256) 0 = (q : Int)) :
   (sc l).take (i * 256) ++ (tc d).take q ++ (sc l).drop (i * 256 + q) = sc (l.set i (torn (l.getD i noText) d p)) := by
 have hf : ∀ s ∈ l,(tc s).length = 256 := fun s hs => by rw [tc_length]; exact h s hs
 have hg : l.getD i noText = l[i] := by rw [List.getD_eq_getElem?_getD,List.getElem?_eq_getElem hi,Option.getD_some]
 have hq2 : q <= 256 := by omega
 have ho : l[i].size = 256 := h _ (List.getElem_mem hi)
 have hol : (tc l[i]).length = 256 := hf _ (List.getElem_mem hi)
 unfold sc
 rw [flat_set tc l i hi,flat_take tc 256 l hf i hi, <- List.drop_drop,flat_drop tc 256 l hf i hi,hg]
 unfold torn
 rw [hq,Int.toNat_natCast,tc_append,tc_extract,tc_extract,List.drop_zero,ho,List.take_of_length_le (l := tc l[i]) (by omega),List.drop_append_of_le_length (by omega)]
 simp only [List.append_assoc]
theorem lc_snoc (l : List (Nat × ByteArray)) (w : Nat × ByteArray) : lc (l ++ [w]) = lc l ++ wc w := by unfold lc; rw [List.flatMap_append]; simp
theorem sc_new (n : Nat) : sc (List.replicate n zblock) = List.replicate (n * 256) (.int .u8 0) := by
 have hz : tc zblock = List.replicate 256 (.int .u8 0) := by
   unfold tc Lib.byteCells zblock
   rw [List.map_replicate]
   rfl
 unfold sc
 induction n with
 | zero => simp
 | succ n ih => rw [List.replicate_succ,List.flatMap_cons,ih,hz,List.replicate_append_replicate,Nat.add_mul,Nat.one_mul,Nat.add_comm]
theorem sc_joined (l : List ByteArray) : tc (joined l) = sc l := by
 have h : ∀ (l : List ByteArray) (s : ByteArray),tc (l.foldl (fun s t => s ++ t) s) = tc s ++ sc l := by
   intro l
   induction l with
   | nil => intro s; unfold sc; simp
   | cons t l ih => intro s; rw [List.foldl_cons,ih,tc_append,List.append_assoc]; rfl
 unfold joined
 rw [h l noText,tc_nil noText rfl,List.nil_append]
end Go.Proofs.YtchhojkhfdkhfaaGreatDoor
