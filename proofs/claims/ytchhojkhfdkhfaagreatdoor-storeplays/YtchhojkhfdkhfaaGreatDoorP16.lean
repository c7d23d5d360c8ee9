/- Joined texts. -/
import Derived.Test.YtchhojkhfdkhfaaGreatDoorP15
import Derived.Test.YtchhojkhfdkhfaaGreatDoorP00
import Derived.Shelf.Strings.OnBuilder
import Derived.Shelf.Strings.Trim
namespace Go.Proofs.YtchhojkhfdkhfaaGreatDoor
open Go Go.RowKit Go.Shelf
def joinRen : Ren := ⟨fun x => if x = 156 then 114 else if x = 165 then 37 else if x = 166 then 135 else if x = 169 then 39 else if x = 240 then 74 else if x = 241 then 75 else if x = 276 then 103 else if x = 277 then 104 else x,fun t => if t = 72 then 88 else if t = 70 then 86 else if t = 37 then 77 else if t = 164 then 159 else if t = 127 then 128 else if t = 31 then 46 else if t = 75 then 92 else if t = 76 then 93 else if t = 80 then 44 else t,fun g => g⟩
theorem lays156 : Lays.n156 Tryz.prog joinRen := by
 constructor <;> first | kernel_rfl | (intro w; kernel_rfl)
theorem joinX : Builder.Extra Tryz.prog joinRen := by
 constructor
 · constructor <;> kernel_rfl
 all_goals first | kernel_rfl | (intro w; kernel_rfl) | decide
def trimRen : Ren := ⟨fun x => if x = 231 then 136 else if x = 232 then 137 else x,fun t => t,fun g => g⟩
theorem lays231 : Lays.n231 Tryz.prog trimRen := by
 constructor <;> first | kernel_rfl | (intro w; kernel_rfl)
theorem lays232 : Lays.n232 Tryz.prog trimRen := by
 constructor <;> first | kernel_rfl | (intro w; kernel_rfl)
theorem join_flat : ∀ (l : List (List UInt8)),Lib.join l [] = l.flatten
 | [] => rfl
 | [a] => by unfold Lib.join; simp [List.intercalate]
 | a :: b :: l => by
   have ih := join_flat (b :: l)
   unfold Lib.join at *
   simp only [List.intercalate] at *
   rw [List.intersperse_cons_cons,List.flatten_cons,List.flatten_cons,ih]
   simp
theorem joined_data (l : List ByteArray) : (joined l).data.toList = (l.map (·.data.toList)).flatten := by
 have h : ∀ (l : List ByteArray) (s : ByteArray),(l.foldl (fun s t => s ++ t) s).data.toList = s.data.toList ++ (l.map (·.data.toList)).flatten := by
   intro l
   induction l with
   | nil => intro s; simp
   | cons t l ih => intro s; rw [List.foldl_cons,ih,ByteArray.data_append,Array.toList_append,List.map_cons,List.flatten_cons,List.append_assoc]
 unfold joined
 rw [h]
 rfl
theorem join_any (g o c : Nat) (l : List ByteArray) (w : World) (hc : ∀ (j : Nat) (hj : j < l.length),w.cell? ⟨g,o + j,none⟩ = some (.string l[j])) (hg : g < w.heap.size) (hn : l.length <= 100000) (hcap : l.length <= c) (hs : (joined l).size <= 100000000) :
   Calls Tryz.prog 114 #[.slice (some ⟨g,o,none⟩) l.length c,.string ⟨#[]⟩] w fun e w' => e = .returned (.string (joined l)) /\ Below w.heap.size w w' := by
 have hd := joined_data l
 have hf := join_flat (l.map (·.data.toList))
 have hlen : (Lib.join (l.map (·.data.toList)) (⟨#[]⟩ : ByteArray).data.toList).length <= 140737488355328 := by
   show (Lib.join (l.map (·.data.toList)) []).length <= _
   rw [hf, <- hd,Array.length_toList]
   have : (joined l).data.size = (joined l).size := rfl
   omega
 have := Any.strings_Join lays156 joinX g o c l ⟨#[]⟩ w (fun j x hx => by
   obtain ⟨hj,rfl⟩ := List.getElem?_eq_some_iff.1 hx
   exact hc j hj) hg (by omega) hcap hlen
 refine this.mono ?_
 rintro e v ⟨rfl,hb⟩
 refine ⟨?_,hb⟩
 show Ending.returned (Value.string ⟨(Lib.join (l.map (·.data.toList)) []).toArray⟩) = _
 rw [hf, <- hd]
theorem dropWhile_zero : ∀ (l : List UInt8),l.dropWhile (fun x => x == 0) = [] ↔ l = List.replicate l.length 0
 | [] => by simp
 | a :: l => by
   rw [List.dropWhile_cons,List.length_cons,List.replicate_succ]
   by_cases h : a = 0
   · subst h
     simp only [beq_self_eq_true,if_true,List.cons.injEq,true_and]
     exact dropWhile_zero l
   · simp [h]
theorem trimR_zero (l : List UInt8) : Lib.trimRightB l 0 = [] ↔ l = List.replicate l.length 0 := by
 unfold Lib.trimRightB
 rw [List.reverse_eq_nil_iff,dropWhile_zero,List.length_reverse]
 constructor
 · intro h
   have := congrArg List.reverse h
   rwa [List.reverse_reverse,List.reverse_replicate] at this
 · intro h
   have := congrArg List.reverse h
   rwa [List.reverse_replicate] at this
theorem trim_nil (l : List UInt8) : Lib.trimB l 0 = [] ↔ l = List.replicate l.length 0 := by
 rw [<- trimR_zero]
 unfold Lib.trimB Lib.trimLeftB
 constructor
 · intro h
   have h2 := (dropWhile_zero _).1 h
   rw [trimR_zero]
   have h3 := h2
   unfold Lib.trimRightB at h3
   -- what is left ends in no byte 0
   generalize hx : (l.reverse.dropWhile (fun x => x == 0)) = r at h3
   have hr : r = List.replicate r.length 0 := by
     have := congrArg List.reverse h3
     rwa [List.reverse_reverse,List.length_reverse,List.reverse_replicate] at this
   have hh : r = [] := by
     cases r with
     | nil => rfl
     | cons a r =>
       have hne : ¬ (fun x : UInt8 => x == 0) a = true := by
         have := List.head?_dropWhile_not (fun x : UInt8 => x == 0) l.reverse
         rw [hx] at this
         simpa using this
       rw [List.length_cons,List.replicate_succ] at hr
       exact absurd (by rw [(List.cons.inj hr).1]; rfl) hne
   rw [hh] at hx
   have := (dropWhile_zero _).1 hx
   rw [List.length_reverse] at this
   have h4 := congrArg List.reverse this
   rwa [List.reverse_reverse,List.reverse_replicate] at h4
 · intro h
   rw [h]
   rfl
def AllZ (s : ByteArray) : Prop := s = zs s.size
theorem allZ_list (s : ByteArray) : AllZ s ↔ s.data.toList = List.replicate s.data.toList.length 0 := by
 have e : s.data.toList.length = s.size := by rw [Array.length_toList]; rfl
 rw [e]
 unfold AllZ zs
 constructor
 · intro h
   have := congrArg (fun x : ByteArray => x.data.toList) h
   exact this
 · intro h
   apply ByteArray.ext
   rw [<- h]
set_option maxRecDepth 10000 in
set_option maxHeartbeats 1000000 in
theorem trim_any (s : ByteArray) (w : World) (hs : s.size <= 100000000) :
   Calls Tryz.prog 116 #[.string s,.string ⟨#[0]⟩] w fun e w' => e = .returned (.string ⟨(Lib.trimB s.data.toList 0).toArray⟩) /\ Below w.heap.size w w' := by
 have K1 : Hid (∀ u,Calls Tryz.prog 137 #[.string s,.int .u8 0] u fun e w' => e = .returned (.string ⟨(Lib.trimRightB s.data.toList 0).toArray⟩) /\ w' = u) := fun u => Any.strings_trimRightByte lays232 s 0 u (by omega)
 have K2 : Hid (∀ u,Calls Tryz.prog 136 #[.string ⟨(Lib.trimRightB s.data.toList 0).toArray⟩,.int .u8 0] u fun e w' => e = .returned (.string ⟨(Lib.trimB s.data.toList 0).toArray⟩) /\ w' = u) := fun u => Any.strings_trimLeftByte lays231 ⟨(Lib.trimRightB s.data.toList 0).toArray⟩ 0 u
 have hc0 : ((⟨#[0]⟩ : ByteArray)[0]'Nat.zero_lt_one) = 0 := rfl
 have hc1 : (((⟨#[0]⟩ : ByteArray)[0]'Nat.zero_lt_one).toNat : Int) = 0 := rfl
 go_enter Tryz.func116,Tryz.ntmps116
 go_wp2
 · have hl : s.data.toList = [] := by rw [<- Lib.toList_data]; assumption
   go_ret
   refine ⟨?_,Below.refl _ _⟩
   have hs0 : s = ⟨#[]⟩ := by rw [<- Lib.mk_data s,hl]
   rw [hl]
   simp [Lib.trimB,Lib.trimLeftB,Lib.trimRightB,hs0]
 · exfalso
   have h1 : ¬ s.toList = [] := by assumption
   have h2 : s.toList.isEmpty = true := by assumption
   exact h1 (by simpa using h2)
 · go_region_law (first
     | (go_simp; go_at_call 137; refine (K1.out _).mono ?_; rintro e w1 ⟨rfl,rfl⟩)
     | (go_simp; go_at_call 136; refine (K2.out _).mono ?_; rintro e w1 ⟨rfl,rfl⟩))
   all_goals (go_wp2; go_ret; exact ⟨rfl,(Below.refl _ _).drew⟩)
 all_goals (
   exfalso
   have h1 : (128 : Int) <= (((⟨#[0]⟩ : ByteArray)[0]'Nat.zero_lt_one).toNat : Int) := by assumption
   rw [hc1] at h1
   omega)
end Go.Proofs.YtchhojkhfdkhfaaGreatDoor
