/- Joined texts. -/
import Derived.Test.YtchhojkhfdkhfaaGreatDoorP00
namespace Go.Proofs.YtchhojkhfdkhfaaGreatDoor
open Frm

def wl (o : Nat) : List (ByteArray × ByteArray) -> Nat -> List (Nat × ByteArray)
 | [],_ => []
 | x :: l,i => if x.1 = x.2 then wl o l (i + 1) else (o + i,x.2) :: wl o l (i + 1)
def puts (o : Nat) : List (ByteArray × ByteArray) -> Nat -> St -> Nat × St
 | [],_,st => (0,st)
 | x :: l,i,st => if x.1 = x.2 then puts o l (i + 1) st else if (st.write ((o + i : Nat) : Int) x.2).1 = 0 then puts o l (i + 1) (st.write ((o + i : Nat) : Int) x.2).2 else st.write ((o + i : Nat) : Int) x.2
def made (o : Nat) (l : List (ByteArray × ByteArray)) (st : St) : Nat × St :=
 if (puts o l 0 st).1 ≠ 0 then puts o l 0 st else if wl o l 0 = [] then (0,(puts o l 0 st).2) else (puts o l 0 st).2.sync
theorem write_in (st : St) (b : Nat) (d : ByteArray) (hb : b < st.sure.length) (hd : d.size = 256) : st.write (b : Int) d = (if st.left = 0 then (50,st) else (0,⟨st.sure,st.loose ++ [(b,d)],counted st.left⟩)) := by
 unfold St.write
 split
 · rfl
 · rw [if_neg (fun h => h ⟨by omega,by omega⟩),if_neg (by omega),Int.toNat_natCast]
theorem puts_some (o : Nat) : ∀ (l : List (ByteArray × ByteArray)) (i : Nat) (st : St),o + i + l.length <= st.sure.length -> (∀ x ∈ l,x.2.size = 256) ->
   ∃ W c,(puts o l i st).2 = ⟨st.sure,st.loose ++ W,c⟩ /\ W <+: wl o l i /\ (((puts o l i st).1 = 0 /\ W = wl o l i) \/ (puts o l i st).1 = 50) /\ (st.left = -1 -> (puts o l i st).1 = 0 /\ c = -1)
 | [],_,st,_,_ => ⟨[],st.left,by unfold puts; simp,List.prefix_refl _,Or.inl ⟨rfl,rfl⟩,fun h => ⟨rfl,h⟩⟩
 | x :: l,i,st,hl,hs => by
   rw [List.length_cons] at hl
   unfold puts wl
   by_cases e : x.1 = x.2
   · rw [if_pos e,if_pos e]
     exact puts_some o l (i + 1) st (by omega) (fun y hy => hs y (List.mem_cons_of_mem _ hy))
   · rw [if_neg e,if_neg e]
     have hw := write_in st (o + i) x.2 (by omega) (hs x (by simp))
     by_cases h0 : st.left = 0
     · rw [if_pos h0] at hw
       rw [hw]
       refine ⟨[],st.left,by simp,List.nil_prefix,Or.inr (by simp),fun h => by omega⟩
     · rw [if_neg h0] at hw
       rw [hw]
       obtain ⟨W,c,h1,h2,h3,h4⟩ := puts_some o l (i + 1) ⟨st.sure,st.loose ++ [(o + i,x.2)],counted st.left⟩ (by show _ <= st.sure.length; omega) (fun y hy => hs y (List.mem_cons_of_mem _ hy))
       simp only [if_true]
       refine ⟨(o + i,x.2) :: W,c,by rw [h1]; simp,List.cons_prefix_cons.2 ⟨rfl,h2⟩,?_,fun h => h4 (by rw [h]; rfl)⟩
       rcases h3 with ⟨h5,h6⟩ | h5
       · exact Or.inl ⟨h5,by rw [h6]⟩
       · exact Or.inr h5
theorem wl_ge (o : Nat) : ∀ (l : List (ByteArray × ByteArray)) (i : Nat), ∀ w ∈ wl o l i,o + i <= w.1
 | [],_,w,h => absurd h (by simp [wl])
 | x :: l,i,w,h => by
   unfold wl at h
   split at h
   · have := wl_ge o l (i + 1) w h; omega
   · rcases List.mem_cons.1 h with rfl | h
     · exact Nat.le_refl _
     · have := wl_ge o l (i + 1) w h; omega
theorem wl_mem (o : Nat) : ∀ (l : List (ByteArray × ByteArray)) (i : Nat), ∀ w ∈ wl o l i, ∃ (j : Nat) (hj : j < l.length),w = (o + i + j,l[j].2)
 | [],_,w,h => absurd h (by simp [wl])
 | x :: l,i,w,h => by
   unfold wl at h
   split at h
   · obtain ⟨j,hj,e⟩ := wl_mem o l (i + 1) w h
     exact ⟨j + 1,by simpa using hj,by rw [e]; simp; omega⟩
   · rcases List.mem_cons.1 h with rfl | h
     · exact ⟨0,by simp,by simp⟩
     · obtain ⟨j,hj,e⟩ := wl_mem o l (i + 1) w h
       exact ⟨j + 1,by simpa using hj,by rw [e]; simp; omega⟩
theorem crashed_other (picks : List Int) : ∀ (W : List (Nat × ByteArray)) (i : Nat) (s : List ByteArray) (k : Nat),(∀ w ∈ W,w.1 ≠ k) -> (crashed s picks i W).getD k noText = s.getD k noText
 | [],_,_,_,_ => rfl
 | w :: W,i,s,k,h => by
   unfold crashed
   rw [crashed_other picks W (i + 1) _ k (fun x hx => h x (List.mem_cons_of_mem _ hx)),getD_set_other _ _ _ _ (h w (by simp))]
def Rises : List (Nat × ByteArray) -> Prop
 | [] => True
 | w :: l => (∀ x ∈ l,w.1 < x.1) /\ Rises l
theorem wl_rises (o : Nat) : ∀ (l : List (ByteArray × ByteArray)) (i : Nat),Rises (wl o l i)
 | [],_ => trivial
 | x :: l,i => by
   unfold wl
   split
   · exact wl_rises o l (i + 1)
   · exact ⟨fun y hy => by have := wl_ge o l (i + 1) y hy; show o + i < y.1; omega,wl_rises o l (i + 1)⟩
theorem Rises.front : ∀ {W V : List (Nat × ByteArray)},Rises V -> W <+: V -> Rises W
 | [],_,_,_ => trivial
 | w :: W,[],_,h => absurd h (by simp)
 | w :: W,v :: V,hr,h => by
   obtain ⟨rfl,h2⟩ := List.cons_prefix_cons.1 h
   exact ⟨fun x hx => hr.1 x (h2.subset hx),hr.2.front h2⟩
theorem crashed_once (picks : List Int) : ∀ (W : List (Nat × ByteArray)) (i : Nat) (s : List ByteArray) (k : Nat),Rises W -> (∀ w ∈ W,w.1 < s.length) ->
   (crashed s picks i W).getD k noText = s.getD k noText \/ ∃ d p,(k,d) ∈ W /\ (crashed s picks i W).getD k noText = torn (s.getD k noText) d p
 | [],_,_,_,_,_ => Or.inl rfl
 | w :: W,i,s,k,hr,hl => by
   unfold crashed
   by_cases e : w.1 = k
   · right
     refine ⟨w.2,picks.getD i 0,by rw [<- e]; simp,?_⟩
     rw [crashed_other picks W (i + 1) _ k (fun x hx => by have := hr.1 x hx; omega), <- e,getD_set_same _ _ _ (hl w (by simp))]
   · rcases crashed_once picks W (i + 1) (s.set w.1 (torn (s.getD w.1 noText) w.2 (picks.getD i 0))) k hr.2 (fun x hx => by rw [List.length_set]; exact hl x (List.mem_cons_of_mem _ hx)) with h | ⟨d,p,h1,h2⟩
     · left; rw [h,getD_set_other _ _ _ _ e]
     · right; exact ⟨d,p,List.mem_cons_of_mem _ h1,by rw [h2,getD_set_other _ _ _ _ e]⟩
theorem laid_other : ∀ (W : List (Nat × ByteArray)) (s : List ByteArray) (k : Nat),(∀ w ∈ W,w.1 ≠ k) -> (laid s W).getD k noText = s.getD k noText
 | [],_,_,_ => rfl
 | w :: W,s,k,h => by
   unfold laid
   rw [laid_other W _ k (fun x hx => h x (List.mem_cons_of_mem _ hx)),getD_set_other _ _ _ _ (h w (by simp))]
theorem laid_wl (o : Nat) : ∀ (l : List (ByteArray × ByteArray)) (i : Nat) (s : List ByteArray),o + i + l.length <= s.length -> (∀ j (hj : j < l.length),s.getD (o + i + j) noText = l[j].1) -> ∀ j (hj : j < l.length),(laid s (wl o l i)).getD (o + i + j) noText = l[j].2
 | [],_,_,_,_,j,hj => absurd hj (by simp)
 | x :: l,i,s,hl,h,j,hj => by
   rw [List.length_cons] at hl
   have h0 := h 0 (by simp)
   rw [Nat.add_zero] at h0
   unfold wl
   by_cases e : x.1 = x.2
   · rw [if_pos e]
     cases j with
     | zero =>
       rw [laid_other _ _ _ (fun w hw => by have := wl_ge o l (i + 1) w hw; omega),Nat.add_zero,h0]
       exact e
     | succ j =>
       have := laid_wl o l (i + 1) s (by omega) (fun j hj => by
         have := h (j + 1) (by simpa using hj)
         rw [show o + (i + 1) + j = o + i + (j + 1) from by omega]
         exact this) j (by simpa using hj)
       rw [show o + i + (j + 1) = o + (i + 1) + j from by omega]
       exact this
   · rw [if_neg e]
     unfold laid
     cases j with
     | zero =>
       rw [laid_other _ _ _ (fun w hw => by have := wl_ge o l (i + 1) w hw; omega),Nat.add_zero]
       exact getD_set_same _ _ _ (by omega)
     | succ j =>
       have := laid_wl o l (i + 1) (s.set (o + i) x.2) (by rw [List.length_set]; omega) (fun j hj => by
         have := h (j + 1) (by simpa using hj)
         rw [show o + (i + 1) + j = o + i + (j + 1) from by omega,getD_set_other _ _ _ _ (by omega)]
         exact this) j (by simpa using hj)
       rw [show o + i + (j + 1) = o + (i + 1) + j from by omega]
       exact this

def prs (n : Nat) (a b : Nat -> ByteArray) : List (ByteArray × ByteArray) := (List.range n).map fun i => (a i,b i)
theorem prs_length (n : Nat) (a b : Nat -> ByteArray) : (prs n a b).length = n := by unfold prs; simp
theorem prs_at (n : Nat) (a b : Nat -> ByteArray) (j : Nat) (hj : j < (prs n a b).length) : (prs n a b)[j] = (a j,b j) := by simp only [prs,List.getElem_map,List.getElem_range]
structure Safe (G : Nat -> ByteArray -> Prop) (st : St) : Prop where
 len : st.sure.length = 8
 there : ∀ w ∈ st.loose,w.1 < 8 /\ w.2.size = 256
 left : ∀ picks, ∀ k,k < 8 -> G k ((crashed st.sure picks 0 st.loose).getD k noText)
theorem Safe.some {G : Nat -> ByteArray -> Prop} {a b : Nat -> ByteArray} {s : List ByteArray} {W : List (Nat × ByteArray)} {c : Int} (hlen : s.length = 8) (ha : ∀ k,k < 8 -> s.getD k noText = a k) (hb : ∀ k,k < 8 -> (b k).size = 256) (hA : ∀ k,k < 8 -> G k (a k)) (hT : ∀ k,k < 8 -> ∀ p,G k (torn (a k) (b k) p)) (hW : W <+: wl 0 (prs 8 a b) 0) : Safe G ⟨s,W,c⟩ := by
 have hm : ∀ w ∈ W,w.1 < 8 /\ w.2 = b w.1 := fun w hw => by
   obtain ⟨j,hj,e⟩ := wl_mem 0 (prs 8 a b) 0 w (hW.subset hw)
   have hj8 : j < 8 := by rw [prs_length] at hj; exact hj
   rw [prs_at] at e
   rw [e]
   simp only [Nat.zero_add]
   exact ⟨hj8,trivial⟩
 refine ⟨hlen,fun w hw => ⟨(hm w hw).1,by rw [(hm w hw).2]; exact hb _ (hm w hw).1⟩,fun picks k hk => ?_⟩
 show G k ((crashed s picks 0 W).getD k noText)
 rcases crashed_once picks W 0 s k ((wl_rises 0 _ 0).front hW) (fun w hw => by rw [hlen]; exact (hm w hw).1) with h | ⟨d,p,h1,h2⟩
 · rw [h,ha k hk]; exact hA k hk
 · rw [h2,ha k hk]
   have := (hm _ h1).2
   simp only at this
   rw [this]
   exact hT k hk p
theorem made_step {G : Nat -> ByteArray -> Prop} {a b : Nat -> ByteArray} {st : St} (hloose : st.loose = []) (hlen : st.sure.length = 8) (ha : ∀ k,k < 8 -> st.sure.getD k noText = a k) (hb : ∀ k,k < 8 -> (b k).size = 256) (hA : ∀ k,k < 8 -> G k (a k)) (hT : ∀ k,k < 8 -> ∀ p,G k (torn (a k) (b k) p)) (hB : ∀ k,k < 8 -> G k (b k)) :
   ((made 0 (prs 8 a b) st).1 = 0 \/ (made 0 (prs 8 a b) st).1 = 50) /\ Safe G (made 0 (prs 8 a b) st).2 /\
   ((made 0 (prs 8 a b) st).1 = 0 -> (made 0 (prs 8 a b) st).2.loose = [] /\ (made 0 (prs 8 a b) st).2.sure.length = 8 /\ ∀ k,k < 8 -> (made 0 (prs 8 a b) st).2.sure.getD k noText = b k) /\
   (st.left = -1 -> (made 0 (prs 8 a b) st).1 = 0 /\ (made 0 (prs 8 a b) st).2.left = -1) := by
 obtain ⟨W,c,h1,h2,h3,h4⟩ := puts_some 0 (prs 8 a b) 0 st (by rw [prs_length,hlen]; exact Nat.le_refl _) (fun x hx => by
   unfold prs at hx
   obtain ⟨i,hi,rfl⟩ := List.mem_map.1 hx
   exact hb i (List.mem_range.1 hi))
 rw [hloose,List.nil_append] at h1
 have hlaid : ∀ k,k < 8 -> (laid st.sure (wl 0 (prs 8 a b) 0)).getD k noText = b k := fun k hk => by
   have := laid_wl 0 (prs 8 a b) 0 st.sure (by rw [prs_length,hlen]; exact Nat.le_refl _) (fun j hj => by
     rw [prs_at]
     simp only [Nat.zero_add]
     exact ha j (by rw [prs_length] at hj; exact hj)) k (by rw [prs_length]; exact hk)
   rw [prs_at] at this
   simpa using this
 have hsome : ∀ c,Safe G ⟨st.sure,W,c⟩ := fun c => Safe.some hlen ha hb hA hT h2
 unfold made
 by_cases h0 : (puts 0 (prs 8 a b) 0 st).1 = 0
 · rw [if_neg (fun h => h h0)]
   have hWe : W = wl 0 (prs 8 a b) 0 := by
     rcases h3 with h5 | h5
     · exact h5.2
     · rw [h0] at h5; cases h5
   by_cases hn : wl 0 (prs 8 a b) 0 = []
   · rw [if_pos hn,h1]
     have hWn : W = [] := hWe.trans hn
     rw [hn] at hlaid
     refine ⟨Or.inl rfl,hsome c,fun _ => ⟨hWn,hlen,hlaid⟩,fun h => ⟨rfl,(h4 h).2⟩⟩
   · rw [if_neg hn,h1]
     unfold St.sync
     by_cases hc : c = 0
     · rw [if_pos hc]
       exact ⟨Or.inr rfl,hsome c,(fun h => absurd h (show ¬ ((50 : Nat) = 0) from by omega)),(fun h => by have := (h4 h).2; omega)⟩
     · rw [if_neg hc]
       have hl2 : ∀ k,k < 8 -> (laid st.sure W).getD k noText = b k := by rw [hWe]; exact hlaid
       have hll : (laid st.sure W).length = 8 := by rw [laid_length]; exact hlen
       exact ⟨Or.inl rfl,⟨hll,fun w hw => absurd hw (by simp),fun picks k hk => by
         show G k ((crashed (laid st.sure W) picks 0 []).getD k noText)
         unfold crashed
         rw [hl2 k hk]
         exact hB k hk⟩,fun _ => ⟨rfl,hll,hl2⟩,fun h => ⟨rfl,by have := (h4 h).2; rw [this]; rfl⟩⟩
 · rw [if_pos h0,h1]
   have h50 : (puts 0 (prs 8 a b) 0 st).1 = 50 := by
     rcases h3 with h5 | h5
     · exact absurd h5.1 h0
     · exact h5
   refine ⟨Or.inr h50,hsome c,fun h => absurd h h0,fun h => absurd (h4 h).1 h0⟩

def St.at (st : St) (b : Nat) : ByteArray := stands st.sure b st.loose.reverse
def reads (st : St) (o n : Nat) : List ByteArray := (List.range n).map fun i => st.at (o + i)
def recount (c s : ByteArray) (k : Nat) : ByteArray := c.extract 0 255 ++ (blkOf s k).extract 255 256
def kept (l : List ByteArray) : ByteArray := (streamOf l).extract 0 (scn (streamOf l)).2.1
def walOpen (st : St) (o n : Nat) : (Nat × ByteArray × List ByteArray) × St :=
 if st.left = 0 then ((50,noText,[]),st)
 else if (scn (streamOf (reads st o n))).2.2 = 41 \/ (scn (streamOf (reads st o n))).2.2 = 4 then ((60,noText,[]),st)
 else if (made o (prs n (fun i => st.at (o + i)) (fun i => recount (st.at (o + i)) (kept (reads st o n)) i)) st).1 ≠ 0 then
   (((made o (prs n (fun i => st.at (o + i)) (fun i => recount (st.at (o + i)) (kept (reads st o n)) i)) st).1,noText,[]),(made o (prs n (fun i => st.at (o + i)) (fun i => recount (st.at (o + i)) (kept (reads st o n)) i)) st).2)
 else if (made o (prs n (fun i => recount (st.at (o + i)) (kept (reads st o n)) i) (fun i => blkOf (kept (reads st o n)) i)) (made o (prs n (fun i => st.at (o + i)) (fun i => recount (st.at (o + i)) (kept (reads st o n)) i)) st).2).1 ≠ 0 then
   (((made o (prs n (fun i => recount (st.at (o + i)) (kept (reads st o n)) i) (fun i => blkOf (kept (reads st o n)) i)) (made o (prs n (fun i => st.at (o + i)) (fun i => recount (st.at (o + i)) (kept (reads st o n)) i)) st).2).1,noText,[]),(made o (prs n (fun i => recount (st.at (o + i)) (kept (reads st o n)) i) (fun i => blkOf (kept (reads st o n)) i)) (made o (prs n (fun i => st.at (o + i)) (fun i => recount (st.at (o + i)) (kept (reads st o n)) i)) st).2).2)
 else ((0,kept (reads st o n),(scn (streamOf (reads st o n))).1),(made o (prs n (fun i => recount (st.at (o + i)) (kept (reads st o n)) i) (fun i => blkOf (kept (reads st o n)) i)) (made o (prs n (fun i => st.at (o + i)) (fun i => recount (st.at (o + i)) (kept (reads st o n)) i)) st).2).2)
theorem recount_size {c s : ByteArray} {k : Nat} (hc : c.size = 256) : (recount c s k).size = 256 := by
 unfold recount
 rw [ByteArray.size_append,part_size c 0 255 (by omega),part_size (blkOf s k) 255 256 (by rw [blkOf_size]; omega)]
theorem recount_at {c s : ByteArray} {k j : Nat} (hc : c.size = 256) (hj : j < 255) : byteAt (recount c s k) j = byteAt c j := by
 unfold recount
 rw [byteAt_append_left (by rw [part_size c 0 255 (by omega)]; omega),byteAt_part c 0 255 j (by omega) (by omega),Nat.zero_add]
theorem recount_last {c s : ByteArray} {k : Nat} (hc : c.size = 256) : byteAt (recount c s k) 255 = byteAt (blkOf s k) 255 := by
 unfold recount
 have h1 := part_size c 0 255 (by omega)
 rw [byteAt_append_right (by omega),h1,byteAt_part (blkOf s k) 255 256 0 (by rw [blkOf_size]; omega) (by omega)]
theorem Good.recount {S : ByteArray} {k m g : Nat} {c : ByteArray} (h : Good S k m c) (hg : g <= S.size) (hle : cnt k g <= cnt k m) : Good S k g (recount c (S.extract 0 g) k) := by
 have hs := pre_size S g hg
 refine ⟨recount_size h.size,?_,fun j hj => ?_⟩
 · unfold countOf
   rw [recount_last h.size]
   have := countOf_blk (S.extract 0 g) k
   unfold countOf at this
   rw [this,hs]
 · have := cnt_le k g
   rw [recount_at h.size (by omega)]
   exact h.data j (by omega)
theorem torn_recount {c s : ByteArray} {k : Nat} (hc : c.size = 256) (p : Int) : torn c (recount c s k) p = c \/ torn c (recount c s k) p = recount c s k := by
 have hd := recount_size (s := s) (k := k) hc
 have ht := torn_size c (recount c s k) p hc hd
 by_cases hp : 256 <= p
 · right
   unfold torn
   rw [show max (min p 256) 0 = 256 from by omega,hc]
   show (recount c s k).extract 0 256 ++ c.extract 256 256 = _
   apply ByteArray.ext
   have h2 : (recount c s k).data.size = 256 := hd
   rw [ByteArray.data_append,ByteArray.data_extract,ByteArray.data_extract, <- h2,Array.extract_size,Array.extract_empty_of_stop_le_start (Nat.le_refl _),Array.append_empty]
 · left
   obtain ⟨q,hq⟩ : ∃ q : Nat,max (min p 256) 0 = (q : Int) := ⟨(max (min p 256) 0).toNat,by omega⟩
   refine bytes_ext (by rw [ht,hc]) (fun j hj => ?_)
   rw [ht] at hj
   unfold torn
   rw [hq,Int.toNat_natCast,hc]
   have hsz : ((recount c s k).extract 0 q).size = q := by rw [part_size _ _ _ (by omega)]; omega
   by_cases e : j < q
   · rw [byteAt_append_left (by omega),byteAt_part _ 0 q j (by omega) (by omega),Nat.zero_add,recount_at hc (by omega)]
   · rw [byteAt_append_right (by omega),hsz,byteAt_part c q 256 (j - q) (by omega) (by omega)]
     congr 1
     omega
theorem find_end : ∀ (l : List ByteArray) (c : Nat),c <= (cat l).size -> ∃ r,r <= l.length /\ ends l r <= c /\ (r < l.length -> c < ends l (r + 1))
 | [],c,_ => ⟨0,Nat.le_refl _,Nat.zero_le _,fun h => absurd h (by simp)⟩
 | t :: l,c,hc => by
   have hcs : (cat (t :: l)).size = t.size + 8 + (cat l).size := by
     show (frm t ++ cat l).size = _
     rw [ByteArray.size_append,frm_size]
   by_cases h : c < t.size + 8
   · exact ⟨0,Nat.zero_le _,Nat.zero_le _,fun _ => by rw [ends_cons,ends_zero]; omega⟩
   · obtain ⟨r,h1,h2,h3⟩ := find_end l (c - (t.size + 8)) (by omega)
     refine ⟨r + 1,by simpa using h1,by rw [ends_cons]; omega,fun h4 => ?_⟩
     have := h3 (by simpa using h4)
     rw [ends_cons]
     omega
theorem ends_up (l : List ByteArray) : ∀ (d r : Nat),r + d <= l.length -> ends l r <= ends l (r + d)
 | 0,_,_ => Nat.le_refl _
 | d + 1,r,h => by
   have h1 := ends_mono l (r + d) (by omega)
   have h2 := ends_up l d r (by omega)
   rw [show r + (d + 1) = r + d + 1 from by omega]
   omega
theorem cat_take (l : List ByteArray) (r : Nat) : (cat l).extract 0 (ends l r) = cat (l.take r) := by
 induction l generalizing r with
 | nil =>
   have : ends [] r = 0 := by unfold ends; rw [List.take_nil]; rfl
   rw [this,List.take_nil]
   exact bytes_ext (by rw [part_size _ _ _ (Nat.zero_le _)]; rfl) (fun j hj => absurd hj (by rw [part_size _ _ _ (Nat.zero_le _)]; omega))
 | cons t l ih =>
   cases r with
   | zero =>
     rw [ends_zero,List.take_zero]
     exact bytes_ext (by rw [part_size _ _ _ (Nat.zero_le _)]; rfl) (fun j hj => absurd hj (by rw [part_size _ _ _ (Nat.zero_le _)]; omega))
   | succ r =>
     rw [ends_cons,List.take_succ_cons]
     show (frm t ++ cat l).extract 0 _ = frm t ++ cat (l.take r)
     rw [extract_append_left _ _ _ _ (frm_size t) (by omega), <- ih r,show t.size + 8 + ends l r - (t.size + 8) = ends l r from by omega]
def Fine (S : ByteArray) (m0 k : Nat) (c : ByteArray) : Prop := ∃ m,m0 <= m /\ m <= S.size /\ Good S k m c
theorem at_bare (st : St) (h : st.loose = []) (b : Nat) : st.at b = st.sure.getD b noText := by
 unfold St.at
 rw [h]
 rfl
theorem list8 {s : List ByteArray} (h : s.length = 8) (f : Nat -> ByteArray) (hf : ∀ k,k < 8 -> s.getD k noText = f k) : s = (List.range 8).map f := by
 apply List.ext_getElem (by simp [h])
 intro i h1 h2
 have := hf i (by omega)
 rw [List.getD_eq_getElem?_getD,List.getElem?_eq_getElem h1,Option.getD_some] at this
 rw [this]
 simp
set_option maxRecDepth 10000 in
theorem open_any (all : List ByteArray) (hall : ∀ t ∈ all,t.size <= 65536) (hS : (cat all).size <= 2040) (r0 : Nat) (hr0 : r0 <= all.length) (st : St) (hloose : st.loose = []) (hlen : st.sure.length = 8) (hfine : ∀ k,k < 8 -> Fine (cat all) (ends all r0) k (st.sure.getD k noText)) :
   ∃ r,r0 <= r /\ r <= all.length /\ ((walOpen st 0 8).1.1 = 0 \/ (walOpen st 0 8).1.1 = 50) /\ Safe (Fine (cat all) (ends all r0)) (walOpen st 0 8).2 /\
     (st.left = -1 -> walOpen st 0 8 = ((0,cat (all.take r),all.take r),⟨(List.range 8).map (blkOf (cat (all.take r))),[], -1⟩)) := by
 have hat : ∀ i,st.at (0 + i) = st.sure.getD i noText := fun i => by rw [Nat.zero_add]; exact at_bare st hloose i
 have hrl : (reads st 0 8).length = 8 := by unfold reads; simp
 have hri : ∀ i (hi : i < (reads st 0 8).length),(reads st 0 8)[i] = st.sure.getD i noText := fun i hi => by
   simp only [reads,List.getElem_map,List.getElem_range]
   exact hat i
 have hm0 := ends_le all r0
 obtain ⟨ms,g1,g2,g3,g4,g5,g6⟩ := stream_good (cat all) (ends all r0) (reads st 0 8) 0 (fun i hi => by
   rw [hri i hi,Nat.zero_add]
   exact hfine i (by omega)) (by omega)
 rw [hrl] at g3 g5
 rw [Nat.zero_mul] at g4
 have hms : ends all r0 <= ms := by rcases g5 with h | h <;> omega
 obtain ⟨r,q1,q2,q3⟩ := find_end all ms g2
 have hrr : r0 <= r := by
   rcases Nat.lt_or_ge r r0 with h | h
   · have h1 := q3 (by omega)
     have h2 := ends_up all (r0 - (r + 1)) (r + 1) (by omega)
     rw [show r + 1 + (r0 - (r + 1)) = r0 from by omega] at h2
     omega
   · exact h
 have hsc := scn_cut all ms r hall q1 q2 g2 q3
 have hgl := ends_le all r
 have hk : kept (reads st 0 8) = (cat all).extract 0 (ends all r) := by
   unfold kept
   rw [g4,hsc]
   show ((cat all).extract 0 ms).extract 0 (ends all r) = _
   exact bytes_ext (by rw [part_size _ _ _ (by rw [part_size _ _ _ g2]; omega),part_size _ _ _ hgl]) (fun j hj => by
     rw [part_size _ _ _ (by rw [part_size _ _ _ g2]; omega)] at hj
     rw [byteAt_part _ 0 _ j (by rw [part_size _ _ _ g2]; omega) (by omega),byteAt_part _ 0 _ (0 + j) g2 (by omega),byteAt_part _ 0 _ j hgl (by omega),Nat.zero_add])
 have hge : ends all r0 <= ends all r := by
   have := ends_up all (r - r0) r0 (by omega)
   rw [show r0 + (r - r0) = r from by omega] at this
   exact this
 have hcnt : ∀ k,k < 8 -> ∀ m,Good (cat all) k m (st.sure.getD k noText) -> cnt k (ends all r) <= cnt k m := fun k hk8 m hgm => by
   have h1 := g6 k (by omega)
   rw [hri k (by omega),Nat.zero_add,hgm.count] at h1
   have h2 : cnt k (ends all r) <= cnt k ms := by unfold cnt; omega
   omega
 have hsz : ∀ k,k < 8 -> (st.sure.getD k noText).size = 256 := fun k hk8 => by
   obtain ⟨m,_,_,hgm⟩ := hfine k hk8
   exact hgm.size
 have hA : (fun i => st.at (0 + i)) = fun i => st.sure.getD i noText := funext hat
 have hrec : ∀ k,k < 8 -> Good (cat all) k (ends all r) (recount (st.sure.getD k noText) ((cat all).extract 0 (ends all r)) k) := fun k hk8 => by
   obtain ⟨m,_,_,hgm⟩ := hfine k hk8
   exact hgm.recount hgl (hcnt k hk8 m hgm)
 have s1 := made_step (G := Fine (cat all) (ends all r0)) (a := fun i => st.sure.getD i noText) (b := fun i => recount (st.sure.getD i noText) ((cat all).extract 0 (ends all r)) i) hloose hlen (fun k _ => rfl) (fun k hk8 => recount_size (hsz k hk8)) hfine (fun k hk8 p => by
   rcases torn_recount (s := (cat all).extract 0 (ends all r)) (k := k) (hsz k hk8) p with h | h
   · rw [h]; exact hfine k hk8
   · rw [h]; exact ⟨ends all r,hge,hgl,hrec k hk8⟩) (fun k hk8 => ⟨ends all r,hge,hgl,hrec k hk8⟩)
 refine ⟨r,hrr,q1,?_⟩
 unfold walOpen
 by_cases hl0 : st.left = 0
 · rw [if_pos hl0]
   exact ⟨Or.inr rfl,⟨hlen,fun w hw => absurd hw (by rw [hloose]; simp),fun picks k hk8 => by rw [hloose]; unfold crashed; exact hfine k hk8⟩,fun h => by omega⟩
 rw [if_neg hl0,g4,hsc]
 rw [if_neg (by show ¬ ((if ends all r = ms then 0 else 40) = 41 \/ (if ends all r = ms then 0 else 40) = 4); split <;> omega)]
 rw [hk]
 simp only [hat]
 generalize hq1 : made 0 (prs 8 (fun i => st.sure.getD i noText) (fun i => recount (st.sure.getD i noText) ((cat all).extract 0 (ends all r)) i)) st = Q1 at *
 obtain ⟨t1,t2,t3,t4⟩ := s1
 by_cases he1 : Q1.1 = 0
 · rw [if_neg (fun h => h he1)]
   obtain ⟨u1,u2,u3⟩ := t3 he1
   have s2 := made_step (G := Fine (cat all) (ends all r0)) (st := Q1.2) (a := fun i => recount (st.sure.getD i noText) ((cat all).extract 0 (ends all r)) i) (b := fun i => blkOf ((cat all).extract 0 (ends all r)) i) u1 u2 u3 (fun k _ => blkOf_size _ _) (fun k hk8 => ⟨ends all r,hge,hgl,hrec k hk8⟩) (fun k hk8 p => by
     rcases (hrec k hk8).torn (Nat.le_refl _) hgl p with h | h
     · exact ⟨ends all r,hge,hgl,h⟩
     · exact ⟨ends all r,hge,hgl,h⟩) (fun k _ => ⟨ends all r,hge,hgl,Good.pre _ k _ hgl⟩)
   generalize hq2 : made 0 (prs 8 (fun i => recount (st.sure.getD i noText) ((cat all).extract 0 (ends all r)) i) (fun i => blkOf ((cat all).extract 0 (ends all r)) i)) Q1.2 = Q2 at *
   obtain ⟨v1,v2,v3,v4⟩ := s2
   by_cases he2 : Q2.1 = 0
   · rw [if_neg (fun h => h he2)]
     obtain ⟨x1,x2,x3⟩ := v3 he2
     refine ⟨Or.inl rfl,v2,fun h => ?_⟩
     have hleft := (v4 (t4 h).2).2
     have hsure := list8 x2 (blkOf ((cat all).extract 0 (ends all r))) x3
     obtain ⟨e2,⟨sure2,loose2,left2⟩⟩ := Q2
     simp only at x1 hleft hsure
     subst x1 hleft hsure
     rw [cat_take]
   · rw [if_pos he2]
     refine ⟨v1,v2,fun h => absurd (v4 (t4 h).2).1 he2⟩
 · rw [if_pos he1]
   exact ⟨t1,t2,fun h => absurd (t4 h).1 he1⟩

theorem laid_append : ∀ (l m : List (Nat × ByteArray)) (s : List ByteArray),laid s (l ++ m) = laid (laid s l) m
 | [],_,_ => rfl
 | w :: l,m,s => by
   show laid (s.set w.1 w.2) (l ++ m) = laid (laid (s.set w.1 w.2) l) m
   exact laid_append l m _
def vw (S : ByteArray) (v : Nat × Nat) : Nat × ByteArray := (v.1,blkOf (S.extract 0 v.2) v.1)
def Grows (S : ByteArray) : Nat -> List (Nat × Nat) -> Prop
 | _,[] => True
 | b,v :: V => v.1 < 8 /\ b <= v.2 /\ v.2 <= S.size /\ Grows S v.2 V
theorem Grows.mem {S : ByteArray} : ∀ {b : Nat} {V : List (Nat × Nat)},Grows S b V -> ∀ v ∈ V,v.1 < 8 /\ b <= v.2 /\ v.2 <= S.size
 | _,[],_,_,h => absurd h (by simp)
 | b,u :: V,hg,v,h => by
   rcases List.mem_cons.1 h with rfl | h
   · exact ⟨hg.1,hg.2.1,hg.2.2.1⟩
   · have := hg.2.2.2.mem v h
     exact ⟨this.1,Nat.le_trans hg.2.1 this.2.1,this.2.2⟩
theorem crash_grows (S : ByteArray) (m0 : Nat) (picks : List Int) : ∀ (V : List (Nat × Nat)) (i b : Nat) (s : List ByteArray),s.length = 8 -> Grows S b V -> b <= S.size -> (∀ k,k < 8 -> ∃ m,m0 <= m /\ m <= b /\ Good S k m (s.getD k noText)) ->
   ∀ k,k < 8 -> Fine S m0 k ((crashed s picks i (V.map (vw S))).getD k noText)
 | [],_,b,s,_,_,hb,h,k,hk => by
   obtain ⟨m,h1,h2,h3⟩ := h k hk
   exact ⟨m,h1,by omega,h3⟩
 | v :: V,i,b,s,hs,hg,_,h,k,hk => by
   rw [List.map_cons]
   unfold crashed
   refine crash_grows S m0 picks V (i + 1) v.2 _ (by rw [List.length_set]; exact hs) hg.2.2.2 hg.2.2.1 (fun j hj => ?_) k hk
   show ∃ m,m0 <= m /\ m <= v.2 /\ Good S j m ((s.set v.1 (torn (s.getD v.1 noText) (blkOf (S.extract 0 v.2) v.1) (picks.getD i 0))).getD j noText)
   by_cases e : v.1 = j
   · rw [<- e,getD_set_same _ _ _ (by rw [hs]; exact hg.1)]
     obtain ⟨m,h1,h2,h3⟩ := h v.1 hg.1
     rcases h3.torn (m' := v.2) (by have := hg.2.1; omega) hg.2.2.1 (picks.getD i 0) with h4 | h4
     · exact ⟨m,h1,by have := hg.2.1; omega,h4⟩
     · exact ⟨v.2,by have := hg.2.1; omega,Nat.le_refl _,h4⟩
   · rw [getD_set_other _ _ _ _ e]
     obtain ⟨m,h1,h2,h3⟩ := h j hj
     exact ⟨m,h1,by have := hg.2.1; omega,h3⟩
structure Live (all : List ByteArray) (r0 : Nat) (st : St) : Prop where
 short : ∀ t ∈ all,t.size <= 65536
 fits : (cat all).size <= 2040
 some : r0 <= all.length
 left : st.left = -1
 len : st.sure.length = 8
 sure : ∀ k,k < 8 -> st.sure.getD k noText = blkOf (cat (all.take r0)) k
 now : ∀ k,k < 8 -> (laid st.sure st.loose).getD k noText = blkOf (cat all) k
 loose : ∃ V,st.loose = V.map (vw (cat all)) /\ Grows (cat all) (ends all r0) V
theorem Live.ok {all : List ByteArray} {r0 : Nat} {st : St} (h : Live all r0 st) : st.Ok := by
 obtain ⟨V,hV,hg⟩ := h.loose
 refine ⟨by rw [h.len]; omega,by rw [h.len]; omega,fun s hs => ?_,fun w hw => ?_,by rw [h.left]; omega⟩
 · obtain ⟨i,hi,rfl⟩ := List.getElem_of_mem hs
   have := h.sure i (by rw [h.len] at hi; exact hi)
   rw [List.getD_eq_getElem?_getD,List.getElem?_eq_getElem hi,Option.getD_some] at this
   rw [this]
   exact blkOf_size _ _
 · rw [hV] at hw
   obtain ⟨v,hv,rfl⟩ := List.mem_map.1 hw
   exact ⟨by rw [h.len]; exact (hg.mem v hv).1,blkOf_size _ _⟩
theorem Live.sync {all : List ByteArray} {r0 : Nat} {st : St} (h : Live all r0 st) : st.sync.1 = 0 /\ Live all all.length st.sync.2 := by
 unfold St.sync
 rw [if_neg (by rw [h.left]; omega)]
 refine ⟨rfl,h.short,h.fits,Nat.le_refl _,by show counted st.left = -1; rw [h.left]; rfl,by show (laid _ _).length = 8; rw [laid_length]; exact h.len,fun k hk => ?_,fun k hk => h.now k hk,[],rfl,trivial⟩
 rw [List.take_length]
 exact h.now k hk
theorem Live.crash {all : List ByteArray} {r0 : Nat} {st : St} (h : Live all r0 st) (picks : List Int) : (st.crash picks).loose = [] /\ (st.crash picks).sure.length = 8 /\ (st.crash picks).left = -1 /\ ∀ k,k < 8 -> Fine (cat all) (ends all r0) k ((st.crash picks).sure.getD k noText) := by
 obtain ⟨V,hV,hg⟩ := h.loose
 have hle := ends_le all r0
 refine ⟨rfl,by show (crashed _ _ _ _).length = 8; rw [crashed_length]; exact h.len,rfl,fun k hk => ?_⟩
 show Fine (cat all) (ends all r0) k ((crashed st.sure picks 0 st.loose).getD k noText)
 rw [hV]
 refine crash_grows (cat all) (ends all r0) picks V 0 (ends all r0) st.sure h.len hg hle (fun j hj => ⟨ends all r0,Nat.le_refl _,Nat.le_refl _,?_⟩) k hk
 rw [h.sure j hj, <- cat_take]
 exact Good.pre _ _ _ hle
theorem Live.bare (all : List ByteArray) (hs : ∀ t ∈ all,t.size <= 65536) (hf : (cat all).size <= 2040) : Live all all.length ⟨(List.range 8).map (blkOf (cat all)),[], -1⟩ := by
 have h1 : ∀ k,k < 8 -> ((List.range 8).map (blkOf (cat all))).getD k noText = blkOf (cat all) k := fun k hk => by
   rw [List.getD_eq_getElem?_getD,List.getElem?_eq_getElem (by simp; exact hk),Option.getD_some]
   simp
 exact ⟨hs,hf,Nat.le_refl _,rfl,by simp,fun k hk => by rw [List.take_length]; exact h1 k hk,h1,[],rfl,trivial⟩
def walAppend (st : St) (o n : Nat) (stream rec : ByteArray) : Nat × ByteArray × St :=
 if 65536 < rec.size then (4,stream,st)
 else if n * 255 < stream.size + (rec.size + 8) then (6,stream,st)
 else if (puts o (prs n (blkOf stream) (blkOf (stream ++ frm rec))) 0 st).1 ≠ 0 then ((puts o (prs n (blkOf stream) (blkOf (stream ++ frm rec))) 0 st).1,stream,(puts o (prs n (blkOf stream) (blkOf (stream ++ frm rec))) 0 st).2)
 else (0,stream ++ frm rec,(puts o (prs n (blkOf stream) (blkOf (stream ++ frm rec))) 0 st).2)
theorem pre_append (S T : ByteArray) (m : Nat) (h : m <= S.size) : (S ++ T).extract 0 m = S.extract 0 m := by
 have hs : (S ++ T).size = S.size + T.size := ByteArray.size_append
 refine bytes_ext (by rw [part_size _ _ _ (by omega),part_size _ _ _ h]) (fun j hj => ?_)
 rw [part_size _ _ _ (by omega)] at hj
 rw [byteAt_part _ 0 m j (by omega) (by omega),byteAt_part _ 0 m j h (by omega),Nat.zero_add,byteAt_append_left (by omega)]
theorem pre_all (S : ByteArray) : S.extract 0 S.size = S := by
 refine bytes_ext (by rw [part_size _ _ _ (Nat.le_refl _)]; omega) (fun j hj => ?_)
 rw [part_size _ _ _ (Nat.le_refl _)] at hj
 rw [byteAt_part _ 0 _ j (Nat.le_refl _) (by omega),Nat.zero_add]
theorem Grows.longer {S T : ByteArray} : ∀ {b : Nat} {V : List (Nat × Nat)},Grows S b V -> Grows (S ++ T) b V /\ V.map (vw S) = V.map (vw (S ++ T))
 | _,[],_ => ⟨trivial,rfl⟩
 | b,v :: V,h => by
   have ih := h.2.2.2.longer (T := T)
   have hs : (S ++ T).size = S.size + T.size := ByteArray.size_append
   refine ⟨⟨h.1,h.2.1,by have := h.2.2.1; omega,ih.1⟩,?_⟩
   rw [List.map_cons,List.map_cons,ih.2]
   congr 1
   unfold vw
   rw [pre_append S T v.2 h.2.2.1]
theorem Grows.snoc {S : ByteArray} : ∀ {b : Nat} {V W : List (Nat × Nat)} (_ : Grows S b V) (_ : ∀ v ∈ W,v.1 < 8 /\ v.2 = S.size) (_ : b <= S.size),Grows S b (V ++ W)
 | b,[],[],_,_,_ => trivial
 | b,[],w :: W,_,hW,hb => by
   have h1 := hW w (by simp)
   refine ⟨h1.1,by rw [h1.2]; exact hb,by rw [h1.2]; exact Nat.le_refl _,?_⟩
   have := Grows.snoc (S := S) (b := w.2) (V := []) (W := W) trivial (fun v hv => hW v (List.mem_cons_of_mem _ hv)) (by rw [h1.2]; exact Nat.le_refl _)
   exact this
 | b,v :: V,W,hg,hW,_ => ⟨hg.1,hg.2.1,hg.2.2.1,hg.2.2.2.snoc hW hg.2.2.1⟩
theorem wl_vw (S T : ByteArray) : ∀ w ∈ wl 0 (prs 8 (blkOf S) (blkOf T)) 0, ∃ k,k < 8 /\ w = vw T (k,T.size) := fun w hw => by
 obtain ⟨j,hj,e⟩ := wl_mem 0 _ 0 w hw
 rw [prs_at] at e
 refine ⟨j,by rw [prs_length] at hj; exact hj,?_⟩
 unfold vw
 rw [e,pre_all]
 simp
theorem all_vw (T : ByteArray) : ∀ (W : List (Nat × ByteArray)),(∀ w ∈ W, ∃ k,k < 8 /\ w = vw T (k,T.size)) -> ∃ V : List (Nat × Nat),W = V.map (vw T) /\ ∀ v ∈ V,v.1 < 8 /\ v.2 = T.size
 | [],_ => ⟨[],rfl,by simp⟩
 | w :: W,h => by
   obtain ⟨V,h1,h2⟩ := all_vw T W (fun x hx => h x (List.mem_cons_of_mem _ hx))
   obtain ⟨k,hk,e⟩ := h w (by simp)
   refine ⟨(k,T.size) :: V,by rw [List.map_cons, <- h1,e],fun v hv => ?_⟩
   rcases List.mem_cons.1 hv with rfl | hv
   · exact ⟨hk,rfl⟩
   · exact h2 v hv

theorem ends_snoc (all : List ByteArray) (t : ByteArray) (r : Nat) (h : r <= all.length) : ends (all ++ [t]) r = ends all r := by
 unfold ends
 rw [List.take_append_of_le_length h]
theorem Live.append {all : List ByteArray} {r0 : Nat} {st : St} (h : Live all r0 st) (t : ByteArray) (h1 : t.size <= 65536) (h2 : (cat all).size + (t.size + 8) <= 2040) :
   ∃ st',walAppend st 0 8 (cat all) t = (0,cat (all ++ [t]),st') /\ Live (all ++ [t]) r0 st' := by
 obtain ⟨V,hV,hg⟩ := h.loose
 obtain ⟨W,c,p1,p2,p3,p4⟩ := puts_some 0 (prs 8 (blkOf (cat all)) (blkOf (cat all ++ frm t))) 0 st (by rw [prs_length,h.len]; exact Nat.le_refl _) (fun x hx => by
   unfold prs at hx
   obtain ⟨i,hi,rfl⟩ := List.mem_map.1 hx
   exact blkOf_size _ _)
 obtain ⟨p5,p6⟩ := p4 h.left
 have hW : W = wl 0 (prs 8 (blkOf (cat all)) (blkOf (cat all ++ frm t))) 0 := by
   rcases p3 with h5 | h5
   · exact h5.2
   · rw [p5] at h5; cases h5
 have hcs : (cat (all ++ [t])).size = (cat all).size + (t.size + 8) := by rw [cat_snoc,ByteArray.size_append,frm_size]
 refine ⟨⟨st.sure,st.loose ++ W,c⟩,?_,?_⟩
 · unfold walAppend
   rw [if_neg (by omega),if_neg (by omega),if_neg (fun h => h p5),p1,cat_snoc]
 · obtain ⟨U,e1,e2⟩ := all_vw (cat all ++ frm t) W (fun w hw => wl_vw (cat all) (cat all ++ frm t) w (by rw [<- hW]; exact hw))
   have hl := hg.longer (T := frm t)
   have hb := ends_le all r0
   refine ⟨fun x hx => ?_,by omega,by rw [List.length_append]; have := h.some; omega,p6,h.len,fun k hk => ?_,fun k hk => ?_,V ++ U,?_,?_⟩
   · rcases List.mem_append.1 hx with hx | hx
     · exact h.short x hx
     · rw [List.mem_singleton.1 hx]; exact h1
   · rw [List.take_append_of_le_length h.some]
     exact h.sure k hk
   · show (laid st.sure (st.loose ++ W)).getD k noText = _
     rw [laid_append,hW]
     have := laid_wl 0 (prs 8 (blkOf (cat all)) (blkOf (cat all ++ frm t))) 0 (laid st.sure st.loose) (by rw [prs_length,laid_length,h.len]; exact Nat.le_refl _) (fun j hj => by
       rw [prs_at]
       simp only [Nat.zero_add]
       exact h.now j (by rw [prs_length] at hj; exact hj)) k (by rw [prs_length]; exact hk)
     rw [prs_at] at this
     simp only [Nat.zero_add] at this
     rw [this,cat_snoc]
   · show st.loose ++ W = _
     rw [List.map_append,cat_snoc, <- hl.2, <- hV, <- e1]
   · rw [ends_snoc _ _ _ h.some,cat_snoc]
     exact hl.1.snoc e2 (by rw [ByteArray.size_append]; omega)
theorem append_long (st : St) (o n : Nat) (s t : ByteArray) (h : 65536 < t.size) : walAppend st o n s t = (4,s,st) := by
 unfold walAppend
 rw [if_pos h]
theorem append_full (st : St) (o n : Nat) (s t : ByteArray) (h : ¬ 65536 < t.size) (h2 : n * 255 < s.size + (t.size + 8)) : walAppend st o n s t = (6,s,st) := by
 unfold walAppend
 rw [if_neg h,if_pos h2]
theorem Live.round {all : List ByteArray} {r0 : Nat} {st : St} (h : Live all r0 st) (p1 p2 : List Int) (k : Int) :
   ((walOpen ((st.crash p1).fuse k) 0 8).1.1 = 0 \/ (walOpen ((st.crash p1).fuse k) 0 8).1.1 = 50) /\
   ∃ r st',r0 <= r /\ r <= all.length /\ walOpen ((walOpen ((st.crash p1).fuse k) 0 8).2.crash p2) 0 8 = ((0,cat (all.take r),all.take r),st') /\ Live (all.take r) r st' := by
 obtain ⟨c1,c2,c3,c4⟩ := h.crash p1
 obtain ⟨r1,a1,a2,a3,a4,_⟩ := open_any all h.short h.fits r0 h.some ((st.crash p1).fuse k) c1 c2 c4
 refine ⟨a3,?_⟩
 obtain ⟨r,b1,b2,_,_,b5⟩ := open_any all h.short h.fits r0 h.some ((walOpen ((st.crash p1).fuse k) 0 8).2.crash p2) rfl (by show (crashed _ _ _ _).length = 8; rw [crashed_length]; exact a4.len) (fun k hk => a4.left p2 k hk)
 refine ⟨r,_,b1,b2,b5 rfl,?_⟩
 have hlt : (all.take r).length = r := by rw [List.length_take]; omega
 have hb := Live.bare (all.take r) (fun x hx => h.short x (List.mem_of_mem_take hx)) (by have := ends_le all r; have := h.fits; unfold ends at *; omega)
 rw [hlt] at hb
 exact hb
theorem Live.synced {all : List ByteArray} {r0 : Nat} {st : St} (h : Live all r0 st) : st.sync.2.loose = [] := by
 unfold St.sync
 rw [if_neg (by rw [h.left]; omega)]
set_option maxRecDepth 4000 in
theorem blkOf_none (k : Nat) : blkOf noText k = zblock := by
 have hz : zblock.size = 256 := zblock_size
 have hc : cnt k noText.size = 0 := by unfold cnt noText; show min 255 (0 - k * 255) = 0; omega
 refine bytes_ext (by rw [blkOf_size,hz]) (fun j hj => ?_)
 rw [blkOf_size] at hj
 have hzj : byteAt zblock j = some 0 := byteAt_zs 256 j hj
 rw [hzj]
 by_cases e : j < 255
 · exact blkOf_rest noText k j (by omega) e
 · rw [show j = 255 from by omega,blkOf_last,hc]
   rfl
def zeros : Nat -> Nat -> St -> Nat × St
 | 0,_,st => (0,st)
 | n + 1,b,st => if (st.write ((b : Nat) : Int) zblock).1 = 0 then zeros n (b + 1) (st.write ((b : Nat) : Int) zblock).2 else st.write ((b : Nat) : Int) zblock
def walClear (st : St) (o n : Nat) : Nat × St := if (zeros n o st).1 ≠ 0 then zeros n o st else (zeros n o st).2.sync
theorem puts_ok8 (o N : Nat) (a b : Nat -> ByteArray) : ∀ (l : List (ByteArray × ByteArray)) (i : Nat) (st : St),st.Ok -> (puts o l i st).2.Ok
 | [],_,_,h => h
 | x :: l,i,st,h => by
   unfold puts
   split
   · exact puts_ok8 o N a b l _ _ h
   · split
     · exact puts_ok8 o N a b l _ _ (h.write _ _)
     · exact h.write _ _
theorem prs_full {N : Nat} {a b : Nat -> ByteArray} (hb : ∀ k,k < N -> (b k).size = 256) : ∀ x ∈ prs N a b,x.2.size = 256 := fun x hx => by
 unfold prs at hx
 obtain ⟨i,hi,rfl⟩ := List.mem_map.1 hx
 exact hb i (List.mem_range.1 hi)
theorem made_all {o N : Nat} {a b : Nat -> ByteArray} {S : List ByteArray} (hN : o + N <= S.length) (ha : ∀ k,k < N -> S.getD (o + k) noText = a k) (hb : ∀ k,k < N -> (b k).size = 256) :
   ∃ S',made o (prs N a b) ⟨S,[], -1⟩ = (0,⟨S',[], -1⟩) /\ S'.length = S.length /\ (∀ k,k < N -> S'.getD (o + k) noText = b k) /\ ∀ j,(j < o \/ o + N <= j) -> S'.getD j noText = S.getD j noText := by
 obtain ⟨W,c,h1,h2,h3,h4⟩ := puts_some o (prs N a b) 0 ⟨S,[], -1⟩ (by rw [prs_length]; exact hN) (prs_full hb)
 obtain ⟨h5,h6⟩ := h4 rfl
 have hWe : W = wl o (prs N a b) 0 := by
   rcases h3 with h7 | h7
   · exact h7.2
   · rw [h5] at h7; cases h7
 have hlaid : ∀ k,k < N -> (laid S (wl o (prs N a b) 0)).getD (o + k) noText = b k := fun k hk => by
   have := laid_wl o (prs N a b) 0 S (by rw [prs_length]; exact hN) (fun j hj => by
     rw [prs_at,Nat.add_zero]
     exact ha j (by rw [prs_length] at hj; exact hj)) k (by rw [prs_length]; exact hk)
   rw [prs_at] at this
   simpa using this
 have hout : ∀ j,(j < o \/ o + N <= j) -> (laid S (wl o (prs N a b) 0)).getD j noText = S.getD j noText := fun j hj => laid_other _ _ _ (fun w hw => by
   obtain ⟨i,hi,e⟩ := wl_mem o (prs N a b) 0 w hw
   rw [prs_length] at hi
   rw [e]
   show o + 0 + i ≠ j
   omega)
 unfold made
 rw [if_neg (fun h => h h5),h1]
 by_cases hn : wl o (prs N a b) 0 = []
 · rw [if_pos hn,hWe,hn,h6]
   rw [hn] at hlaid hout
   exact ⟨S,rfl,rfl,hlaid,hout⟩
 · rw [if_neg hn,h6]
   refine ⟨laid S (wl o (prs N a b) 0),?_,laid_length _ _,hlaid,hout⟩
   unfold St.sync
   rw [if_neg (show ¬ (-1 : Int) = 0 by decide),hWe]
   rfl
def Wr (o N : Nat) (S : ByteArray) : Nat -> List (Nat × ByteArray) -> Prop
 | _,[] => True
 | b,w :: W => ((w.1 < o \/ o + N <= w.1) /\ Wr o N S b W) \/ ∃ k m,k < N /\ w = (o + k,blkOf (S.extract 0 m) k) /\ b <= m /\ m <= S.size /\ Wr o N S m W
theorem crash_wr {o N : Nat} (S : ByteArray) (m0 : Nat) (picks : List Int) : ∀ (W : List (Nat × ByteArray)) (i b : Nat) (s : List ByteArray),o + N <= s.length -> Wr o N S b W -> b <= S.size -> (∀ k,k < N -> ∃ m,m0 <= m /\ m <= b /\ Good S k m (s.getD (o + k) noText)) ->
   ∀ k,k < N -> Fine S m0 k ((crashed s picks i W).getD (o + k) noText)
 | [],_,b,s,_,_,hb,h,k,hk => by
   obtain ⟨m,h1,h2,h3⟩ := h k hk
   exact ⟨m,h1,by omega,h3⟩
 | w :: W,i,b,s,hs,hg,hb,h,k,hk => by
   unfold crashed
   rcases hg with ⟨hout,hg⟩ | ⟨q,m',hq,rfl,hbm,hmS,hg⟩
   · refine crash_wr S m0 picks W (i + 1) b _ (by rw [List.length_set]; exact hs) hg hb (fun j hj => ?_) k hk
     rw [getD_set_other _ _ _ _ (by omega)]
     exact h j hj
   · refine crash_wr S m0 picks W (i + 1) m' _ (by rw [List.length_set]; exact hs) hg hmS (fun j hj => ?_) k hk
     show ∃ m,m0 <= m /\ m <= m' /\ Good S j m ((s.set (o + q) (torn (s.getD (o + q) noText) (blkOf (S.extract 0 m') q) (picks.getD i 0))).getD (o + j) noText)
     by_cases e : q = j
     · subst e
       rw [getD_set_same _ _ _ (by omega)]
       obtain ⟨m,h1,h2,h3⟩ := h q hq
       rcases h3.torn (m' := m') (by omega) hmS (picks.getD i 0) with h4 | h4
       · exact ⟨m,h1,by omega,h4⟩
       · exact ⟨m',by omega,Nat.le_refl _,h4⟩
     · rw [getD_set_other _ _ _ _ (by omega)]
       obtain ⟨m,h1,h2,h3⟩ := h j hj
       exact ⟨m,h1,by omega,h3⟩
theorem Wr.longer {o N : Nat} {S T : ByteArray} : ∀ {b : Nat} {W : List (Nat × ByteArray)},Wr o N S b W -> Wr o N (S ++ T) b W
 | _,[],_ => trivial
 | b,w :: W,h => by
   rcases h with ⟨h1,h2⟩ | ⟨k,m,h1,rfl,h3,h4,h5⟩
   · exact Or.inl ⟨h1,h2.longer⟩
   · exact Or.inr ⟨k,m,h1,by rw [pre_append S T m h4],h3,by rw [ByteArray.size_append]; omega,h5.longer⟩
theorem Wr.more {o N : Nat} {S : ByteArray} : ∀ {b : Nat} {W V : List (Nat × ByteArray)},Wr o N S b W -> b <= S.size -> (∀ w ∈ V,(w.1 < o \/ o + N <= w.1) \/ ∃ k,k < N /\ w = (o + k,blkOf S k)) -> Wr o N S b (W ++ V)
 | b,[],[],_,_,_ => trivial
 | b,[],w :: V,_,hb,hV => by
   rcases hV w (by simp) with h | ⟨k,hk,rfl⟩
   · exact Or.inl ⟨h,Wr.more (W := []) (V := V) trivial hb (fun v hv => hV v (List.mem_cons_of_mem _ hv))⟩
   · exact Or.inr ⟨k,S.size,hk,by rw [pre_all],hb,Nat.le_refl _,Wr.more (W := []) (V := V) trivial (Nat.le_refl _) (fun v hv => hV v (List.mem_cons_of_mem _ hv))⟩
 | b,w :: W,V,h,hb,hV => by
   rcases h with ⟨h1,h2⟩ | ⟨k,m,h1,h2,h3,h4,h5⟩
   · exact Or.inl ⟨h1,h2.more hb hV⟩
   · exact Or.inr ⟨k,m,h1,h2,h3,h4,h5.more h4 hV⟩
structure Hold (o N : Nat) (all : List ByteArray) (r0 : Nat) (st : St) : Prop where
 short : ∀ t ∈ all,t.size <= 65536
 fits : (cat all).size <= N * 255
 some : r0 <= all.length
 len : o + N <= st.sure.length
 sure : ∀ k,k < N -> st.sure.getD (o + k) noText = blkOf (cat (all.take r0)) k
 wr : Wr o N (cat all) (ends all r0) st.loose
theorem Hold.crash {o N : Nat} {all : List ByteArray} {r0 : Nat} {st : St} (h : Hold o N all r0 st) (picks : List Int) : ∀ k,k < N -> Fine (cat all) (ends all r0) k ((st.crash picks).sure.getD (o + k) noText) := fun k hk => by
 have hle := ends_le all r0
 show Fine (cat all) (ends all r0) k ((crashed st.sure picks 0 st.loose).getD (o + k) noText)
 refine crash_wr (cat all) (ends all r0) picks st.loose 0 (ends all r0) st.sure h.len h.wr hle (fun j hj => ⟨ends all r0,Nat.le_refl _,Nat.le_refl _,?_⟩) k hk
 rw [h.sure j hj, <- cat_take]
 exact Good.pre _ _ _ hle
structure Well (o N : Nat) (all : List ByteArray) (r0 : Nat) (st : St) : Prop where
 hold : Hold o N all r0 st
 now : ∀ k,k < N -> (laid st.sure st.loose).getD (o + k) noText = blkOf (cat all) k
 mine : ∀ w ∈ st.loose,o <= w.1 /\ w.1 < o + N
theorem Well.sync {o N : Nat} {all : List ByteArray} {r0 : Nat} {st : St} (h : Well o N all r0 st) (h0 : st.sync.1 = 0) : Well o N all all.length st.sync.2 := by
 unfold St.sync at *
 split at h0
 · exact absurd h0 (show ¬ (50 : Nat) = 0 by decide)
 · rename_i hl
   rw [if_neg hl]
   refine ⟨⟨h.hold.short,h.hold.fits,Nat.le_refl _,by show o + N <= (laid _ _).length; rw [laid_length]; exact h.hold.len,fun k hk => ?_,trivial⟩,fun k hk => h.now k hk,fun w hw => absurd hw (by simp)⟩
   rw [List.take_length]
   exact h.now k hk
theorem Well.append {o N : Nat} {all : List ByteArray} {r0 : Nat} {st : St} (h : Well o N all r0 st) (t : ByteArray) :
   (∃ c,(c = 4 \/ c = 6) /\ walAppend st o N (cat all) t = (c,cat all,st)) \/
   (∃ st',walAppend st o N (cat all) t = (0,cat (all ++ [t]),st') /\ Well o N (all ++ [t]) r0 st' /\ st'.sure = st.sure) \/
   (∃ st',walAppend st o N (cat all) t = (50,cat all,st') /\ Hold o N (all ++ [t]) r0 st' /\ st'.sure = st.sure /\ ∀ w ∈ st'.loose,o <= w.1 /\ w.1 < o + N) := by
 by_cases hl : 65536 < t.size
 · exact Or.inl ⟨4,Or.inl rfl,append_long st o N (cat all) t hl⟩
 by_cases hf : N * 255 < (cat all).size + (t.size + 8)
 · exact Or.inl ⟨6,Or.inr rfl,append_full st o N (cat all) t hl hf⟩
 right
 have hN := h.hold.len
 obtain ⟨W,c,p1,p2,p3,_⟩ := puts_some o (prs N (blkOf (cat all)) (blkOf (cat all ++ frm t))) 0 st (by rw [prs_length]; exact hN) (prs_full fun k _ => blkOf_size _ _)
 have hcs : (cat (all ++ [t])).size = (cat all).size + (t.size + 8) := by rw [cat_snoc,ByteArray.size_append,frm_size]
 have hWm : ∀ w ∈ W, ∃ k,k < N /\ w = (o + k,blkOf (cat all ++ frm t) k) := fun w hw => by
   obtain ⟨j,hj,e⟩ := wl_mem o _ 0 w (p2.subset hw)
   rw [prs_at] at e
   exact ⟨j,by rw [prs_length] at hj; exact hj,by rw [e]; simp⟩
 have hmine : ∀ w ∈ st.loose ++ W,o <= w.1 /\ w.1 < o + N := fun w hw => by
   rcases List.mem_append.1 hw with h1 | h1
   · exact h.mine w h1
   · obtain ⟨k,hk,rfl⟩ := hWm w h1
     exact ⟨by show o <= o + k; omega,by show o + k < _; omega⟩
 have hb := ends_le all r0
 have hold : ∀ c,Hold o N (all ++ [t]) r0 ⟨st.sure,st.loose ++ W,c⟩ := fun c => by
   refine ⟨fun x hx => ?_,by omega,by rw [List.length_append]; have := h.hold.some; omega,hN,fun k hk => ?_,?_⟩
   · rcases List.mem_append.1 hx with hx | hx
     · exact h.hold.short x hx
     · rw [List.mem_singleton.1 hx]; omega
   · rw [List.take_append_of_le_length h.hold.some]
     exact h.hold.sure k hk
   · rw [ends_snoc _ _ _ h.hold.some,cat_snoc]
     exact (h.hold.wr.longer (T := frm t)).more (by rw [ByteArray.size_append]; omega) (fun w hw => Or.inr (hWm w hw))
 unfold walAppend
 rw [if_neg hl,if_neg hf]
 by_cases h0 : (puts o (prs N (blkOf (cat all)) (blkOf (cat all ++ frm t))) 0 st).1 = 0
 · left
   have hW : W = wl o (prs N (blkOf (cat all)) (blkOf (cat all ++ frm t))) 0 := by
     rcases p3 with h5 | h5
     · exact h5.2
     · rw [h0] at h5; cases h5
   refine ⟨⟨st.sure,st.loose ++ W,c⟩,by rw [if_neg (fun x => x h0),p1,cat_snoc],⟨hold c,fun k hk => ?_,hmine⟩,rfl⟩
   show (laid st.sure (st.loose ++ W)).getD (o + k) noText = _
   rw [laid_append,hW]
   have := laid_wl o (prs N (blkOf (cat all)) (blkOf (cat all ++ frm t))) 0 (laid st.sure st.loose) (by rw [prs_length,laid_length]; exact hN) (fun j hj => by
     rw [prs_at,Nat.add_zero]
     exact h.now j (by rw [prs_length] at hj; exact hj)) k (by rw [prs_length]; exact hk)
   rw [prs_at] at this
   simp only [Nat.add_zero] at this
   rw [this,cat_snoc]
 · right
   have h50 : (puts o (prs N (blkOf (cat all)) (blkOf (cat all ++ frm t))) 0 st).1 = 50 := by
     rcases p3 with h5 | h5
     · exact absurd h5.1 h0
     · exact h5
   exact ⟨⟨st.sure,st.loose ++ W,c⟩,by rw [if_pos h0,p1,h50],hold c,rfl,hmine⟩
set_option maxRecDepth 10000 in
theorem open_at (o N : Nat) (all : List ByteArray) (hall : ∀ t ∈ all,t.size <= 65536) (hS : (cat all).size <= N * 255) (r0 : Nat) (hr0 : r0 <= all.length) (S : List ByteArray) (hlen : o + N <= S.length) (hfine : ∀ k,k < N -> Fine (cat all) (ends all r0) k (S.getD (o + k) noText)) :
   ∃ r S',r0 <= r /\ r <= all.length /\ walOpen ⟨S,[], -1⟩ o N = ((0,cat (all.take r),all.take r),⟨S',[], -1⟩) /\ S'.length = S.length /\ (∀ k,k < N -> S'.getD (o + k) noText = blkOf (cat (all.take r)) k) /\ ∀ j,(j < o \/ o + N <= j) -> S'.getD j noText = S.getD j noText := by
 have hat : ∀ i,(⟨S,[], -1⟩ : St).at (o + i) = S.getD (o + i) noText := fun i => at_bare _ rfl _
 have hrl : (reads ⟨S,[], -1⟩ o N).length = N := by unfold reads; simp
 have hri : ∀ i (hi : i < (reads ⟨S,[], -1⟩ o N).length),(reads ⟨S,[], -1⟩ o N)[i] = S.getD (o + i) noText := fun i hi => by
   simp only [reads,List.getElem_map,List.getElem_range]
   exact hat i
 have hm0 := ends_le all r0
 obtain ⟨ms,g1,g2,g3,g4,g5,g6⟩ := stream_good (cat all) (ends all r0) (reads ⟨S,[], -1⟩ o N) 0 (fun i hi => by
   rw [hri i hi,Nat.zero_add]
   exact hfine i (by omega)) (by omega)
 rw [hrl] at g3 g5
 rw [Nat.zero_mul] at g4
 rw [Nat.zero_add] at g3 g5
 have hms : ends all r0 <= ms := by rcases g5 with h | h <;> omega
 obtain ⟨r,q1,q2,q3⟩ := find_end all ms g2
 have hrr : r0 <= r := by
   rcases Nat.lt_or_ge r r0 with h | h
   · have h1 := q3 (by omega)
     have h2 := ends_up all (r0 - (r + 1)) (r + 1) (by omega)
     rw [show r + 1 + (r0 - (r + 1)) = r0 from by omega] at h2
     omega
   · exact h
 have hsc := scn_cut all ms r hall q1 q2 g2 q3
 have hgl := ends_le all r
 have hk : kept (reads ⟨S,[], -1⟩ o N) = (cat all).extract 0 (ends all r) := by
   unfold kept
   rw [g4,hsc]
   show ((cat all).extract 0 ms).extract 0 (ends all r) = _
   exact bytes_ext (by rw [part_size _ _ _ (by rw [part_size _ _ _ g2]; omega),part_size _ _ _ hgl]) (fun j hj => by
     rw [part_size _ _ _ (by rw [part_size _ _ _ g2]; omega)] at hj
     rw [byteAt_part _ 0 _ j (by rw [part_size _ _ _ g2]; omega) (by omega),byteAt_part _ 0 _ (0 + j) g2 (by omega),byteAt_part _ 0 _ j hgl (by omega),Nat.zero_add])
 have hcnt : ∀ k,k < N -> ∀ m,Good (cat all) k m (S.getD (o + k) noText) -> cnt k (ends all r) <= cnt k m := fun k hk8 m hgm => by
   have h1 := g6 k (by omega)
   rw [hri k (by omega),Nat.zero_add,hgm.count] at h1
   have h2 : cnt k (ends all r) <= cnt k ms := by unfold cnt; omega
   omega
 have hsz : ∀ k,k < N -> (S.getD (o + k) noText).size = 256 := fun k hk8 => by
   obtain ⟨m,_,_,hgm⟩ := hfine k hk8
   exact hgm.size
 obtain ⟨S1,m1,l1,a1,b1⟩ := made_all (o := o) (N := N) (a := fun i => S.getD (o + i) noText) (b := fun i => recount (S.getD (o + i) noText) ((cat all).extract 0 (ends all r)) i) hlen (fun k _ => rfl) (fun k hk8 => recount_size (hsz k hk8))
 obtain ⟨S2,m2,l2,a2,b2⟩ := made_all (S := S1) (o := o) (N := N) (a := fun i => recount (S.getD (o + i) noText) ((cat all).extract 0 (ends all r)) i) (b := fun i => blkOf ((cat all).extract 0 (ends all r)) i) (by omega) a1 (fun k _ => blkOf_size _ _)
 refine ⟨r,S2,hrr,q1,?_,by omega,fun k hk8 => ?_,fun j hj => (b2 j hj).trans (b1 j hj)⟩
 · unfold walOpen
   rw [if_neg (show ¬ (-1 : Int) = 0 by decide),g4,hsc]
   rw [if_neg (by show ¬ ((if ends all r = ms then 0 else 40) = 41 \/ (if ends all r = ms then 0 else 40) = 4); split <;> omega)]
   rw [hk]
   simp only [hat]
   rw [m1,if_neg (fun h => h rfl),m2,if_neg (fun h => h rfl),cat_take]
 · rw [a2 k hk8,cat_take]
def zw (o n : Nat) : List (Nat × ByteArray) := (List.range' o n).map fun k => (k,zblock)
theorem zw_mem {o n : Nat} {w : Nat × ByteArray} (h : w ∈ zw o n) : o <= w.1 /\ w.1 < o + n /\ w.2 = zblock := by
 unfold zw at h
 obtain ⟨k,hk,rfl⟩ := List.mem_map.1 h
 rw [List.mem_range'_1] at hk
 exact ⟨hk.1,hk.2,rfl⟩
theorem zeros_cases : ∀ (n o : Nat) (st : St),o + n <= st.sure.length -> ∃ W c,(zeros n o st).2 = ⟨st.sure,st.loose ++ W,c⟩ /\ (((zeros n o st).1 = 0 /\ W = zw o n) \/ ((zeros n o st).1 = 50 /\ ∀ w ∈ W,o <= w.1 /\ w.1 < o + n /\ w.2 = zblock))
 | 0,o,st,_ => ⟨[],st.left,by unfold zeros; simp,Or.inl ⟨rfl,rfl⟩⟩
 | n + 1,o,st,hl => by
   unfold zeros
   have hw := write_in st o zblock (by omega) zblock_size
   by_cases h0 : st.left = 0
   · rw [if_pos h0] at hw
     rw [hw]
     exact ⟨[],st.left,by simp,Or.inr ⟨by simp,fun w h => absurd h (by simp)⟩⟩
   · rw [if_neg h0] at hw
     rw [hw]
     simp only [if_true]
     obtain ⟨W,c,h1,h2⟩ := zeros_cases n (o + 1) ⟨st.sure,st.loose ++ [(o,zblock)],counted st.left⟩ (by show _ <= st.sure.length; omega)
     refine ⟨(o,zblock) :: W,c,by rw [h1]; simp,?_⟩
     rcases h2 with ⟨h3,h4⟩ | ⟨h3,h4⟩
     · left
       refine ⟨h3,?_⟩
       unfold zw
       rw [List.range'_succ,List.map_cons,h4]
       rfl
     · right
       refine ⟨h3,fun w hw' => ?_⟩
       rcases List.mem_cons.1 hw' with rfl | hw'
       · exact ⟨Nat.le_refl _,by show o < _; omega,rfl⟩
       · have := h4 w hw'
         exact ⟨by omega,by omega,this.2.2⟩
theorem laid_zw : ∀ (n o : Nat) (S : List ByteArray),o + n <= S.length -> ∀ k,k < n -> (laid S (zw o n)).getD (o + k) noText = zblock
 | 0,_,_,_,k,hk => absurd hk (by omega)
 | n + 1,o,S,hl,k,hk => by
   have e : zw o (n + 1) = (o,zblock) :: zw (o + 1) n := by unfold zw; rw [List.range'_succ,List.map_cons]
   rw [e]
   show (laid (S.set o zblock) (zw (o + 1) n)).getD (o + k) noText = _
   cases k with
   | zero => rw [laid_other _ _ _ (fun w hw => by have := zw_mem hw; omega),Nat.add_zero,getD_set_same _ _ _ (by omega)]
   | succ k =>
     rw [show o + (k + 1) = o + 1 + k from by omega]
     exact laid_zw n (o + 1) _ (by rw [List.length_set]; omega) k (by omega)
theorem clear_cases (o n : Nat) (st : St) (hl : o + n <= st.sure.length) :
   (∃ W c,walClear st o n = (50,⟨st.sure,st.loose ++ W,c⟩) /\ ∀ w ∈ W,o <= w.1 /\ w.1 < o + n /\ w.2 = zblock) \/
   (∃ c,walClear st o n = (0,⟨laid (laid st.sure st.loose) (zw o n),[],c⟩)) := by
 obtain ⟨W,c,h1,h2⟩ := zeros_cases n o st hl
 unfold walClear
 rcases h2 with ⟨h3,h4⟩ | ⟨h3,h4⟩
 · rw [if_neg (fun h => h h3),h1]
   unfold St.sync
   by_cases hc : c = 0
   · rw [if_pos hc]
     exact Or.inl ⟨W,c,rfl,fun w hw => by rw [h4] at hw; exact zw_mem hw⟩
   · rw [if_neg hc]
     refine Or.inr ⟨counted c,?_⟩
     show (0,(⟨laid st.sure (st.loose ++ W),[],counted c⟩ : St)) = _
     rw [laid_append,h4]
 · rw [if_pos (by rw [h3]; decide)]
   exact Or.inl ⟨W,c,by rw [<- h3, <- h1],h4⟩
theorem cat_none : cat [] = noText := rfl
theorem zeros_good (k : Nat) : blkOf (cat []) k = zblock := by rw [cat_none]; exact blkOf_none k
theorem open_zero (o N : Nat) (S : List ByteArray) (c : Int) (hc : c ≠ 0) (hz : ∀ k,k < N -> S.getD (o + k) noText = zblock) : walOpen ⟨S,[],c⟩ o N = ((0,noText,[]),⟨S,[],c⟩) := by
 have hat : ∀ i,(⟨S,[],c⟩ : St).at (o + i) = S.getD (o + i) noText := fun i => at_bare _ rfl _
 have hS : streamOf (reads ⟨S,[],c⟩ o N) = noText := by
   have hcz : countOf zblock = 0 := by
     have := countOf_blk noText 0
     rw [blkOf_none] at this
     exact this
   have key : ∀ (l : List ByteArray),(∀ x ∈ l,x = zblock) -> streamOf l = noText := fun l hl => by
     cases l with
     | nil => rfl
     | cons b l =>
       have hb := hl b (by simp)
       subst hb
       unfold streamOf
       rw [hcz,if_pos (by decide)]
       exact bytes_ext (by rw [part_size _ _ _ (Nat.zero_le _)]; rfl) (fun j hj => absurd hj (by rw [part_size _ _ _ (Nat.zero_le _)]; omega))
   refine key _ (fun x hx => ?_)
   unfold reads at hx
   obtain ⟨i,hi,rfl⟩ := List.mem_map.1 hx
   rw [hat,hz i (List.mem_range.1 hi)]
 have hsn : scn noText = ([],0,0) := scn_nil noText rfl
 have hk : kept (reads ⟨S,[],c⟩ o N) = noText := by
   unfold kept
   rw [hS,hsn]
   exact bytes_ext (by rw [part_size _ _ _ (Nat.zero_le _)]; rfl) (fun j hj => absurd hj (by rw [part_size _ _ _ (Nat.zero_le _)]; omega))
 have hrc : ∀ i,recount zblock noText i = zblock := fun i => by
   refine bytes_ext (by rw [recount_size zblock_size,zblock_size]) (fun j hj => ?_)
   rw [recount_size zblock_size] at hj
   by_cases e : j < 255
   · exact recount_at zblock_size e
   · rw [show j = 255 from by omega,recount_last zblock_size,blkOf_none]
 have hwl : ∀ (a b : Nat -> ByteArray),(∀ k,k < N -> a k = b k) -> made o (prs N a b) ⟨S,[],c⟩ = (0,⟨S,[],c⟩) := fun a b h => by
   have hall : ∀ x ∈ prs N a b,x.1 = x.2 := fun x hx => by
     unfold prs at hx
     obtain ⟨i,hi,rfl⟩ := List.mem_map.1 hx
     exact h i (List.mem_range.1 hi)
   have key : ∀ (l : List (ByteArray × ByteArray)) (i : Nat),(∀ x ∈ l,x.1 = x.2) -> wl o l i = [] /\ puts o l i ⟨S,[],c⟩ = (0,⟨S,[],c⟩) := by
     intro l
     induction l with
     | nil => intro i _; exact ⟨rfl,rfl⟩
     | cons x l ih =>
       intro i hx
       unfold wl puts
       rw [if_pos (hx x (by simp)),if_pos (hx x (by simp))]
       exact ih (i + 1) (fun y hy => hx y (List.mem_cons_of_mem _ hy))
   obtain ⟨k1,k2⟩ := key _ 0 hall
   unfold made
   rw [k2,if_neg (fun h => h rfl),if_pos k1]
 have h1 := hwl (fun i => (⟨S,[],c⟩ : St).at (o + i)) (fun i => recount ((⟨S,[],c⟩ : St).at (o + i)) noText i) (fun k hk' => by
   show (⟨S,[],c⟩ : St).at (o + k) = recount ((⟨S,[],c⟩ : St).at (o + k)) noText k
   rw [hat,hz k hk',hrc])
 have h2 := hwl (fun i => recount ((⟨S,[],c⟩ : St).at (o + i)) noText i) (fun i => blkOf noText i) (fun k hk' => by
   show recount ((⟨S,[],c⟩ : St).at (o + k)) noText k = blkOf noText k
   rw [hat,hz k hk',hrc,blkOf_none])
 unfold walOpen
 rw [if_neg hc,hS,hsn,if_neg (by simp),hk,h1,if_neg (fun h => h rfl),h2,if_neg (fun h => h rfl)]
structure KeepS (N : Nat) (S : List ByteArray) (g : Nat) (t : ByteArray) : Prop where
 full : ∀ x ∈ S,x.size = 256
 len : N <= S.length
 fit : t.size <= (N / 2 - 1) * 256
 head : S.getD (slN N g) noText = headT g t
 body : ∀ i,i < nb t.size -> S.getD (slN N g + 1 + i) noText = blkT t i
 oth : Oth (S.getD (slN N (g + 1)) noText) g
theorem KeepS.same {N : Nat} {S S' : List ByteArray} {g : Nat} {t : ByteArray} (h : KeepS N S g t) (h4 : 4 <= N) (hf : ∀ x ∈ S',x.size = 256) (hl : S'.length = S.length) (hs : ∀ j,j < N -> S'.getD j noText = S.getD j noText) : KeepS N S' g t := by
 have hnb := nb_fit h.fit h4
 have hsl := slN_le N g
 have hsl2 := slN_le N (g + 1)
 refine ⟨hf,by rw [hl]; exact h.len,h.fit,?_,fun i hi => ?_,?_⟩
 · rw [hs _ (by omega)]; exact h.head
 · rw [hs _ (by omega)]; exact h.body i hi
 · rw [hs _ (by omega)]; exact h.oth
theorem KeepS.load {N : Nat} {S : List ByteArray} {g : Nat} {t : ByteArray} (h : KeepS N S g t) (c : Int) (hc : c ≠ 0) (h4 : 4 <= N) (hN : N <= 4096) (he : N % 2 = 0) (hg : 1 <= g /\ g <= 4611686018427387904) : (⟨S,[],c⟩ : St).load 0 (N : Int) = ((g,t),0) := by
 have hr : room (N : Int) ≠ 0 := by unfold room; rw [if_neg (by omega)]; omega
 have hm : (⟨S,[],c⟩ : St).mayC 0 (N : Int) := ⟨hr,by omega,by show (0 : Int) <= (S.length : Int) - N; have := h.len; omega⟩
 have hlen : ∀ k,(blocksAt ⟨S,[],c⟩ k (N / 2)).length = N / 2 := fun k => by unfold blocksAt; simp
 have hfull : ∀ k,k + N / 2 <= N -> ∀ x ∈ blocksAt ⟨S,[],c⟩ k (N / 2),x.size = 256 := fun k hk x hx => by
   unfold blocksAt at hx
   obtain ⟨i,hi,rfl⟩ := List.mem_map.1 hx
   rw [List.mem_range] at hi
   exact getD_size h.full _ (by have := h.len; omega)
 have hs : ∀ k,slotAt 0 (N : Int) k = slN N k := fun k => by unfold slotAt slN; simp
 have hnb := nb_fit h.fit h4
 have hsl := slN_le N g
 have hsl2 := slN_le N (g + 1)
 have W1 : wholeT (blocksAt ⟨S,[],c⟩ (slN N g) (N / 2)) (g % 2) = (g,t) := by
   refine whole_yes _ _ g t (hfull _ (by omega)) hg rfl (by rw [hlen]; exact h.fit) (by rw [hlen]; omega) ?_ (fun i hi => ?_)
   · rw [blocks_getD _ _ _ 0 (by omega) rfl]; exact h.head
   · rw [blocks_getD _ _ _ (1 + i) (by omega) rfl, <- Nat.add_assoc]; exact h.body i hi
 have W2 : (wholeT (blocksAt ⟨S,[],c⟩ (slN N (g + 1)) (N / 2)) ((g + 1) % 2)).1 < g := by
   refine whole_less _ _ g hg.1 ?_
   rw [blocks_getD _ _ _ 0 (by omega) rfl]
   exact h.oth
 unfold St.load
 rw [if_neg (fun hh => hh hm),if_neg hc]
 simp only [hs,Int.toNat_natCast]
 rcases (by omega : g % 2 = 0 \/ g % 2 = 1) with hp | hp
 · have e0 : slN N 0 = slN N g := by unfold slN; rw [hp]
   have e1 : slN N 1 = slN N (g + 1) := by unfold slN; rw [show (g + 1) % 2 = 1 from by omega]
   rw [hp] at W1
   rw [show (g + 1) % 2 = 1 from by omega] at W2
   rw [e0,e1,W1,if_neg (by simp; omega),if_pos (by exact W2)]
 · have e0 : slN N 1 = slN N g := by unfold slN; rw [hp]
   have e1 : slN N 0 = slN N (g + 1) := by unfold slN; rw [show (g + 1) % 2 = 0 from by omega]
   rw [hp] at W1
   rw [show (g + 1) % 2 = 0 from by omega] at W2
   rw [e0,e1,W1,if_neg (by simp; omega),if_neg (by show ¬ g < _; omega)]
set_option maxRecDepth 20000 in
theorem KeepS.step {N : Nat} {S : List ByteArray} {g : Nat} {t : ByteArray} (h : KeepS N S g t) (h4 : 4 <= N) (l0 : Int) (hl0 : -1 <= l0) (t' : ByteArray) (ht' : t'.size <= (N / 2 - 1) * 256) :
   ∃ X : Nat × St,saveAt (slN N (g + 1)) (g + 1) t' ⟨S,[],l0⟩ = X /\ X.2.sure.length = S.length /\
     (∀ picks j,N <= j -> (X.2.crash picks).sure.getD j noText = S.getD j noText) /\
     ((X.1 = 50 /\ ∀ picks,KeepS N (X.2.crash picks).sure g t \/ KeepS N (X.2.crash picks).sure (g + 1) t') \/
      (X.1 = 0 /\ X.2.loose = [] /\ KeepS N X.2.sure (g + 1) t')) := by
 have hnb := nb_fit ht' h4
 have hnbo := nb_fit h.fit h4
 have hsl := slN_le N (g + 1)
 have hslo := slN_le N g
 have hapart : ∀ i,i < N / 2 -> ∀ j,j < N / 2 -> slN N (g + 1) + i ≠ slN N g + j := fun i hi j hj => by
   unfold slN
   rcases (by omega : g % 2 = 0 \/ g % 2 = 1) with hp | hp
   · rw [hp,show (g + 1) % 2 = 1 from by omega]; omega
   · rw [hp,show (g + 1) % 2 = 0 from by omega]; omega
 have hslg : slN N (g + 1 + 1) = slN N g := by unfold slN; rw [show (g + 1 + 1) % 2 = g % 2 from by omega]
 have hlenS := h.len
 have hH256 : (S.getD (slN N (g + 1)) noText).size = 256 := getD_size h.full _ (by omega)
 have old : ∀ S' : List ByteArray,(∀ x ∈ S',x.size = 256) -> S'.length = S.length -> (∀ j,j < N / 2 -> S'.getD (slN N g + j) noText = S.getD (slN N g + j) noText) -> Oth (S'.getD (slN N (g + 1)) noText) g -> KeepS N S' g t := fun S' hf hl hs ho =>
   ⟨hf,by rw [hl]; exact hlenS,h.fit,by have := hs 0 (by omega); rw [Nat.add_zero] at this; exact this.trans h.head,fun i hi => by
     have := hs (1 + i) (by omega)
     rw [<- Nat.add_assoc] at this
     exact this.trans (h.body i hi),ho⟩
 have new : ∀ S' : List ByteArray,(∀ x ∈ S',x.size = 256) -> S'.length = S.length -> S'.getD (slN N (g + 1)) noText = headT (g + 1) t' -> (∀ i,i < nb t'.size -> S'.getD (slN N (g + 1) + 1 + i) noText = blkT t' i) -> S'.getD (slN N g) noText = S.getD (slN N g) noText -> KeepS N S' (g + 1) t' := fun S' hf hl hh hb ho =>
   ⟨hf,by rw [hl]; exact hlenS,ht',hh,hb,by
     rw [hslg,ho,h.head]
     right
     rw [list_take8,numL_low]
     exact Nat.lt_of_le_of_lt (Nat.mod_le _ _) (Nat.lt_succ_self g)⟩
 have crash1 : ∀ (S : List ByteArray) (b : Nat) (d : ByteArray) (l2 : Int) (picks : List Int),(⟨S,[(b,d)],l2⟩ : St).crash picks = ⟨S.set b (torn (S.getD b noText) d (picks.getD 0 0)),[], -1⟩ := fun S b d l2 picks => rfl
 have crash0 : ∀ (S : List ByteArray) (l2 : Int) (picks : List Int),(⟨S,[],l2⟩ : St).crash picks = ⟨S,[], -1⟩ := fun S l2 picks => rfl
 have hS1 : ∀ x ∈ S.set (slN N (g + 1)) zblock,x.size = 256 := full_set h.full _ _ zblock_size
 have hS2 : ∀ x ∈ laid (S.set (slN N (g + 1)) zblock) (tws (slN N (g + 1) + 1) t' 0 (nb t'.size)),x.size = 256 := laid_full _ _ hS1 (fun w hw => (tws_mem hw).2.2)
 have hl2 : (laid (S.set (slN N (g + 1)) zblock) (tws (slN N (g + 1) + 1) t' 0 (nb t'.size))).length = S.length := by rw [laid_length,List.length_set]
 have hS2n : ∀ j,(∀ i,i < N / 2 -> slN N (g + 1) + i ≠ j) -> (laid (S.set (slN N (g + 1)) zblock) (tws (slN N (g + 1) + 1) t' 0 (nb t'.size))).getD j noText = S.getD j noText := fun j hj => by
   rw [laid_other7 _ _ _ (fun w hw => by
     have := tws_mem hw
     have := hj (w.1 - slN N (g + 1)) (by omega)
     omega),getD_set_other _ _ _ _ (by have := hj 0 (by omega); omega)]
 have hS2o : ∀ j,j < N / 2 -> (laid (S.set (slN N (g + 1)) zblock) (tws (slN N (g + 1) + 1) t' 0 (nb t'.size))).getD (slN N g + j) noText = S.getD (slN N g + j) noText := fun j hj => hS2n _ (fun i hi => hapart i hi j hj)
 have hS2h : (laid (S.set (slN N (g + 1)) zblock) (tws (slN N (g + 1) + 1) t' 0 (nb t'.size))).getD (slN N (g + 1)) noText = zblock := by
   rw [laid_other7 _ _ _ (fun w hw => by have := tws_mem hw; omega),getD_set_same _ _ _ (by omega)]
 have far : ∀ j,N <= j -> ∀ i,i < N / 2 -> slN N (g + 1) + i ≠ j := fun j hj i hi => by omega
 refine ⟨_,rfl,?_⟩
 rcases save_cases (slN N (g + 1)) (g + 1) t' S l0 (by omega) hl0 with ⟨l2,e,b1,b2⟩ | ⟨l2,e,b1,b2⟩ | ⟨j,l2,hj,e,b1,b2⟩ | ⟨l2,e,b1,b2⟩ | ⟨l2,e,b1⟩ | ⟨l2,e,b1⟩
 · rw [e]
   refine ⟨rfl,fun picks j _ => rfl,Or.inl ⟨rfl,fun picks => Or.inl ?_⟩⟩
   exact old _ h.full rfl (fun j _ => rfl) h.oth
 · rw [e]
   refine ⟨rfl,fun picks j hj => ?_,Or.inl ⟨rfl,fun picks => Or.inl ?_⟩⟩
   · dsimp only
     rw [crash1]
     exact getD_set_other _ _ _ _ (by have := far j hj 0 (by omega); omega)
   · dsimp only
     rw [crash1]
     refine old _ (full_set h.full _ _ (torn_size _ _ _ hH256 zblock_size)) (by rw [List.length_set]) (fun j hj => getD_set_other _ _ _ _ (by have := hapart 0 (by omega) j hj; omega)) ?_
     rw [getD_set_same _ _ _ (by omega)]
     exact h.oth.torn hH256 _
 · rw [e]
   refine ⟨by show (List.set _ _ _).length = _; rw [List.length_set],fun picks j' hj' => ?_,Or.inl ⟨rfl,fun picks => Or.inl ?_⟩⟩
   · show (crashed (S.set (slN N (g + 1)) zblock) picks 0 (tws (slN N (g + 1) + 1) t' 0 j)).getD j' noText = _
     rw [crashed_other7 _ _ _ _ _ (fun w hw => by
       have := tws_mem hw
       have := far j' hj' (w.1 - slN N (g + 1)) (by omega)
       omega),getD_set_other _ _ _ _ (by have := far j' hj' 0 (by omega); omega)]
   · show KeepS N (crashed (S.set (slN N (g + 1)) zblock) picks 0 (tws (slN N (g + 1) + 1) t' 0 j)) g t
     refine old _ (crashed_full picks _ 0 _ hS1 (fun w hw => by have := tws_mem hw; rw [List.length_set]; exact ⟨by omega,this.2.2⟩)) (by rw [crashed_length,List.length_set]) (fun j' hj' => ?_) ?_
     · rw [crashed_other7 _ _ _ _ _ (fun w hw => by
         have := tws_mem hw
         have := hapart (w.1 - slN N (g + 1)) (by omega) j' hj'
         omega),getD_set_other _ _ _ _ (by have := hapart 0 (by omega) j' hj'; omega)]
     · rw [crashed_other7 _ _ _ _ _ (fun w hw => by have := tws_mem hw; omega),getD_set_same _ _ _ (by omega)]
       exact Oth.zero
 · rw [e]
   refine ⟨hl2,fun picks j hj => ?_,Or.inl ⟨rfl,fun picks => Or.inl ?_⟩⟩
   · dsimp only
     rw [crash0]
     exact hS2n j (far j hj)
   · dsimp only
     rw [crash0]
     exact old _ hS2 hl2 hS2o (by rw [hS2h]; exact Oth.zero)
 · rw [e]
   refine ⟨hl2,fun picks j hj => ?_,Or.inl ⟨rfl,fun picks => ?_⟩⟩
   · dsimp only
     rw [crash1]
     show (List.set _ _ _).getD j noText = _
     rw [getD_set_other _ _ _ _ (by have := far j hj 0 (by omega); omega)]
     exact hS2n j (far j hj)
   · dsimp only
     rw [crash1,hS2h]
     rcases head_torn (g + 1) t' (picks.getD 0 0) with hw | hw
     · right
       rw [hw]
       refine new _ (full_set hS2 _ _ (headT_size _ _)) (by rw [List.length_set,hl2]) (getD_set_same _ _ _ (by omega)) (fun i hi => ?_) ?_
       · rw [getD_set_other _ _ _ _ (by omega)]
         exact laid_tws _ t' (nb t'.size) 0 _ (by rw [List.length_set]; omega) i (by omega) (by omega)
       · have := hapart 0 (by omega) 0 (by omega)
         rw [getD_set_other _ _ _ _ (by omega)]
         exact hS2o 0 (by omega)
     · left
       refine old _ (full_set hS2 _ _ (torn_size _ _ _ zblock_size (headT_size _ _))) (by rw [List.length_set,hl2]) (fun j hj => ?_) ?_
       · rw [getD_set_other _ _ _ _ (by have := hapart 0 (by omega) j hj; omega)]
         exact hS2o j hj
       · rw [getD_set_same _ _ _ (by omega)]
         exact hw g
 · rw [e]
   refine ⟨by show (List.set _ _ _).length = _; rw [List.length_set,hl2],fun picks j hj => ?_,Or.inr ⟨rfl,rfl,?_⟩⟩
   · dsimp only
     rw [crash0]
     show (List.set _ _ _).getD j noText = _
     rw [getD_set_other _ _ _ _ (by have := far j hj 0 (by omega); omega)]
     exact hS2n j (far j hj)
   · refine new _ (full_set hS2 _ _ (headT_size _ _)) (by rw [List.length_set,hl2]) (getD_set_same _ _ _ (by omega)) (fun i hi => ?_) ?_
     · rw [getD_set_other _ _ _ _ (by omega)]
       exact laid_tws _ t' (nb t'.size) 0 _ (by rw [List.length_set]; omega) i (by omega) (by omega)
     · have := hapart 0 (by omega) 0 (by omega)
       rw [getD_set_other _ _ _ _ (by omega)]
       exact hS2o 0 (by omega)
def upTo : List ByteArray -> List ByteArray
 | [] => []
 | b :: l => if countOf b < 255 then [b] else b :: upTo l
def heads : List ByteArray -> ByteArray
 | [] => noText
 | b :: l => b.extract 0 (countOf b) ++ heads l
theorem heads_upTo : ∀ (l : List ByteArray),heads (upTo l) = streamOf l
 | [] => rfl
 | b :: l => by
   unfold upTo streamOf
   split
   · show b.extract 0 (countOf b) ++ noText = _
     apply bytesOf_inj
     simp [bytesOf,noText]
   · show b.extract 0 (countOf b) ++ heads (upTo l) = _
     rw [heads_upTo l]
theorem heads_append : ∀ (l m : List ByteArray),heads (l ++ m) = heads l ++ heads m
 | [],m => by
   show heads m = noText ++ heads m
   apply ByteArray.ext
   simp [noText,ByteArray.data_append]
 | b :: l,m => by
   show b.extract 0 (countOf b) ++ heads (l ++ m) = b.extract 0 (countOf b) ++ heads l ++ heads m
   rw [heads_append l m,ByteArray.append_assoc]
theorem heads_size : ∀ (l : List ByteArray),(∀ b ∈ l,b.size = 256) -> (heads l).size <= l.length * 255
 | [],_ => Nat.zero_le _
 | b :: l,h => by
   show (b.extract 0 (countOf b) ++ heads l).size <= _
   rw [ByteArray.size_append,ByteArray.size_extract,List.length_cons]
   have := heads_size l (fun x hx => h x (List.mem_cons_of_mem _ hx))
   have := countOf_le b
   omega
theorem upTo_at : ∀ (l : List ByteArray) (k : Nat) (h : k < l.length),(∀ j (hj : j < k), ¬ countOf (l[j]'(by omega)) < 255) -> countOf l[k] < 255 -> upTo l = l.take (k + 1)
 | [],_,h,_,_ => absurd h (by simp)
 | b :: l,0,_,_,hc => by
   have hc' : countOf b < 255 := hc
   unfold upTo
   rw [if_pos hc']
   simp
 | b :: l,k + 1,h,hj,hc => by
   have h0 : ¬ countOf b < 255 := hj 0 (by omega)
   unfold upTo
   rw [if_neg h0,List.take_succ_cons,upTo_at l k (by simpa using h) (fun j hj' => hj (j + 1) (by omega)) hc]
theorem upTo_all : ∀ (l : List ByteArray),(∀ j (hj : j < l.length), ¬ countOf l[j] < 255) -> upTo l = l
 | [],_ => rfl
 | b :: l,hj => by
   have h0 : ¬ countOf b < 255 := hj 0 (by simp)
   unfold upTo
   rw [if_neg h0,upTo_all l (fun j hj' => hj (j + 1) (by simpa using hj'))]
theorem upTo_prefix : ∀ (l : List ByteArray),upTo l = l.take (upTo l).length
 | [] => rfl
 | b :: l => by
   unfold upTo
   split
   · simp
   · rw [List.length_cons,List.take_succ_cons, <- upTo_prefix l]
theorem upTo_le : ∀ (l : List ByteArray),(upTo l).length <= l.length
 | [] => Nat.le_refl _
 | b :: l => by
   unfold upTo
   split
   · simp
   · have := upTo_le l; simp only [List.length_cons]; omega
theorem reads_length (st : St) (o n : Nat) : (reads st o n).length = n := by unfold reads; simp
theorem reads_at (st : St) (o n i : Nat) (h : i < (reads st o n).length) : (reads st o n)[i] = st.at (o + i) := by simp only [reads,List.getElem_map,List.getElem_range]
theorem at_size {st : St} (hok : st.Ok) (b : Nat) (hb : b < st.sure.length) : (st.at b).size = 256 := by
 unfold St.at
 have : ∀ (l : List (Nat × ByteArray)),(∀ w ∈ l,w.2.size = 256) -> (stands st.sure b l).size = 256 := by
   intro l
   induction l with
   | nil => intro _; exact getD_size hok.full b hb
   | cons w l ih =>
     intro h
     unfold stands
     split
     · exact h w (by simp)
     · exact ih (fun x hx => h x (List.mem_cons_of_mem _ hx))
 exact this _ (fun w hw => (hok.there w (List.mem_reverse.1 hw)).2)
theorem read_in {st : St} (b : Nat) (hb : b < st.sure.length) (h0 : st.left ≠ 0) : st.read (b : Int) = (st.at b,0) := by
 unfold St.read St.at
 rw [if_neg h0,if_neg (fun h => h ⟨by omega,by omega⟩),Int.toNat_natCast]
theorem read_down {st : St} (b : Int) (h0 : st.left = 0) : st.read b = (noText,50) := by
 unfold St.read
 rw [if_pos h0]
end Go.Proofs.YtchhojkhfdkhfaaGreatDoor
