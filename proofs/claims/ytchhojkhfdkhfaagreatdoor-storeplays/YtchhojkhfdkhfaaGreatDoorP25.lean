/- Joined texts. -/
import Derived.Test.YtchhojkhfdkhfaaGreatDoorP24
import Derived.Laws.EntriesVeiled
import Derived.Test.YtchhojkhfdkhfaaGreatDoorP04
import Derived.Test.YtchhojkhfdkhfaaGreatDoorP01
namespace Go.Proofs.YtchhojkhfdkhfaaGreatDoor
open Go Go.RowKit Frm Go.Shelf
def mended (o N : Nat) (a : Nat -> ByteArray) (s : ByteArray) (st : St) : Nat × St :=
 if (made o (prs N a (fun i => recount (a i) s i)) st).1 ≠ 0 then made o (prs N a (fun i => recount (a i) s i)) st
 else made o (prs N (fun i => recount (a i) s i) (blkOf s)) (made o (prs N a (fun i => recount (a i) s i)) st).2
theorem prs_congr {n : Nat} {a a' b b' : Nat -> ByteArray} (ha : ∀ i,i < n -> a i = a' i) (hb : ∀ i,i < n -> b i = b' i) : prs n a b = prs n a' b' := by
 unfold prs
 apply List.map_congr_left
 intro i hi
 rw [List.mem_range] at hi
 rw [ha i hi,hb i hi]
theorem made_ok (o N : Nat) (a b : Nat -> ByteArray) (st : St) (h : st.Ok) : (made o (prs N a b) st).2.Ok /\ (made o (prs N a b) st).2.loose.length <= st.loose.length + N := by
 have hp := lay_len o N a b st h
 unfold made
 split
 · exact hp
 · split
   · exact hp
   · refine ⟨hp.1.sync,?_⟩
     unfold St.sync
     split
     · exact hp.2
     · simp
theorem heap4 (w : World) (o0 o1 o2 o3 : Obj) (j : Nat) : ((((w.alloc o0).alloc o1).alloc o2).alloc o3).heap[w.heap.size + j]? = [o0,o1,o2,o3][j]? := by
 have e : ((((w.alloc o0).alloc o1).alloc o2).alloc o3).heap = w.heap ++ #[o0,o1,o2,o3] := by
   show (((w.heap.push o0).push o1).push o2).push o3 = _
   apply Array.ext'
   simp
 rw [e,Array.getElem?_append_right (by omega),Nat.add_sub_cancel_left]
 simp
theorem strs_kept {w u : World} {a : Option Addr} {c : Nat} {l : List ByteArray} (h : OwnL w 0 (.slice a l.length c) l) (hb : ∀ k,OB (.slice a l.length c) k -> u.heap[k]? = w.heap[k]?) : StrsAt u a l := by
 have h2 : OwnL u 0 (.slice a l.length c) l := own_same h (fun g hg => hb g hg)
 obtain ⟨a',c',e,hs⟩ := h2.strs
 cases e
 exact hs
set_option maxRecDepth 10000 in
set_option maxHeartbeats 2000000 in
theorem mend_any (q o N : Nat) (a0 : Option Addr) (c0 : Nat) (l : List ByteArray) (a : Nat -> ByteArray) (s : ByteArray) (st : St) (F : Nat -> Prop) (w : World) (hD : DAt w q st F) (hok : st.Ok) (hlo : st.loose.length + N + N <= 10000) (hN : N <= 4096) (ho : o <= 4096)
   (hlN : l.length = N) (hv : OwnL w 0 (.slice a0 l.length c0) l) (hdj : ∀ k,F k -> ¬ OB (.slice a0 l.length c0) k) (h256 : ∀ b ∈ l,b.size = 256) (ha : ∀ i (hi : i < l.length),l[i] = a i) :
   Calls Tryz.prog 122 #[.agg #[.pointer (some ⟨q,0,none⟩),.int .i64 (o : Int),.int .i64 (N : Int)],.slice a0 l.length c0,.string s] w fun e w' => e = .returned (.int .i64 (((mended o N a s st).1 : Nat) : Int)) /\ ∃ F',DAt w' q (mended o N a s st).2 F' /\ Loc F F' w w' := by
 obtain ⟨W,hW⟩ : ∃ W,((((w.alloc (.cells #[.pointer (some ⟨q,0,none⟩),.int .i64 (o : Int),.int .i64 (N : Int)] 163)).alloc (.cells #[.slice a0 l.length c0] 46)).alloc (.cells #[.string s] 9)).alloc (.cells #[.func (.func 129) #[] #[.pointer (some ⟨w.heap.size + 1 + 1,0,none⟩)]] 165)) = W := ⟨_,rfl⟩
 have hsz : W.heap.size = w.heap.size + 4 := by rw [<- hW]; simp
 have hb : Below w.heap.size w W := by
   rw [<- hW]
   exact ((((Below.refl _ w).alloc (Nat.le_refl _) _).alloc (by simp) _).alloc (by simp; omega) _).alloc (by simp; omega) _
 have g : ∀ (j : Nat),W.heap[w.heap.size + j]? = [Obj.cells #[.pointer (some ⟨q,0,none⟩),.int .i64 (o : Int),.int .i64 (N : Int)] 163 (0,0),.cells #[.slice a0 l.length c0] 46 (0,0),.cells #[.string s] 9 (0,0),.cells #[.func (.func 129) #[] #[.pointer (some ⟨w.heap.size + 1 + 1,0,none⟩)]] 165 (0,0)][j]? := fun j => by
   rw [<- hW]
   exact heap4 w _ _ _ _ j
 have g0 : W.heap[w.heap.size]? = some (.cells #[.pointer (some ⟨q,0,none⟩),.int .i64 (o : Int),.int .i64 (N : Int)] 163 (0,0)) := g 0
 have g1 : W.heap[w.heap.size + 1]? = some (.cells #[.slice a0 l.length c0] 46 (0,0)) := g 1
 have g2 : W.heap[w.heap.size + 1 + 1]? = some (.cells #[.string s] 9 (0,0)) := g 2
 have g3 : W.heap[w.heap.size + 1 + 1 + 1]? = some (.cells #[.func (.func 129) #[] #[.pointer (some ⟨w.heap.size + 1 + 1,0,none⟩)]] 165 (0,0)) := g 3
 have hF := con.lt hD
 obtain ⟨K0,hK0⟩ : ∃ K0 : Nat -> Prop,K0 = fun k => OB (.slice a0 l.length c0) k \/ k = w.heap.size + 1 \/ k = w.heap.size + 1 + 1 \/ k = w.heap.size + 1 + 1 + 1 := ⟨_,rfl⟩
 have hKW : ∀ k,K0 k -> k < W.heap.size /\ ¬ F k := fun k hk => by
   subst hK0
   rcases hk with h1 | h1 | h1 | h1
   · exact ⟨by have := own_lt0 hv h1; omega,fun hf => hdj k hf h1⟩
   · exact ⟨by omega,fun hf => by have := hF k hf; omega⟩
   · exact ⟨by omega,fun hf => by have := hF k hf; omega⟩
   · exact ⟨by omega,fun hf => by have := hF k hf; omega⟩
 have hst : ∀ u,Kpt K0 W u -> StrsAt u a0 l := fun u hu => strs_kept (hv.below hb) (fun k hk => hu k (by subst hK0; exact Or.inl hk))
 have c1 : ∀ u,Kpt K0 W u -> u.cell? ⟨w.heap.size + 1,0,none⟩ = some (.slice a0 l.length c0) := fun u hu => hu.cell (by subst hK0; exact Or.inr (Or.inl rfl)) (by simp [World.cell?,g1])
 have c2 : ∀ u,Kpt K0 W u -> u.cell? ⟨w.heap.size + 1 + 1,0,none⟩ = some (.string s) := fun u hu => hu.cell (by subst hK0; exact Or.inr (Or.inr (Or.inl rfl))) (by simp [World.cell?,g2])
 have c3 : ∀ u,Kpt K0 W u -> u.cell? ⟨w.heap.size + 1 + 1 + 1,0,none⟩ = some (.func (.func 129) #[] #[.pointer (some ⟨w.heap.size + 1 + 1,0,none⟩)]) := fun u hu => hu.cell (by subst hK0; exact Or.inr (Or.inr (Or.inr rfl))) (by simp [World.cell?,g3])
 have hl4 : l.length <= 4096 := by omega
 have m1 : ∀ u i,Kpt K0 W u -> i < N -> Calls Tryz.prog 145 #[.int .i64 (i : Int),.pointer (some ⟨w.heap.size + 1,0,none⟩)] u fun e u' => e = .returned (.string (a i)) /\ Below u.heap.size u u' := fun u i hu hi => by
   rw [<- ha i (by omega)]
   exact are_any l _ i a0 c0 u (c1 u hu) (hst u hu) (by omega) hl4
 have m2 : ∀ u i,Kpt K0 W u -> i < N -> Calls Tryz.prog 146 #[.int .i64 (i : Int),.pointer (some ⟨w.heap.size + 1,0,none⟩),.pointer (some ⟨w.heap.size + 1 + 1 + 1,0,none⟩)] u fun e u' => e = .returned (.string (recount (a i) s i)) /\ Below u.heap.size u u' := fun u i hu hi => by
   rw [<- ha i (by omega)]
   exact counted_any l s _ _ (w.heap.size + 1 + 1) i a0 c0 u (c1 u hu) (c3 u hu) (c2 u hu) (hst u hu) (by omega) hl4 (h256 _ (List.getElem_mem _))
 have m3 : ∀ u i,Kpt K0 W u -> i < N -> Calls Tryz.prog 129 #[.int .i64 (i : Int),.pointer (some ⟨w.heap.size + 1 + 1,0,none⟩)] u fun e u' => e = .returned (.string (blkOf s i)) /\ Below u.heap.size u u' := fun u i hu hi => blk_any s _ i u (c2 u hu) (by omega)
 have K1 := hide (sure_71_72 q o N (w.heap.size + 1) (w.heap.size + 1) (w.heap.size + 1 + 1 + 1) a (fun i => recount (a i) s i) st F K0 W (con.below hD hb) hok (by omega) hN ho hKW m2 m1)
 have hmk := made_ok o N a (fun i => recount (a i) s i) st hok
 have K2 : Hid (∀ F1 w1,DAt w1 q (made o (prs N a (fun i => recount (a i) s i)) st).2 F1 -> Loc F F1 W w1 -> w1.cell? ⟨w.heap.size,0,none⟩ = some (.pointer (some ⟨q,0,none⟩)) /\ w1.cell? ⟨w.heap.size,1,none⟩ = some (.int .i64 (o : Int)) /\ w1.cell? ⟨w.heap.size,2,none⟩ = some (.int .i64 (N : Int)) /\ w1.cell? ⟨w.heap.size + 1 + 1 + 1,0,none⟩ = some (.func (.func 129) #[] #[.pointer (some ⟨w.heap.size + 1 + 1,0,none⟩)]) /\
     Calls Tryz.prog 147 #[.agg #[.pointer (some ⟨q,0,none⟩),.int .i64 (o : Int),.int .i64 (N : Int)],.func (.func 146) #[] #[.pointer (some ⟨w.heap.size + 1,0,none⟩),.pointer (some ⟨w.heap.size + 1 + 1 + 1,0,none⟩)],.func (.func 129) #[] #[.pointer (some ⟨w.heap.size + 1 + 1,0,none⟩)]] w1 fun e w' => e = .returned (.int .i64 (((made o (prs N (fun i => recount (a i) s i) (blkOf s)) (made o (prs N a (fun i => recount (a i) s i)) st).2).1 : Nat) : Int)) /\ ∃ F',DAt w' q (made o (prs N (fun i => recount (a i) s i) (blkOf s)) (made o (prs N a (fun i => recount (a i) s i)) st).2).2 F' /\ Loc F1 F' w1 w') := fun F1 w1 hd hl => by
   have hkp : Kpt K0 W w1 := fun k hk => hl.block k (hKW k hk).1 (hKW k hk).2
   have ha0 : w1.heap[w.heap.size]? = some (.cells #[.pointer (some ⟨q,0,none⟩),.int .i64 (o : Int),.int .i64 (N : Int)] 163 (0,0)) := (hl.block _ (by omega) (fun hf => by have := hF _ hf; omega)).trans g0
   refine ⟨by simp [World.cell?,ha0],by simp [World.cell?,ha0],by simp [World.cell?,ha0],c3 w1 hkp,?_⟩
   refine sure_72_66 q o N (w.heap.size + 1) (w.heap.size + 1 + 1 + 1) (w.heap.size + 1 + 1) (fun i => recount (a i) s i) (blkOf s) _ F1 K0 w1 hd hmk.1 (by have := hmk.2; omega) hN ho (fun k hk => ⟨Nat.lt_of_lt_of_le (hKW k hk).1 hl.size,fun hf => ?_⟩) (fun u i hu hi => m3 u i (hkp.trans hu) hi) (fun u i hu hi => m2 u i (hkp.trans hu) hi)
   rcases hl.own k hf with h1 | h1
   · exact (hKW k hk).2 h1
   · have := (hKW k hk).1; omega
 have HL := hide (Loc.of_below F hb)
 have KB := hide (fun u => blocks_any s u)
 have hc0 : W.cell? ⟨w.heap.size,0,none⟩ = some (.pointer (some ⟨q,0,none⟩)) := by simp [World.cell?,g0]
 have hc1 : W.cell? ⟨w.heap.size,1,none⟩ = some (.int .i64 (o : Int)) := by simp [World.cell?,g0]
 have hc2 : W.cell? ⟨w.heap.size,2,none⟩ = some (.int .i64 (N : Int)) := by simp [World.cell?,g0]
 have HM : Hid (((made o (prs N a (fun i => recount (a i) s i)) st).1 ≠ 0 -> mended o N a s st = made o (prs N a (fun i => recount (a i) s i)) st) /\ ((made o (prs N a (fun i => recount (a i) s i)) st).1 = 0 -> mended o N a s st = made o (prs N (fun i => recount (a i) s i) (blkOf s)) (made o (prs N a (fun i => recount (a i) s i)) st).2)) := by
   unfold mended
   exact ⟨fun h => by rw [if_pos h],fun h => by rw [if_neg (by rw [h]; simp)]⟩
 clear hD hok hlo hv hdj h256 ha hb g g0 g1 g2 g3 hKW hst c1 c2 c3 m1 m2 m3 hmk hF hlN hN ho hl4
 generalize mended o N a s st = M at *
 generalize made o (prs N a (fun i => recount (a i) s i)) st = M1 at *
 generalize made o (prs N (fun i => recount (a i) s i) (blkOf s)) M1.2 = M2 at *
 go_enter Tryz.func122,Tryz.ntmps122
 go_wp2_with fail
 refine (KB.out _).mono ?_
 rintro e w1 ⟨rfl,rfl⟩
 by_cases h0 : M1.1 = 0
 · have HA := hide (HM.out.2 h0)
   rw [h0] at K1
   clear h0
   go_wp2_with fail
   refine K1.out.mono ?_
   rintro e w1 ⟨rfl,F1,hd,hl⟩
   obtain ⟨hq0,hq1,hq2,hq3,hq4⟩ := K2.out F1 w1 hd hl
   have HL1 := hide hl
   have K3 := hide hq4
   clear hd hl hq4
   go_wp2_with fail
   refine K3.out.mono ?_
   rintro e w2 ⟨rfl,F2,hd2,hl2⟩
   have HD2 := hide hd2
   have HL2 := hide hl2
   clear hd2 hl2
   go_wp2
   go_ret
   exact ⟨by rw [HA.out]; rfl,F2,by rw [HA.out]; exact HD2.out,(HL.out.trans HL1.out).trans HL2.out⟩
 · have HA := hide (HM.out.1 h0)
   have hez : ¬ ((M1.1 : Int) = 0) := by omega
   clear h0
   go_wp2_with fail
   refine K1.out.mono ?_
   rintro e w1 ⟨rfl,F1,hd,hl⟩
   have HD1 := hide hd
   have HL1 := hide hl
   clear hd hl
   go_wp2
   go_ret
   exact ⟨by rw [HA.out]; rfl,F1,by rw [HA.out]; exact HD1.out,HL.out.trans HL1.out⟩
end Go.Proofs.YtchhojkhfdkhfaaGreatDoor
namespace Go.Proofs.YtchhojkhfdkhfaaGreatDoor
open Go Go.RowKit Frm
set_option maxRecDepth 4000 in
theorem blkOf_eq {s t : ByteArray} {k j : Nat} (hc : cnt k s.size = cnt j t.size) (hd : ∀ i,i < cnt k s.size -> byteAt s (k * 255 + i) = byteAt t (j * 255 + i)) : blkOf s k = blkOf t j := by
 refine bytes_ext (by rw [blkOf_size,blkOf_size]) (fun i hi => ?_)
 rw [blkOf_size] at hi
 by_cases h1 : i < cnt k s.size
 · rw [blkOf_data s k i h1,blkOf_data t j i (by rw [<- hc]; exact h1)]
   exact hd i h1
 · by_cases h2 : i < 255
   · rw [blkOf_rest s k i (by omega) h2,blkOf_rest t j i (by rw [<- hc]; omega) h2]
   · have e : i = 255 := by omega
     subst e
     rw [blkOf_last,blkOf_last,hc]
set_option maxRecDepth 4000 in
theorem blkOf_shift (s : ByteArray) (c j : Nat) : blkOf s (c + j) = blkOf (s.extract (c * 255) s.size) j := by
 have hsz : (s.extract (c * 255) s.size).size = s.size - c * 255 := part_size s _ _ (Nat.le_refl _)
 have hm : (c + j) * 255 = c * 255 + j * 255 := Nat.add_mul _ _ _
 refine blkOf_eq ?_ (fun i hi => ?_)
 · rw [hsz]
   unfold cnt
   rw [hm]
   omega
 · have hlt : (c + j) * 255 + i < s.size := by unfold cnt at hi; omega
   rw [byteAt_part s (c * 255) s.size (j * 255 + i) (Nat.le_refl _) (by omega),hm,Nat.add_assoc]
theorem extract_app (s f : ByteArray) (c : Nat) (hc : c <= s.size) : (s ++ f).extract c (s ++ f).size = s.extract c s.size ++ f := by
 have hs : (s ++ f).size = s.size + f.size := ByteArray.size_append
 have h1 := part_size (s ++ f) c (s ++ f).size (Nat.le_refl _)
 have h2 := part_size s c s.size (Nat.le_refl _)
 refine bytes_ext (by rw [h1,ByteArray.size_append (a := s.extract c s.size),h2]; omega) (fun i hi => ?_)
 rw [h1] at hi
 rw [byteAt_part _ c _ i (Nat.le_refl _) (by omega)]
 by_cases h : i < s.size - c
 · rw [byteAt_append_left (by omega),byteAt_append_left (by omega),byteAt_part s c s.size i (Nat.le_refl _) (by omega)]
 · rw [byteAt_append_right (by omega),byteAt_append_right (by omega),h2,show c + i - s.size = i - (s.size - c) from by omega]
set_option maxRecDepth 4000 in
theorem blkOf_full (s f : ByteArray) (i : Nat) (h : i * 255 + 255 <= s.size) : blkOf s i = blkOf (s ++ f) i := by
 have hs : (s ++ f).size = s.size + f.size := ByteArray.size_append
 refine blkOf_eq (by unfold cnt; omega) (fun j hj => ?_)
 have := cnt_le i s.size
 rw [byteAt_append_left (by omega)]
theorem blkOf_past (s t : ByteArray) (k j : Nat) (h : s.size <= k * 255) (h' : t.size <= j * 255) : blkOf s k = blkOf t j := by
 have h0 : cnt k s.size = 0 := by unfold cnt; omega
 refine blkOf_eq (by unfold cnt; omega) (fun i hi => by omega)
theorem puts_cons (o : Nat) (x : ByteArray × ByteArray) (l : List (ByteArray × ByteArray)) (i : Nat) (st : St) : puts o (x :: l) i st = if x.1 = x.2 then puts o l (i + 1) st else if (st.write ((o + i : Nat) : Int) x.2).1 = 0 then puts o l (i + 1) (st.write ((o + i : Nat) : Int) x.2).2 else st.write ((o + i : Nat) : Int) x.2 := rfl
theorem puts_head (o : Nat) : ∀ (l m : List (ByteArray × ByteArray)) (i : Nat) (st : St),(∀ x ∈ l,x.1 = x.2) -> puts o (l ++ m) i st = puts o m (i + l.length) st
 | [],_,_,_,_ => rfl
 | x :: l,m,i,st,h => by
   rw [List.cons_append,puts_cons,if_pos (h x (by simp)),puts_head o l m (i + 1) st (fun y hy => h y (List.mem_cons_of_mem _ hy)),List.length_cons,show i + 1 + l.length = i + (l.length + 1) from by omega]
theorem puts_equal (o : Nat) : ∀ (m : List (ByteArray × ByteArray)) (i : Nat) (st : St),(∀ x ∈ m,x.1 = x.2) -> puts o m i st = (0,st)
 | [],_,_,_ => rfl
 | x :: l,i,st,h => by rw [puts_cons,if_pos (h x (by simp)),puts_equal o l (i + 1) st (fun y hy => h y (List.mem_cons_of_mem _ hy))]
theorem puts_end (o : Nat) : ∀ (l m : List (ByteArray × ByteArray)) (i : Nat) (st : St),(∀ x ∈ m,x.1 = x.2) -> puts o (l ++ m) i st = puts o l i st
 | [],m,i,st,h => by rw [List.nil_append,puts_equal o m i st h]; rfl
 | x :: l,m,i,st,h => by
   rw [List.cons_append,puts_cons,puts_cons]
   split
   · exact puts_end o l m (i + 1) st h
   · split
     · exact puts_end o l m (i + 1) _ h
     · rfl
theorem puts_shift (o d : Nat) : ∀ (l : List (ByteArray × ByteArray)) (i : Nat) (st : St),puts o l (i + d) st = puts (o + d) l i st
 | [],_,_ => rfl
 | x :: l,i,st => by
   rw [puts_cons,puts_cons,show o + (i + d) = o + d + i from by omega,show i + d + 1 = i + 1 + d from by omega]
   split
   · exact puts_shift o d l (i + 1) st
   · split
     · exact puts_shift o d l (i + 1) _
     · rfl
theorem prs_split (c t : Nat) (a b : Nat -> ByteArray) : prs (c + t) a b = prs c a b ++ prs t (fun j => a (c + j)) (fun j => b (c + j)) := by
 unfold prs
 rw [List.range_add,List.map_append,List.map_map]
 rfl
theorem prs_same {n : Nat} {a b : Nat -> ByteArray} (h : ∀ i,i < n -> a i = b i) : ∀ x ∈ prs n a b,x.1 = x.2 := fun x hx => by
 unfold prs at hx
 obtain ⟨i,hi,rfl⟩ := List.mem_map.1 hx
 exact h i (List.mem_range.1 hi)
theorem tail_size (s : ByteArray) : (tailOf s).size = s.size % 255 := by
 unfold tailOf
 rw [part_size s _ _ (Nat.le_refl _)]
 omega
theorem tail_at (s : ByteArray) : tailOf s = s.extract (s.size / 255 * 255) s.size := by
 unfold tailOf
 rw [show s.size - s.size % 255 = s.size / 255 * 255 from by omega]
theorem full_le (m : Nat) : m / 255 * 255 <= m := by omega
set_option maxRecDepth 8000 in
theorem puts_touched (o n : Nat) (s f : ByteArray) (st : St) (h : s.size + f.size <= n * 255) :
   puts (o + s.size / 255) (prs (((tailOf s ++ f).size + 254) / 255) (blkOf (tailOf s)) (blkOf (tailOf s ++ f))) 0 st = puts o (prs n (blkOf s) (blkOf (s ++ f))) 0 st := by
 have hsz : (tailOf s ++ f).size = s.size % 255 + f.size := by rw [ByteArray.size_append,tail_size]
 have hfl := full_le s.size
 have hA : ∀ j,blkOf s (s.size / 255 + j) = blkOf (tailOf s) j := fun j => by rw [blkOf_shift s _ j,tail_at]
 have hB : ∀ j,blkOf (s ++ f) (s.size / 255 + j) = blkOf (tailOf s ++ f) j := fun j => by
   rw [blkOf_shift (s ++ f) _ j,extract_app s f _ hfl,tail_at]
 obtain ⟨d,hd⟩ : ∃ d,n = s.size / 255 + (((tailOf s ++ f).size + 254) / 255 + d) := ⟨n - (s.size / 255 + ((tailOf s ++ f).size + 254) / 255),by rw [hsz]; omega⟩
 generalize hT : ((tailOf s ++ f).size + 254) / 255 = t at *
 rw [hd,prs_split (s.size / 255) (t + d),puts_head o _ _ 0 st (prs_same (fun i hi => blkOf_full s f i (by omega))),prs_length,prs_split t d,puts_end o _ _ _ st (prs_same (fun j _ => ?_)),puts_shift o (s.size / 255) _ 0 st]
 · rw [prs_congr (fun j _ => (hA j).symm) (fun j _ => (hB j).symm)]
 · show blkOf s (s.size / 255 + (t + j)) = blkOf (s ++ f) (s.size / 255 + (t + j))
   rw [hA,hB]
   refine blkOf_past _ _ _ _ ?_ ?_
   · rw [tail_size]; omega
   · omega
theorem tail_num (q M : Nat) (h : q * 255 <= M) : q * 255 + (M - q * 255 - (M - q * 255) % 255) = M - M % 255 := by omega
theorem tail_app (s f : ByteArray) : tailOf (tailOf s ++ f) = tailOf (s ++ f) := by
 have hs2 : (s ++ f).size = s.size + f.size := ByteArray.size_append
 have hfl := full_le s.size
 have e : tailOf s ++ f = (s ++ f).extract (s.size / 255 * 255) (s ++ f).size := by rw [extract_app s f _ hfl,tail_at]
 have t1 : ∀ x : ByteArray,tailOf x = x.extract (x.size - x.size % 255) x.size := fun _ => rfl
 have hx := part_size (s ++ f) (s.size / 255 * 255) (s ++ f).size (Nat.le_refl _)
 rw [e,t1 ((s ++ f).extract _ _),extract_extract,hx,t1 (s ++ f),tail_num (s.size / 255) (s ++ f).size (by omega)]
theorem puts_append (o : Nat) : ∀ (l m : List (ByteArray × ByteArray)) (i : Nat) (st : St),puts o (l ++ m) i st = if (puts o l i st).1 = 0 then puts o m (i + l.length) (puts o l i st).2 else puts o l i st
 | [],m,i,st => by simp [puts]
 | x :: l,m,i,st => by
   rw [List.cons_append,puts_cons,puts_cons,List.length_cons,show i + (l.length + 1) = i + 1 + l.length from by omega]
   split
   · exact puts_append o l m (i + 1) st
   · split
     · exact puts_append o l m (i + 1) _
     · rename_i h; first | rfl | rw [if_neg h]
theorem prs_succ (k : Nat) (a b : Nat -> ByteArray) : prs (k + 1) a b = prs k a b ++ [(a k,b k)] := by unfold prs; rw [List.range_succ,List.map_append]; rfl
theorem puts_next {o k : Nat} {a b : Nat -> ByteArray} {st cur : St} (h : puts o (prs k a b) 0 st = (0,cur)) : puts o (prs (k + 1) a b) 0 st = if a k = b k then (0,cur) else cur.write ((o + k : Nat) : Int) (b k) := by
 rw [prs_succ,puts_append,h,if_pos rfl,prs_length,Nat.zero_add,puts_cons]
 split
 · rfl
 · split
   · rename_i h2
     show (0,_) = _
     rw [<- h2]
   · rfl
theorem puts_stop {o k N : Nat} {a b : Nat -> ByteArray} {st : St} (hk : k <= N) (h : (puts o (prs k a b) 0 st).1 ≠ 0) : puts o (prs N a b) 0 st = puts o (prs k a b) 0 st := by
 obtain ⟨d,rfl⟩ : ∃ d,N = k + d := ⟨N - k,by omega⟩
 rw [prs_split,puts_append,if_neg h]
def Clear (F : Nat -> Prop) (a : Option Addr) : Prop := ∀ b off,a = some ⟨b,off,none⟩ -> ¬ F b
theorem strs_loc {F F' : Nat -> Prop} {u v : World} {a : Option Addr} {l : List ByteArray} (h : StrsAt u a l) (hl : Loc F F' u v) (hc : Clear F a) : StrsAt v a l := by
 rcases h with rfl | ⟨b,off,rfl,hx⟩
 · exact Or.inl rfl
 · exact Or.inr ⟨b,off,rfl,fun j hj => (World.cell?_of_block (a := ⟨b,off + j,none⟩) (hl.block b (World.block_lt_of_cell? u _ (hx j hj)) (hc b off rfl))).trans (hx j hj)⟩
theorem Loc.drewN {F F' : Nat -> Prop} {u v : World} (h : Loc F F' u v) (n : Nat) : Loc F F' u (v.drewN n) := ⟨h.os,h.tape,h.output,h.size,h.block,h.own⟩
theorem RD.drewN {u : World} {p : Nat} {st : St} {F : Nat -> Prop} (h : RD u p st F) (n : Nat) : RD (u.drewN n) p st F := h.same (fun _ _ => rfl)
set_option maxRecDepth 10000 in
set_option maxHeartbeats 2000000 in
theorem rMade (p o N : Nat) (aa ab : Option Addr) (ca cb : Nat) (la lb : List ByteArray) (st : St) (F : Nat -> Prop) (w : World) (hD : RD w p st F) (hok : st.Ok) (hlo : st.loose.length + N <= 10000) (ho : o <= 4096) (hN : N <= 4096) (hla : la.length = N) (hlb : lb.length = N) (ha : StrsAt w aa la) (hb : StrsAt w ab lb) (hca : Clear F aa) (hcb : Clear F ab) (a b : Nat -> ByteArray) (hav : ∀ i (hi : i < la.length),la[i] = a i) (hbv : ∀ i (hi : i < lb.length),lb[i] = b i) :
   Calls Tryz.prog 96 #[.pointer (some ⟨p,0,none⟩),.int .i64 (o : Int),.slice aa la.length ca,.slice ab lb.length cb] w fun e w' => e = .returned (.int .i64 (((made o (prs N a b) st).1 : Nat) : Int)) /\ ∃ F',RD w' p (made o (prs N a b) st).2 F' /\ Loc F F' w w' := by
 have HM := hide (made_of o N a b st)
 have HA := hide (fun (u : World) (F' : Nat -> Prop) (hl : Loc F F' w u) => And.intro (strs_loc ha hl hca) (strs_loc hb hl hcb))
 have HAV := hide hav
 have HBV := hide hbv
 subst hla
 have HLB := hide hlb
 clear hav hbv hca hcb ha hb
 rw [hlb]
 clear hlb
 generalize made o (prs la.length a b) st = M at *
 go_enter Tryz.func96,Tryz.ntmps96
 go_wp2_with fail
 go_loopw [9,10,11] (fun sm i _ u => ∃ (k : Nat) (cur : St) (F' : Nat -> Prop),k <= la.length /\ i = .int .i64 (k : Int) /\ sm = .bool (!(df a b k).isEmpty) /\ puts o (prs k a b) 0 st = (0,cur) /\ RD u p cur F' /\ Loc F F' w u) (fun _ i _ _ => la.length - (intOf i).toNat)
 case atStart => exact ⟨0,st,F,Nat.zero_le _,rfl,rfl,rfl,hD,Loc.refl _ _⟩
 case round =>
   obtain ⟨k,cur,F',hk,rfl,rfl,hpu,hd,hloc⟩ := hrel
   by_cases hlt : k < la.length
   · obtain ⟨hsa,hsb⟩ := HA.out wr F' hloc
     obtain ⟨b1,o1,rfl,hx1⟩ : ∃ b1 o1,aa = some ⟨b1,o1,none⟩ /\ wr.cell? ⟨b1,o1 + k,none⟩ = some (.string (a k)) := by
       rcases hsa with rfl | ⟨b1,o1,e,h⟩
       · exact absurd hlt (by simp)
       · exact ⟨b1,o1,e,by rw [<- HAV.out k hlt]; exact h k hlt⟩
     obtain ⟨b2,o2,rfl,hx2⟩ : ∃ b2 o2,ab = some ⟨b2,o2,none⟩ /\ wr.cell? ⟨b2,o2 + k,none⟩ = some (.string (b k)) := by
       rcases hsb with rfl | ⟨b2,o2,e,h⟩
       · have := HLB.out; simp at this; omega
       · have hlt2 : k < lb.length := by have := HLB.out; omega
         exact ⟨b2,o2,e,by rw [<- HBV.out k hlt2]; exact h k hlt2⟩
     clear hsa hsb
     have hz : (k : Int) < (la.length : Int) := by omega
     have hw : wrap64 ((o : Int) + (k : Int)) = ((o + k : Nat) : Int) := by unfold wrap64; omega
     have hw2 : IntKind.i64.wrap ((k : Int) + 1) = (k : Int) + 1 := by rw [IntKind.wrap_i64]; omega
     have hcok : cur.Ok /\ cur.loose.length <= st.loose.length + k := by
       have h1 := lay_len o k a b st hok
       rw [hpu] at h1
       exact h1
     have HPN := hide (puts_next hpu)
     have HDS := hide (df_succ a b k)
     have HD := hide hd
     have HLoc := hide hloc
     by_cases hab : a k = b k
     · have hP2 := HPN.out
       have hD2 := HDS.out
       rw [if_pos hab] at hP2 hD2
       rw [List.append_nil] at hD2
       have HP2 := hide hP2
       have HD2 := hide hD2
       rw [hab] at hx1
       clear hP2 hD2 hpu hd hloc hab hcok
       generalize b k = t at *
       generalize hsm : (!(df a b k).isEmpty) = sm at *
       have HSM := hide hsm
       clear hsm
       go_wp2_with fail
       go_quiet (fail)
       go_wp2
       go_roundw
       case rel => exact ⟨k + 1,cur,F',hlt,by go_num,by rw [HD2.out,HSM.out],HP2.out,HD.out.drewN _,HLoc.out.drewN _⟩
       case measure => simp [intOf]; omega
     · have hne : ((a k).toList == (b k).toList) = false := toList_ne hab
       have hP2 := HPN.out
       have hD2 := HDS.out
       rw [if_neg hab] at hP2 hD2
       have HP2 := hide hP2
       have HD2 : Hid ((!(df a b (k + 1)).isEmpty) = true) := by
         show _ = _
         rw [hD2]
         cases df a b k <;> rfl
       have KW := hide (fun n => rd_write p cur F' ((o + k : Nat) : Int) (b k) (wr.drewN n) (hd.drewN n) hcok.1 (by have := hcok.2; omega))
       clear hP2 hD2 hpu hd hloc hab hcok
       generalize hsm : (!(df a b k).isEmpty) = sm at *
       clear hsm
       by_cases he : (cur.write ((o + k : Nat) : Int) (b k)).1 = 0
       · rw [he] at KW
         have HE := hide he
         clear he
         generalize b k = t at *
         generalize a k = t2 at *
         go_wp2_with fail
         go_quiet (fail)
         go_wp2_with fail
         refine (KW.out _).mono ?_
         rintro e u ⟨rfl,F2,hd2,hl2⟩
         have HDD := hide hd2
         have HLL := hide ((HLoc.out.drewN _).trans hl2)
         clear hd2 hl2
         go_wp2
         go_roundw
         case rel => exact ⟨k + 1,_,F2,hlt,by go_num,by rw [HD2.out],HP2.out.trans (Prod.ext HE.out rfl),HDD.out,HLL.out⟩
         case measure => simp [intOf]; omega
       · have hez : ¬ ((((cur.write ((o + k : Nat) : Int) (b k)).1 : Nat) : Int) = 0) := by omega
         have HMM : Hid (M = cur.write ((o + k : Nat) : Int) (b k)) := by
           show _ = _
           have h1 : (puts o (prs (k + 1) a b) 0 st).1 ≠ 0 := by rw [HP2.out]; exact he
           have h2 := puts_stop (N := la.length) hlt h1
           rw [HM.out.1 (by rw [h2]; exact h1),h2,HP2.out]
         clear he
         generalize cur.write ((o + k : Nat) : Int) (b k) = X at *
         generalize b k = t at *
         generalize a k = t2 at *
         go_wp2_with fail
         go_quiet (fail)
         go_wp2_with fail
         refine (KW.out _).mono ?_
         rintro e u ⟨rfl,F2,hd2,hl2⟩
         have HDD := hide hd2
         have HLL := hide ((HLoc.out.drewN _).trans hl2)
         clear hd2 hl2
         go_wp2
         go_ret
         exact ⟨by rw [HMM.out]; rfl,F2,by rw [HMM.out]; exact HDD.out,HLL.out⟩
   · have hkl : k = la.length := by omega
     subst hkl
     have hcok : cur.Ok /\ cur.loose.length <= st.loose.length + la.length := by
       have h1 := lay_len o la.length a b st hok
       rw [hpu] at h1
       exact h1
     have h0 : (puts o (prs la.length a b) 0 st).1 = 0 := by rw [hpu]
     have HD := hide hd
     have HLoc := hide hloc
     by_cases hdf : df a b la.length = []
     · have HMM := hide (HM.out.2.1 h0 hdf)
       rw [hpu] at HMM
       have hsm : (!(df a b la.length).isEmpty) = false := by rw [hdf]; rfl
       clear hpu hd hloc hdf h0 hcok
       rw [hsm]
       clear hsm
       go_wp2
       go_ret
       exact ⟨by rw [HMM.out]; rfl,F',by rw [HMM.out]; exact HD.out,HLoc.out⟩
     · have HMM := hide (HM.out.2.2 h0 hdf)
       rw [hpu] at HMM
       have hsm : (!(df a b la.length).isEmpty) = true := by
         cases h : df a b la.length with
         | nil => exact absurd h hdf
         | cons x l => rfl
       have KS := hide (rd_sync p cur F' wr hd hcok.1 (by have := hcok.2; omega))
       clear hpu hd hloc hdf h0 hcok
       rw [hsm]
       clear hsm
       go_wp2_with fail
       refine KS.out.mono ?_
       rintro e u ⟨rfl,F2,hd2,hl2⟩
       have HDD := hide hd2
       have HLL := hide (HLoc.out.trans hl2)
       clear hd2 hl2
       go_wp2
       go_ret
       exact ⟨by rw [HMM.out]; rfl,F2,by rw [HMM.out]; exact HDD.out,HLL.out⟩
theorem bgrow0 (u : World) (ob : Obj) : Below u.heap.size u (u.alloc ob) := (Below.refl _ _).alloc (Nat.le_refl _) _
theorem cellAl {u : World} {a : Addr} {v : Value} (h : u.cell? a = some v) (ob : Obj) : (u.alloc ob).cell? a = some v := cellB (bgrow0 u ob) h
theorem cellLoc {F F' : Nat -> Prop} {u v : World} {a : Addr} {x : Value} (hl : Loc F F' u v) (hF : ¬ F a.block) (h : u.cell? a = some x) : v.cell? a = some x := (World.cell?_of_block (hl.block a.block (World.block_lt_of_cell? u _ h) hF)).trans h
def Apd (p q o n : Nat) (s : ByteArray) (b : Bool) (st : St) (F : Nat -> Prop) (w : World) (x : Int) (e : Ending) (w' : World) : Prop :=
 e = .returned (.int .i64 x) /\ LAt w' p q o n s b /\ ∃ F',DAt w' q st F' /\ Loc (fun k => F k \/ k = p) (fun k => F' k \/ k = p) w w' /\ ¬ F' p
theorem Apd.same {p q o n : Nat} {s : ByteArray} {b : Bool} {st : St} {F : Nat -> Prop} {w w' : World} {x : Int} (hL : LAt w p q o n s b) (hD : DAt w q st F) (hp : ¬ F p) (hb : Below w.heap.size w w') : Apd p q o n s b st F w x (.returned (.int .i64 x)) w' :=
 ⟨rfl,hL.same (hb.block p hL.lt),F,con.below hD hb,Loc.of_below _ hb,hp⟩
set_option maxHeartbeats 400000 in
theorem append_nil (t : ByteArray) (w : World) : Calls Tryz.prog 192 #[.pointer none,.string t] w fun e w' => e = .returned (.int .i64 1) /\ w' = w := by
 go_enter Tryz.func192,Tryz.ntmps192
 go_wp2
 go_ret
 exact ⟨rfl,rfl⟩
set_option maxHeartbeats 400000 in
theorem append_long' (p q o n : Nat) (s t : ByteArray) (st : St) (F : Nat -> Prop) (w : World) (hL : LAt w p q o n s false) (hD : DAt w q st F) (hp : ¬ F p) (ht : 65536 < t.size) (ht2 : t.size <= maxLen) :
   Calls Tryz.prog 192 #[.pointer (some ⟨p,0,none⟩),.string t] w (Apd p q o n s false st F w 4) := by
 have c0 := hL.c0
 have c5 := hL.c5
 have KF := hide (frame_long t w ht ht2)
 have H := hide (fun x => Apd.same (x := x) hL hD hp (Below.refl _ _))
 clear hL hD hp ht ht2
 go_enter Tryz.func192,Tryz.ntmps192
 go_wp2_with fail
 refine KF.out.mono ?_
 rintro e w1 ⟨rfl,hw1⟩
 obtain rfl := hw1.symm
 go_wp2
 go_ret
 exact H.out 4
set_option maxHeartbeats 400000 in
theorem append_full' (p q o n : Nat) (s t : ByteArray) (st : St) (F : Nat -> Prop) (w : World) (hL : LAt w p q o n s false) (hD : DAt w q st F) (hp : ¬ F p) (ht : t.size <= 65536) (hn : n <= 200) (hs : s.size <= n * 255) (hfit : n * 255 < s.size + (t.size + 8)) :
   Calls Tryz.prog 192 #[.pointer (some ⟨p,0,none⟩),.string t] w (Apd p q o n s false st F w 6) := by
 have c0 := hL.c0
 have c5 := hL.c5
 have KF := hide (frame_any t w ht)
 have hz : (n : Int) * 255 - (s.size : Int) < ((frm t).size : Int) := by rw [frm_size]; omega
 have HLt := hide hL
 have HR := hide (fun u (hu : LAt u p q o n s false) => room_any p q o n s false u hu (by omega) hs)
 have H := hide (fun x w' hb => Apd.same (x := x) (w' := w') hL hD hp hb)
 clear hL hD hp ht hn hs hfit
 generalize frm t = f at *
 go_enter Tryz.func192,Tryz.ntmps192
 go_wp2_with fail
 refine KF.out.mono ?_
 rintro e w1 ⟨rfl,hb1⟩
 have KR := hide (HR.out w1 (HLt.out.same (hb1.block p HLt.out.lt)))
 have HB := hide hb1
 clear hb1
 go_wp2_with fail
 refine KR.out.mono ?_
 rintro e w2 ⟨rfl,m,rfl⟩
 go_wp2
 go_ret
 exact H.out 6 _ (below_drewN HB.out m)
theorem append_lay (q o n : Nat) (s f : ByteArray) (st : St) (F : Nat -> Prop) (w u : World) (hD : DAt w q st F) (hok : st.Ok) (hlo : st.loose.length + n <= 10000) (ho : o + n <= 4096) (hfit : s.size + f.size <= n * 255) (hb : Below w.heap.size w u) :
   Calls Tryz.prog 159 #[.agg #[.pointer (some ⟨q,0,none⟩),.int .i64 ((o + s.size / 255 : Nat) : Int),.int .i64 ((((tailOf s ++ f).size + 254) / 255 : Nat) : Int)],.func (.func 129) #[] #[.pointer (some ⟨u.heap.size,0,none⟩)],.func (.func 129) #[] #[.pointer (some ⟨u.heap.size + 1,0,none⟩)]] ((u.alloc (.cells #[.string (tailOf s)] 9)).alloc (.cells #[.string (tailOf s ++ f)] 9)) fun e w' =>
     (∃ b,e = .returned (.tuple #[.bool b,.int .i64 (((puts o (prs n (blkOf s) (blkOf (s ++ f))) 0 st).1 : Nat) : Int)])) /\ ∃ F',DAt w' q (puts o (prs n (blkOf s) (blkOf (s ++ f))) 0 st).2 F' /\ Loc F F' ((u.alloc (.cells #[.string (tailOf s)] 9)).alloc (.cells #[.string (tailOf s ++ f)] 9)) w' := by
 have hF := con.lt hD
 have hsz : (tailOf s ++ f).size = s.size % 255 + f.size := by rw [ByteArray.size_append,tail_size]
 have hb2 : Below w.heap.size w ((u.alloc (.cells #[.string (tailOf s)] 9)).alloc (.cells #[.string (tailOf s ++ f)] 9)) := (hb.alloc hb.size _).alloc (by have := hb.size; simp; omega) _
 have hus := hb.size
 have g0 : ((u.alloc (.cells #[.string (tailOf s)] 9)).alloc (.cells #[.string (tailOf s ++ f)] 9)).cell? ⟨u.heap.size,0,none⟩ = some (.string (tailOf s)) := cellAl (by simp [go_sem]) _
 have g1 : ((u.alloc (.cells #[.string (tailOf s)] 9)).alloc (.cells #[.string (tailOf s ++ f)] 9)).cell? ⟨u.heap.size + 1,0,none⟩ = some (.string (tailOf s ++ f)) := by
   have := (Boxed.new (u.alloc (.cells #[.string (tailOf s)] 9)) 9 (.string (tailOf s ++ f))).cell
   rw [World.size_alloc] at this
   exact this
 have hlast : ((u.alloc (.cells #[.string (tailOf s)] 9)).alloc (.cells #[.string (tailOf s ++ f)] 9)).heap.size = u.heap.size + 2 := by simp
 generalize (u.alloc (.cells #[.string (tailOf s)] 9)).alloc (.cells #[.string (tailOf s ++ f)] 9) = W at *
 have hT : ((tailOf s ++ f).size + 254) / 255 <= n := by rw [hsz]; omega
 have hT2 : s.size / 255 + ((tailOf s ++ f).size + 254) / 255 <= n := by rw [hsz]; omega
 have key := lay_66_66 q (o + s.size / 255) (((tailOf s ++ f).size + 254) / 255) u.heap.size (u.heap.size + 1) (blkOf (tailOf s)) (blkOf (tailOf s ++ f)) st F (fun k => k = u.heap.size \/ k = u.heap.size + 1) W (con.below hD hb2) hok (by omega) (by omega) (by omega)
   (fun k hk => ⟨by omega,fun hf => by have := hF k hf; omega⟩)
   (fun v i hv hi => blk_any _ _ i v (hv.cell (Or.inr rfl) g1) (by omega)) (fun v i hv hi => blk_any _ _ i v (hv.cell (Or.inl rfl) g0) (by omega))
 refine key.mono ?_
 rintro e w' ⟨rfl,F',hd,hl⟩
 rw [puts_touched o n s f st hfit] at hd ⊢
 exact ⟨⟨_,rfl⟩,F',hd,hl⟩
theorem Loc.or {F F' P : Nat -> Prop} {u v : World} (h : Loc F F' u v) : Loc (fun k => F k \/ P k) (fun k => F' k \/ P k) u v :=
 ⟨h.os,h.tape,h.output,h.size,fun k hk hn => h.block k hk (fun hf => hn (Or.inl hf)),fun k hk => by
   rcases hk with h1 | h1
   · rcases h.own k h1 with h2 | h2
     · exact Or.inl (Or.inl h2)
     · exact Or.inr h2
   · exact Or.inl (Or.inr h1)⟩
structure Laid (p q o n : Nat) (s : ByteArray) (st : St) (F F7 : Nat -> Prop) (w w7 : World) : Prop where
 log : LAt w7 p q o n s false
 disk : DAt w7 q st F7
 loc : Loc (fun k => F k \/ k = p) (fun k => F7 k \/ k = p) w w7
 notp : ¬ F7 p
theorem Laid.mk' {p q o n : Nat} {s : ByteArray} {st : St} {F F7 : Nat -> Prop} {w u w7 : World} {o1 o2 : Obj} (hL : LAt w p q o n s false) (hp : ¬ F p) (hb : Below w.heap.size w u) (hd : DAt w7 q st F7) (hl : Loc F F7 ((u.alloc o1).alloc o2) w7) : Laid p q o n s st F F7 w w7 := by
 have hb2 : Below w.heap.size w ((u.alloc o1).alloc o2) := (hb.alloc hb.size _).alloc (by have := hb.size; simp; omega) _
 have hlt := hL.lt
 have hs := hb2.size
 refine ⟨hL.same ((hl.block p (by omega) hp).trans (hb2.block p hlt)),hd,(Loc.of_below _ hb2).trans hl.or,fun hf => ?_⟩
 rcases hl.own p hf with h | h
 · exact hp h
 · omega
theorem Laid.broken {p q o n : Nat} {s : ByteArray} {st : St} {F F7 : Nat -> Prop} {w w7 : World} (h : Laid p q o n s st F F7 w w7) (x : Int) : Apd p q o n s true st F w x (.returned (.int .i64 x)) (w7.setCell ⟨p,5,none⟩ (.bool true)) := by
 refine ⟨rfl,?_,F7,con.same h.disk (fun k hk => Below.heap_setCell w7 _ _ k (fun e => h.notp (by rw [show k = p from e] at hk; exact hk))),h.loc.trans (Loc.setCell w7 ⟨p,5,none⟩ _ (Or.inr rfl)),h.notp⟩
 have := heap_set3 (i := 5) h.log (.bool true)
 exact this
theorem Laid.at8 {p q o n : Nat} {s : ByteArray} {v : Value} {st : St} {F F7 : Nat -> Prop} {w w7 w8 : World} (h : Laid p q o n s st F F7 w w7) (hb : Below (w7.setCell ⟨p,3,none⟩ v).heap.size (w7.setCell ⟨p,3,none⟩ v) w8) : w8.cell? ⟨p,4,none⟩ = some (.string (tailOf s)) /\ w8.frozen? ⟨p,4,none⟩ = false := by
 have hsz : (w7.setCell ⟨p,3,none⟩ v).heap.size = w7.heap.size := by simp [World.setCell]
 have e8 : w8.heap[p]? = _ := (hb.block p (by rw [hsz]; exact h.log.lt)).trans (heap_set3 (i := 3) h.log v)
 exact ⟨by simp [World.cell?,e8],by simp [World.frozen?,e8]⟩
theorem Laid.done {p q o n m : Nat} {s sf T' : ByteArray} {st : St} {F F7 : Nat -> Prop} {w w7 w8 : World} (h : Laid p q o n s st F F7 w w7) (hb : Below (w7.setCell ⟨p,3,none⟩ (.int .i64 (m : Int))).heap.size (w7.setCell ⟨p,3,none⟩ (.int .i64 (m : Int))) w8) (hm : sf.size = m) (hT : T' = tailOf sf) : Apd p q o n sf false st F w 0 (.returned (.int .i64 0)) (w8.setCell ⟨p,4,none⟩ (.string T')) := by
 subst hm
 subst hT
 have h7 := h.log
 have hsz : (w7.setCell ⟨p,3,none⟩ (.int .i64 (sf.size : Int))).heap.size = w7.heap.size := by simp [World.setCell]
 have e8 : w8.heap[p]? = _ := (hb.block p (by rw [hsz]; exact h7.lt)).trans (heap_set3 (i := 3) h.log (.int .i64 (sf.size : Int)))
 have ne : ∀ k,F7 k -> k ≠ p := fun k hk e => h.notp (by rw [e] at hk; exact hk)
 have hd := con.lt h.disk
 refine ⟨rfl,?_,F7,con.same h.disk (fun k hk => ?_),(h.loc.trans (Loc.setCell w7 ⟨p,3,none⟩ _ (Or.inr rfl))).trans ((Loc.of_below _ hb).trans (Loc.setCell w8 ⟨p,4,none⟩ _ (Or.inr rfl))),h.notp⟩
 · have := heap_set3 (i := 4) e8 (.string (tailOf sf))
   exact this
 · rw [Below.heap_setCell w8 _ _ k (ne k hk),hb.block k (by rw [hsz]; exact hd k hk),Below.heap_setCell w7 _ _ k (ne k hk)]
theorem zeros_succ (n b : Nat) (st : St) : zeros (n + 1) b st = if (st.write ((b : Nat) : Int) zblock).1 = 0 then zeros n (b + 1) (st.write ((b : Nat) : Int) zblock).2 else st.write ((b : Nat) : Int) zblock := rfl
structure Clr (w : World) (q o N : Nat) (st : St) (F : Nat -> Prop) (B k : Nat) (cur : St) (F' : Nat -> Prop) (u : World) : Prop where
 rest : zeros N o st = zeros (N - k) (o + k) cur
 disk : DAt u q cur F'
 loc : Loc F F' w u
 ok : cur.Ok
 few : cur.loose.length <= st.loose.length + k
 box : u.cell? ⟨B,0,none⟩ = some (.string ⟨#[]⟩)
 notB : ¬ F' B
theorem clear_of {st : St} {o N : Nat} : ((zeros N o st).1 ≠ 0 -> walClear st o N = zeros N o st) /\ ((zeros N o st).1 = 0 -> walClear st o N = (zeros N o st).2.sync) := by
 unfold walClear
 exact ⟨fun h => by rw [if_pos h],fun h => by rw [if_neg (by rw [h]; simp)]⟩
set_option maxRecDepth 10000 in
set_option maxHeartbeats 2000000 in
theorem clear_any (q o N : Nat) (st : St) (F : Nat -> Prop) (w : World) (hD : DAt w q st F) (hok : st.Ok) (hl : st.loose.length + N <= 10000) (hN : o + N <= st.sure.length) (h1 : 1 <= N) :
   Calls Tryz.prog 77 #[.pointer (some ⟨q,0,none⟩),.int .i64 (o : Int),.int .i64 (N : Int)] w fun e w' => e = .returned (.int .i64 (((walClear st o N).1 : Nat) : Int)) /\ ∃ F',DAt w' q (walClear st o N).2 F' /\ Loc F F' w w' := by
 have hfew := hok.few
 obtain ⟨W,hW⟩ : ∃ W,w.alloc (.cells #[.pointer (some ⟨q,0,none⟩),.int .i64 (o : Int),.int .i64 (N : Int)] 163) = W := ⟨_,rfl⟩
 have hbW : Below w.heap.size w W := by rw [<- hW]; exact (Below.refl _ _).alloc (Nat.le_refl _) _
 have hszW : W.heap.size = w.heap.size + 1 := by rw [<- hW]; simp
 have harea : W.heap[w.heap.size]? = some (.cells #[.pointer (some ⟨q,0,none⟩),.int .i64 (o : Int),.int .i64 (N : Int)] 163 (0,0)) := by rw [<- hW]; exact World.alloc_heap_new w _
 have hc0 : W.cell? ⟨w.heap.size,0,none⟩ = some (.pointer (some ⟨q,0,none⟩)) := by simp [World.cell?,harea]
 have hc1 : W.cell? ⟨w.heap.size,1,none⟩ = some (.int .i64 (o : Int)) := by simp [World.cell?,harea]
 have hc2 : W.cell? ⟨w.heap.size,2,none⟩ = some (.int .i64 (N : Int)) := by simp [World.cell?,harea]
 have hmay : st.may (o : Int) (N : Int) := by unfold St.may; omega
 have KF : Hid (Calls Tryz.prog 105 #[.agg #[.pointer (some ⟨q,0,none⟩),.int .i64 (o : Int),.int .i64 (N : Int)]] W fun e w' => e = .returned (.int .i64 0) /\ Below W.heap.size W w') := by
   have := fault_any q (o : Int) (N : Int) st F W (con.below hD hbW) hok (by omega)
   rw [if_pos hmay] at this
   exact this
 have HS : Hid (∀ w1,Below W.heap.size W w1 -> Clr w q o N st F w1.heap.size 0 st F (w1.alloc (.cells #[.string ⟨#[]⟩] 9))) := fun w1 hb1 => by
   have hb2 : Below w.heap.size w (w1.alloc (.cells #[.string ⟨#[]⟩] 9)) := (hbW.trans (hb1.mono (by omega))).alloc (by have := hb1.size; omega) _
   exact ⟨rfl,con.below hD hb2,Loc.of_below F hb2,hok,Nat.le_refl _,by simp [go_sem],fun hf => by have := con.lt hD _ hf; have := hb1.size; omega⟩
 have HC := hide (clear_of (st := st) (o := o) (N := N))
 have ho4 : o <= 4096 := by omega
 have hN4 : N <= 4096 := by omega
 clear hD hok hN hbW harea hmay
 generalize walClear st o N = M at *
 go_enter Tryz.func77,Tryz.ntmps77
 go_wp2_with fail
 refine KF.out.mono ?_
 rintro e w1 ⟨rfl,hb1⟩
 have HS1 := hide (HS.out w1 hb1)
 clear hb1
 go_wp2_with fail
 refine (blocks_any ⟨#[]⟩ _).mono ?_
 rintro e w2 ⟨rfl,rfl⟩
 go_wp2_with fail
 generalize w1.alloc (.cells #[.string ⟨#[]⟩] 9) = W2 at *
 generalize w1.heap.size = B at *
 go_loopw [10,11,23] (fun _ _ c wr => ∃ k : Nat,k <= N /\ c = .int .i64 (k : Int) /\ ∃ cur F',Clr w q o N st F B k cur F' wr) (fun _ _ c _ => N - (intOf c).toNat)
 case atStart => exact ⟨0,Nat.zero_le _,rfl,st,F,HS1.out⟩
 case round =>
   obtain ⟨k,hk,rfl,cur,F',hc⟩ := hrel
   by_cases hlt : k < N
   · have hz : (k : Int) < (N : Int) := by omega
     have hw : wrap64 ((o : Int) + (k : Int)) = ((o + k : Nat) : Int) := by unfold wrap64; omega
     have hw2 : IntKind.i64.wrap ((k : Int) + 1) = (k : Int) + 1 := by rw [IntKind.wrap_i64]; omega
     have KB : Hid (Calls Tryz.prog 129 #[.int .i64 (k : Int),.pointer (some ⟨B,0,none⟩)] wr fun e w' => e = .returned (.string zblock) /\ Below wr.heap.size wr w') := by
       have := blk_any ⟨#[]⟩ B k wr hc.box (by omega)
       have e : blkOf ⟨#[]⟩ k = zblock := blkOf_none k
       rw [e] at this
       exact this
     have hze : zeros N o st = if (cur.write ((o + k : Nat) : Int) zblock).1 = 0 then zeros (N - (k + 1)) (o + (k + 1)) (cur.write ((o + k : Nat) : Int) zblock).2 else cur.write ((o + k : Nat) : Int) zblock := by
       rw [hc.rest,show N - k = N - (k + 1) + 1 from by omega,zeros_succ,Nat.add_assoc]
     have HZE := hide hze
     have KW : Hid (∀ u,DAt u q cur F' -> Calls Tryz.prog 34 #[.pointer (some ⟨q,0,none⟩),.int .i64 ((o + k : Nat) : Int),.string zblock] u fun e v => e = .returned (.int .i64 (((cur.write ((o + k : Nat) : Int) zblock).1 : Nat) : Int)) /\ ∃ F2,DAt v q (cur.write ((o + k : Nat) : Int) zblock).2 F2 /\ Loc F' F2 u v) := fun u hu => write_any q cur F' _ zblock u hu hc.ok (by have := hc.few; omega)
     have HCl := hide hc
     have HOK := hide (hc.ok.write ((o + k : Nat) : Int) zblock)
     have HFW := hide (write_loose cur ((o + k : Nat) : Int) zblock)
     clear hze hc
     generalize zblock = zb at *
     by_cases he : (cur.write ((o + k : Nat) : Int) zb).1 = 0
     · rw [he] at KW
       have HZ2 : Hid (zeros N o st = zeros (N - (k + 1)) (o + (k + 1)) (cur.write ((o + k : Nat) : Int) zb).2) := by
         have := HZE.out
         rw [if_pos he] at this
         exact this
       clear he
       generalize (cur.write ((o + k : Nat) : Int) zb).2 = nx at *
       go_wp2_with fail
       refine KB.out.mono ?_
       rintro e w3 ⟨rfl,hb3⟩
       have KW3 := hide (KW.out w3 (con.below HCl.out.disk hb3))
       have HB3 := hide hb3
       clear hb3
       go_wp2_with fail
       refine KW3.out.mono ?_
       rintro e w4 ⟨rfl,F2,hd4,hl4⟩
       have HD4 := hide hd4
       have HL4 := hide hl4
       clear hd4 hl4
       go_wp2
       go_roundw
       case rel =>
         refine ⟨k + 1,hlt,by go_num,nx,F2,⟨HZ2.out,HD4.out,HCl.out.loc.trans ((Loc.of_below _ HB3.out).trans HL4.out),HOK.out,by have := HFW.out; have := HCl.out.few; omega,?_,fun hf => ?_⟩⟩
         · exact cellLoc HL4.out HCl.out.notB (cellB HB3.out HCl.out.box)
         · rcases HL4.out.own B hf with h | h
           · exact HCl.out.notB h
           · have := World.block_lt_of_cell? _ _ HCl.out.box
             have := HB3.out.size
             simp only at *
             omega
       case measure => simp [intOf]; omega
     · have hez : ¬ ((((cur.write ((o + k : Nat) : Int) zb).1 : Nat) : Int) = 0) := by omega
       have HZ2 : Hid (M = cur.write ((o + k : Nat) : Int) zb) := by
         have := HZE.out
         rw [if_neg he] at this
         have h2 := HC.out.1 (by rw [this]; exact he)
         rw [this] at h2
         exact h2
       clear he
       generalize cur.write ((o + k : Nat) : Int) zb = nx at *
       go_wp2_with fail
       refine KB.out.mono ?_
       rintro e w3 ⟨rfl,hb3⟩
       have KW3 := hide (KW.out w3 (con.below HCl.out.disk hb3))
       have HB3 := hide hb3
       clear hb3
       go_wp2_with fail
       refine KW3.out.mono ?_
       rintro e w4 ⟨rfl,F2,hd4,hl4⟩
       have HD4 := hide hd4
       have HL4 := hide hl4
       clear hd4 hl4
       go_wp2
       go_ret
       exact ⟨by rw [HZ2.out]; rfl,F2,by rw [HZ2.out]; exact HD4.out,HCl.out.loc.trans ((Loc.of_below _ HB3.out).trans HL4.out)⟩
   · have hkN : k = N := by omega
     subst hkN
     have hze : zeros k o st = (0,cur) := by rw [hc.rest,Nat.sub_self]; rfl
     have HM : Hid (M = cur.sync) := by
       have := HC.out.2 (by rw [hze])
       rw [hze] at this
       exact this
     have KS := hide (con.sync q cur F' wr hc.disk hc.ok (by have := hc.few; omega))
     have HCl := hide hc
     clear hze hc
     go_wp2_with fail
     refine KS.out.mono ?_
     rintro e w4 ⟨rfl,F2,hd4,hl4⟩
     have HD4 := hide hd4
     have HL4 := hide hl4
     clear hd4 hl4
     go_wp2
     go_ret
     exact ⟨by rw [HM.out]; rfl,F2,by rw [HM.out]; exact HD4.out,HCl.out.loc.trans HL4.out⟩
structure RClr (w : World) (p o N : Nat) (st : St) (F : Nat -> Prop) (k : Nat) (cur : St) (F' : Nat -> Prop) (u : World) : Prop where
 rest : zeros N o st = zeros (N - k) (o + k) cur
 disk : RD u p cur F'
 loc : Loc F F' w u
 ok : cur.Ok
 few : cur.loose.length <= st.loose.length + k
set_option maxRecDepth 10000 in
set_option maxHeartbeats 2000000 in
theorem rClear (p o N : Nat) (st : St) (F : Nat -> Prop) (w : World) (hD : RD w p st F) (hok : st.Ok) (hl : st.loose.length + N <= 10000) (hN : o + N <= st.sure.length) (h1 : 1 <= N) :
   Calls Tryz.prog 64 #[.pointer (some ⟨p,0,none⟩),.int .i64 (o : Int),.int .i64 (N : Int)] w fun e w' => e = .returned (.int .i64 (((walClear st o N).1 : Nat) : Int)) /\ ∃ F',RD w' p (walClear st o N).2 F' /\ Loc F F' w w' := by
 have hfew := hok.few
 have hmay : decide (st.may (o : Int) (N : Int)) = true := decide_eq_true (by unfold St.may; omega)
 have KM := hide (rd_may p st F (o : Int) (N : Int) w hD hfew)
 rw [hmay] at KM
 have HS : Hid (RClr w p o N st F 0 st F w) := ⟨rfl,hD,Loc.refl _ _,hok,Nat.le_refl _⟩
 have HC := hide (clear_of (st := st) (o := o) (N := N))
 have ho4 : o <= 4096 := by omega
 have hN4 : N <= 4096 := by omega
 have hzm := zmake
 have hzt := ztext
 generalize zcells = Z at *
 clear hD hok hN hmay
 generalize walClear st o N = M at *
 go_enter Tryz.func64,Tryz.ntmps64
 go_wp2_with fail
 refine KM.out.mono ?_
 rintro e w1 ⟨rfl,hw1⟩
 obtain rfl := hw1.symm
 clear hw1
 go_wp2_with fail
 go_loopw [7,8] (fun c _ wr => ∃ k : Nat,k <= N /\ c = .int .i64 (k : Int) /\ ∃ cur F',RClr w p o N st F k cur F' wr) (fun c _ _ => N - (intOf c).toNat)
 case atStart => exact ⟨0,Nat.zero_le _,rfl,st,F,HS.out⟩
 case round =>
   obtain ⟨k,hk,rfl,cur,F',hc⟩ := hrel
   by_cases hlt : k < N
   · have hz : (k : Int) < (N : Int) := by omega
     have hw : wrap64 ((o : Int) + (k : Int)) = ((o + k : Nat) : Int) := by unfold wrap64; omega
     have hw2 : IntKind.i64.wrap ((k : Int) + 1) = (k : Int) + 1 := by rw [IntKind.wrap_i64]; omega
     have hze : zeros N o st = if (cur.write ((o + k : Nat) : Int) zblock).1 = 0 then zeros (N - (k + 1)) (o + (k + 1)) (cur.write ((o + k : Nat) : Int) zblock).2 else cur.write ((o + k : Nat) : Int) zblock := by
       rw [hc.rest,show N - k = N - (k + 1) + 1 from by omega,zeros_succ,Nat.add_assoc]
     have HZE := hide hze
     have hb3 : Below wr.heap.size wr (wr.alloc (.cells Z 5)) := (Below.refl _ _).alloc (Nat.le_refl _) _
     have KW := hide (rd_write p cur F' ((o + k : Nat) : Int) zblock (wr.alloc (.cells Z 5)) (hc.disk.below hb3) hc.ok (by have := hc.few; omega))
     have HB3 := hide hb3
     have HCl := hide hc
     have HOK := hide (hc.ok.write ((o + k : Nat) : Int) zblock)
     have HFW := hide (write_loose cur ((o + k : Nat) : Int) zblock)
     clear hze hc hb3
     generalize zblock = zb at *
     by_cases he : (cur.write ((o + k : Nat) : Int) zb).1 = 0
     · rw [he] at KW
       have HZ2 : Hid (zeros N o st = zeros (N - (k + 1)) (o + (k + 1)) (cur.write ((o + k : Nat) : Int) zb).2) := by
         have := HZE.out
         rw [if_pos he] at this
         exact this
       clear he
       generalize (cur.write ((o + k : Nat) : Int) zb).2 = nx at *
       go_wp2_with fail
       refine KW.out.mono ?_
       rintro e w4 ⟨rfl,F2,hd4,hl4⟩
       have HD4 := hide hd4
       have HL4 := hide hl4
       clear hd4 hl4
       go_wp2
       go_roundw
       case rel => exact ⟨k + 1,hlt,by go_num,nx,F2,⟨HZ2.out,HD4.out,HCl.out.loc.trans ((Loc.of_below _ HB3.out).trans HL4.out),HOK.out,by have := HFW.out; have := HCl.out.few; omega⟩⟩
       case measure => simp [intOf]; omega
     · have hez : ¬ ((((cur.write ((o + k : Nat) : Int) zb).1 : Nat) : Int) = 0) := by omega
       have HZ2 : Hid (M = cur.write ((o + k : Nat) : Int) zb) := by
         have := HZE.out
         rw [if_neg he] at this
         have h2 := HC.out.1 (by rw [this]; exact he)
         rw [this] at h2
         exact h2
       clear he
       generalize cur.write ((o + k : Nat) : Int) zb = nx at *
       go_wp2_with fail
       refine KW.out.mono ?_
       rintro e w4 ⟨rfl,F2,hd4,hl4⟩
       have HD4 := hide hd4
       have HL4 := hide hl4
       clear hd4 hl4
       go_wp2
       go_ret
       exact ⟨by rw [HZ2.out]; rfl,F2,by rw [HZ2.out]; exact HD4.out,HCl.out.loc.trans ((Loc.of_below _ HB3.out).trans HL4.out)⟩
   · have hkN : k = N := by omega
     subst hkN
     have hze : zeros k o st = (0,cur) := by rw [hc.rest,Nat.sub_self]; rfl
     have HM : Hid (M = cur.sync) := by
       have := HC.out.2 (by rw [hze])
       rw [hze] at this
       exact this
     have KS := hide (rd_sync p cur F' wr hc.disk hc.ok (by have := hc.few; omega))
     have HCl := hide hc
     clear hze hc
     go_wp2_with fail
     refine KS.out.mono ?_
     rintro e w4 ⟨rfl,F2,hd4,hl4⟩
     have HD4 := hide hd4
     have HL4 := hide hl4
     clear hd4 hl4
     go_wp2
     go_ret
     exact ⟨by rw [HM.out]; rfl,F2,by rw [HM.out]; exact HD4.out,HCl.out.loc.trans HL4.out⟩
end Go.Proofs.YtchhojkhfdkhfaaGreatDoor
namespace Go.Proofs.YtchhojkhfdkhfaaGreatDoor
open Frm
structure Form (n c : Nat) (st : St) : Prop where
 ok : st.Ok
 len : st.sure.length = n
 few : st.loose.length <= c
theorem Form.more {n c c' : Nat} {st : St} (h : Form n c st) (hc : c <= c') : Form n c' st := ⟨h.ok,h.len,Nat.le_trans h.few hc⟩
theorem Form.write {n c : Nat} {st : St} (h : Form n c st) (b : Int) (d : ByteArray) : Form n (c + 1) (st.write b d).2 :=
 ⟨h.ok.write b d,by rw [write_sure]; exact h.len,by have := write_loose st b d; have := h.few; omega⟩
theorem Form.sync {n c : Nat} {st : St} (h : Form n c st) : Form n c st.sync.2 := by
 refine ⟨h.ok.sync,?_,?_⟩
 · unfold St.sync
   split
   · exact h.len
   · show (laid _ _).length = n
     rw [laid_length]; exact h.len
 · unfold St.sync
   split
   · exact h.few
   · exact Nat.zero_le _
theorem Form.fuse {n c : Nat} {st : St} (h : Form n c st) (k : Int) (hk : k <= 9223372036854775807) : Form n c (st.fuse k) := ⟨h.ok.fuse k hk,h.len,h.few⟩
theorem Form.crash {n c : Nat} {st : St} (h : Form n c st) (p : List Int) : Form n 0 (st.crash p) := ⟨h.ok.crash p,by show (crashed _ _ _ _).length = n; rw [crashed_length]; exact h.len,Nat.le_refl _⟩
theorem puts_sure (o : Nat) : ∀ (l : List (ByteArray × ByteArray)) (i : Nat) (st : St),(puts o l i st).2.sure = st.sure
 | [],_,_ => rfl
 | x :: l,i,st => by
   rw [puts_cons]
   split
   · exact puts_sure o l _ _
   · split
     · rw [puts_sure o l _ _,write_sure]
     · exact write_sure _ _ _
theorem Form.puts {n c : Nat} {st : St} (h : Form n c st) (o N : Nat) (a b : Nat -> ByteArray) : Form n (c + N) (puts o (prs N a b) 0 st).2 := by
 have h1 := lay_len o N a b st h.ok
 exact ⟨h1.1,by rw [puts_sure]; exact h.len,by have := h.few; omega⟩
theorem Form.made {n c : Nat} {st : St} (h : Form n c st) (o N : Nat) (a b : Nat -> ByteArray) : Form n (c + N) (made o (prs N a b) st).2 := by
 unfold Go.Proofs.YtchhojkhfdkhfaaGreatDoor.made
 split
 · exact h.puts o N a b
 · split
   · exact h.puts o N a b
   · exact (h.puts o N a b).sync
theorem Form.open {n c : Nat} {st : St} (h : Form n c st) (o N : Nat) : Form n (c + N + N) (walOpen st o N).2 := by
 unfold walOpen
 split
 · exact h.more (by omega)
 · split
   · exact h.more (by omega)
   · split
     · exact (h.made o N _ _).more (by omega)
     · split
       · exact (h.made o N _ _).made o N _ _
       · exact (h.made o N _ _).made o N _ _
theorem Form.append {n c : Nat} {st : St} (h : Form n c st) (o N : Nat) (s t : ByteArray) : Form n (c + N) (walAppend st o N s t).2.2 := by
 unfold walAppend
 split
 · exact h.more (by omega)
 · split
   · exact h.more (by omega)
   · split
     · exact h.puts o N _ _
     · exact h.puts o N _ _
theorem Form.zeros {n : Nat} : ∀ (N c o : Nat) (st : St),Form n c st -> Form n (c + N) (zeros N o st).2
 | 0,_,_,_,h => h
 | N + 1,c,o,st,h => by
   rw [zeros_succ]
   split
   · exact (Form.zeros N (c + 1) (o + 1) _ (h.write _ _)).more (by omega)
   · exact (h.write _ _).more (by omega)
theorem Form.clear {n c : Nat} {st : St} (h : Form n c st) (o N : Nat) : Form n (c + N) (walClear st o N).2 := by
 unfold walClear
 split
 · exact Form.zeros N c o st h
 · exact (Form.zeros N c o st h).sync
theorem Form.new {n : Nat} (h1 : 1 <= n) (h2 : n <= 4096) : Form n 0 (St.new n) := ⟨St.Ok.new h1 h2,by unfold St.new; simp,Nat.le_refl _⟩
theorem kept_size (l : List ByteArray) (h : ∀ b ∈ l,b.size = 256) : (kept l).size <= l.length * 255 := by
 unfold kept
 rw [ByteArray.size_extract]
 have h1 := heads_size (upTo l) (fun b hb => h b (by rw [upTo_prefix] at hb; exact List.mem_of_mem_take hb))
 rw [heads_upTo] at h1
 have h2 := Nat.mul_le_mul_right 255 (upTo_le l)
 exact Nat.le_trans (Nat.le_trans (Nat.sub_le _ _) (Nat.min_le_right _ _)) (Nat.le_trans h1 h2)
theorem open_size {st : St} (hok : st.Ok) (o N : Nat) (hN : o + N <= st.sure.length) : (walOpen st o N).1.2.1.size <= N * 255 := by
 have h1 := kept_size (reads st o N) (fun b hb => by
   obtain ⟨i,hi,rfl⟩ := List.getElem_of_mem hb
   rw [reads_at]
   exact at_size hok _ (by rw [reads_length] at hi; omega))
 rw [reads_length] at h1
 unfold walOpen
 split
 · exact Nat.zero_le _
 · split
   · exact Nat.zero_le _
   · split
     · exact Nat.zero_le _
     · split
       · exact Nat.zero_le _
       · exact h1
end Go.Proofs.YtchhojkhfdkhfaaGreatDoor
namespace Go.Proofs.YtchhojkhfdkhfaaGreatDoor
open Go Go.RowKit Frm Go.Shelf
theorem OB_nil (k : Nat) : ¬ OB (.slice none 0 0) k := fun h => by cases h
theorem loc_nil {v : Value} {u w : World} (h : Loc (OB (.slice none 0 0)) (OB v) u w) : Below u.heap.size u w := ⟨h.os,h.tape,h.output,h.size,fun k hk => h.block k hk (OB_nil k)⟩
set_option maxRecDepth 10000 in
set_option maxHeartbeats 1000000 in
theorem readOn_down (q o N : Nat) (st : St) (F : Nat -> Prop) (w : World) (hD : DAt w q st F) (hok : st.Ok) (hl : st.loose.length <= 10000) (hN : o + N <= st.sure.length) (h1 : 1 <= N) (h0 : st.left = 0) :
   Calls Tryz.prog 117 #[.agg #[.pointer (some ⟨q,0,none⟩),.int .i64 (o : Int),.int .i64 (N : Int)],.slice none 0 0,.func (.func 118) #[] #[]] w fun e w' => e = .returned (.tuple #[.slice none 0 0,.int .i64 50]) /\ Below w.heap.size w w' := by
 have hfew := hok.few
 have hb : Below w.heap.size w (w.alloc (.cells #[.pointer (some ⟨q,0,none⟩),.int .i64 (o : Int),.int .i64 (N : Int)] 163)) := (Below.refl _ _).alloc (Nat.le_refl _) _
 have KR : Hid (Calls Tryz.prog 112 #[.pointer (some ⟨q,0,none⟩),.int .i64 (o : Int)] (w.alloc (.cells #[.pointer (some ⟨q,0,none⟩),.int .i64 (o : Int),.int .i64 (N : Int)] 163)) fun e v => e = .returned (.tuple #[.string noText,.int .i64 50]) /\ Below (w.alloc (.cells #[.pointer (some ⟨q,0,none⟩),.int .i64 (o : Int),.int .i64 (N : Int)] 163)).heap.size (w.alloc (.cells #[.pointer (some ⟨q,0,none⟩),.int .i64 (o : Int),.int .i64 (N : Int)] 163)) v) := by
   have := con.read q st F (o : Int) _ (con.below hD hb) hok hl (by omega)
   rw [read_down _ h0] at this
   exact this
 have hz : (0 : Int) < (N : Int) := by omega
 have hw : wrap64 (o : Int) = (o : Int) := by unfold wrap64; omega
 have HB := hide hb
 generalize noText = nt at *
 clear hb hD hok hl h0 hN
 go_enter Tryz.func117,Tryz.ntmps117
 go_wp2_with fail
 go_loopw [1,8,9,10] (fun bv i _ _ wr => bv = .slice none 0 0 /\ i = .int .i64 0 /\ wr = w.alloc (.cells #[.pointer (some ⟨q,0,none⟩),.int .i64 (o : Int),.int .i64 (N : Int)] 163)) (fun _ _ _ _ _ => 0)
 case atStart => exact ⟨rfl,rfl,rfl⟩
 case round =>
   obtain ⟨rfl,rfl,rfl⟩ := hrel
   go_wp2_with fail
   refine KR.out.mono ?_
   rintro e w1 ⟨rfl,hb1⟩
   have HB1 := hide (HB.out.trans (hb1.mono (by simp)))
   clear hb1
   go_wp2
   go_ret2
   exact ⟨rfl,HB1.out⟩
structure Got (w : World) (q o N : Nat) (st : St) (F : Nat -> Prop) (W : World) (v vR : Value) : Prop where
 disk : DAt W q st F
 below : Below w.heap.size w W
 area : W.heap[w.heap.size]? = some (.cells #[.pointer (some ⟨q,0,none⟩),.int .i64 (o : Int),.int .i64 (N : Int)] 163 (0,0))
 blocks : OwnL W 0 v (reads st o N)
 newB : ∀ k,OB v k -> w.heap.size < k
 recs : OwnL W (w.heap.size + 1) vR (scn (streamOf (reads st o N))).1
theorem own_kept {w u : World} {b : Nat} {v : Value} {l : List ByteArray} (h : OwnL w b v l) (hb : ∀ k,OB v k -> u.heap[k]? = w.heap[k]?) : OwnL u b v l := own_same h (fun g hg => hb g hg)
theorem own_up {w : World} {b b' : Nat} {v : Value} {l : List ByteArray} (h : OwnL w b v l) (hb : ∀ k,OB v k -> b' <= k) : OwnL w b' v l := by
 refine ⟨h.1,?_⟩
 rcases h.2 with h0 | ⟨g,cap,cur,rfl,h1,hg,hr⟩
 · exact Or.inl h0
 · exact Or.inr ⟨g,cap,cur,rfl,hb g rfl,hg,hr⟩
theorem own_ge {w : World} {b : Nat} {v : Value} {l : List ByteArray} (h : OwnL w b v l) {k : Nat} (hk : OB v k) : b <= k := (World.ownsRow.lt h k hk).1
theorem Got.mk' {w W w2 w3 w4 w5 : World} {q o N : Nat} {st : St} {F : Nat -> Prop} {v v' vR : Value} (hD : DAt W q st F) (hF : ∀ k,F k -> k < w.heap.size) (hb : Below w.heap.size w W) (hsz : W.heap.size = w.heap.size + 1) (ha : W.heap[w.heap.size]? = some (.cells #[.pointer (some ⟨q,0,none⟩),.int .i64 (o : Int),.int .i64 (N : Int)] 163 (0,0)))
   (h2 : Loc (OB (.slice none 0 0)) (OB v) W w2) (hv : OwnL w2 0 v (upTo (reads st o N))) (h3 : Below w2.heap.size w2 w3) (h4 : Below w3.heap.size w3 w4) (hR : OwnL w4 w3.heap.size vR (scn (streamOf (reads st o N))).1)
   (h5 : Loc (OB v) (OB v') w4 w5) (hv' : OwnL w5 0 v' (reads st o N)) : Got w q o N st F w5 v' vR := by
 have b2 := loc_nil h2
 have b4 : Below W.heap.size W w4 := (b2.trans (h3.mono b2.size)).trans (h4.mono (Nat.le_trans b2.size h3.size))
 have hvn : ∀ k,OB v k -> W.heap.size <= k := fun k hk => by
   rcases h2.own k hk with h | h
   · exact absurd h (OB_nil k)
   · exact h
 have keep : ∀ k,k < W.heap.size -> w5.heap[k]? = W.heap[k]? := fun k hk => (h5.block k (Nat.lt_of_lt_of_le hk b4.size) (fun ho => by have := hvn k ho; omega)).trans (b4.block k hk)
 refine ⟨con.same hD (fun k hk => keep k (by have := hF k hk; omega)),⟨h5.os.trans (b4.os.trans hb.os),h5.tape.trans (b4.tape.trans hb.tape),h5.output.trans (b4.output.trans hb.output),by have := h5.size; have := b4.size; have := hb.size; omega,fun k hk => (keep k (by omega)).trans (hb.block k hk)⟩,(keep _ (by omega)).trans ha,hv',fun k hk => ?_,?_⟩
 · rcases h5.own k hk with h | h
   · have := hvn k h; omega
   · have := b4.size; omega
 · have hsz3 : w.heap.size + 1 <= w3.heap.size := by have := b2.size; have := h3.size; omega
   refine own_kept (own_up hR (fun k hk => Nat.le_trans hsz3 (own_ge hR hk))) (fun k hk => h5.block k (World.ownsRow.lt hR k hk).2 (fun ho => ?_))
   have e1 := own_ge hR hk
   have e2 : k < w2.heap.size := own_lt0 hv ho
   have := h3.size
   omega
end Go.Proofs.YtchhojkhfdkhfaaGreatDoor
namespace Go.Proofs.YtchhojkhfdkhfaaGreatDoor
open Go Go.RowKit Frm
def bare (n : Nat) (S : ByteArray) : St := ⟨(List.range n).map (blkOf S),[], -1⟩
theorem bare_at (n : Nat) (S : ByteArray) (k : Nat) (hk : k < n) : (bare n S).sure.getD k noText = blkOf S k := by
 show ((List.range n).map (blkOf S)).getD k noText = _
 rw [List.getD_eq_getElem?_getD,List.getElem?_eq_getElem (by simp; exact hk)]
 simp
theorem bare_reads (n : Nat) (S : ByteArray) : reads (bare n S) 0 n = (List.range n).map (blkOf S) := by
 unfold reads
 apply List.map_congr_left
 intro i hi
 rw [at_bare _ rfl,Nat.zero_add,bare_at n S i (List.mem_range.1 hi)]
set_option maxRecDepth 4000 in
theorem stream_blocks (n : Nat) (S : ByteArray) (h : S.size <= n * 255) : streamOf ((List.range n).map (blkOf S)) = S := by
 obtain ⟨ms,_,h2,h3,h4,h5,_⟩ := stream_good S S.size ((List.range n).map (blkOf S)) 0 (fun i hi => ⟨S.size,Nat.le_refl _,Nat.le_refl _,by
   have := Good.pre S (0 + i) S.size (Nat.le_refl _)
   rw [pre_all] at this
   simpa using this⟩) (by omega)
 have hl : ((List.range n).map (blkOf S)).length = n := by simp
 have : ms = S.size := by
   rw [hl] at h5 h3
   rcases h5 with h | h
   · omega
   · omega
 rw [h4,this,Nat.zero_mul,pre_all]
theorem scn_cat (all : List ByteArray) (hs : ∀ t ∈ all,t.size <= 65536) : scn (cat all) = (all,(cat all).size,0) := by
 have he : ends all all.length = (cat all).size := by unfold ends; rw [List.take_length]
 have := scn_cut all (cat all).size all.length hs (Nat.le_refl _) (by rw [he]; exact Nat.le_refl _) (Nat.le_refl _) (fun h => absurd h (Nat.lt_irrefl _))
 rw [pre_all,List.take_length,he,if_pos rfl] at this
 exact this
theorem recount_self (S : ByteArray) (k : Nat) : recount (blkOf S k) S k = blkOf S k := by
 unfold recount
 have hb := blkOf_size S k
 rw [part_join (blkOf S k) 0 255 256 (by omega) (by omega) (by omega)]
 conv => lhs; rw [<- hb]
 exact pre_all _
theorem made_same (o n : Nat) (a : Nat -> ByteArray) (st : St) : made o (prs n a a) st = (0,st) := by
 have h : ∀ x ∈ prs n a a,x.1 = x.2 := prs_same (fun _ _ => rfl)
 have hw : ∀ (l : List (ByteArray × ByteArray)) (i : Nat),(∀ x ∈ l,x.1 = x.2) -> wl o l i = [] := by
   intro l
   induction l with
   | nil => intro _ _; rfl
   | cons x l ih =>
     intro i hx
     have e : wl o (x :: l) i = if x.1 = x.2 then wl o l (i + 1) else (o + i,x.2) :: wl o l (i + 1) := rfl
     rw [e,if_pos (hx x (by simp)),ih (i + 1) (fun y hy => hx y (List.mem_cons_of_mem _ hy))]
 unfold made
 rw [puts_equal o _ 0 st h,if_neg (by simp),if_pos (hw _ 0 h)]
theorem mended_eq (o n : Nat) (a : Nat -> ByteArray) (s : ByteArray) (st : St) : mended o n a s st = if (made o (prs n a (fun i => recount (a i) s i)) st).1 ≠ 0 then made o (prs n a (fun i => recount (a i) s i)) st else made o (prs n (fun i => recount (a i) s i) (blkOf s)) (made o (prs n a (fun i => recount (a i) s i)) st).2 := rfl
theorem walOpen_eq (st : St) (o n : Nat) : walOpen st o n = if st.left = 0 then ((50,noText,[]),st) else if (scn (streamOf (reads st o n))).2.2 = 41 \/ (scn (streamOf (reads st o n))).2.2 = 4 then ((60,noText,[]),st)
   else if (mended o n (fun i => st.at (o + i)) (kept (reads st o n)) st).1 ≠ 0 then (((mended o n (fun i => st.at (o + i)) (kept (reads st o n)) st).1,noText,[]),(mended o n (fun i => st.at (o + i)) (kept (reads st o n)) st).2)
   else ((0,kept (reads st o n),(scn (streamOf (reads st o n))).1),(mended o n (fun i => st.at (o + i)) (kept (reads st o n)) st).2) := by
 unfold walOpen
 rw [mended_eq]
 split
 · rfl
 · split
   · rfl
   · by_cases h1 : (made o (prs n (fun i => st.at (o + i)) (fun i => recount (st.at (o + i)) (kept (reads st o n)) i)) st).1 ≠ 0
     · rw [if_pos h1,if_pos h1,if_pos h1]
     · rw [if_neg h1,if_neg h1]
theorem open_bare (n : Nat) (all : List ByteArray) (hs : ∀ t ∈ all,t.size <= 65536) (hf : (cat all).size <= n * 255) : walOpen (bare n (cat all)) 0 n = ((0,cat all,all),bare n (cat all)) := by
 have hr := bare_reads n (cat all)
 have hst : streamOf (reads (bare n (cat all)) 0 n) = cat all := by rw [hr]; exact stream_blocks n _ hf
 have hk : kept (reads (bare n (cat all)) 0 n) = cat all := by
   unfold kept
   rw [hst,scn_cat all hs]
   exact pre_all _
 have hm : mended 0 n (fun i => (bare n (cat all)).at (0 + i)) (cat all) (bare n (cat all)) = (0,bare n (cat all)) := by
   have e : prs n (fun i => (bare n (cat all)).at (0 + i)) (fun i => recount ((bare n (cat all)).at (0 + i)) (cat all) i) = prs n (blkOf (cat all)) (blkOf (cat all)) := prs_congr (fun i hi => by rw [at_bare _ rfl,Nat.zero_add,bare_at n _ i hi]) (fun i hi => by rw [at_bare _ rfl,Nat.zero_add,bare_at n _ i hi,recount_self])
   have e2 : prs n (fun i => recount ((bare n (cat all)).at (0 + i)) (cat all) i) (blkOf (cat all)) = prs n (blkOf (cat all)) (blkOf (cat all)) := prs_congr (fun i hi => by rw [at_bare _ rfl,Nat.zero_add,bare_at n _ i hi,recount_self]) (fun _ _ => rfl)
   rw [mended_eq,e,made_same,if_neg (by simp),e2,made_same]
 rw [walOpen_eq,if_neg (by show ¬ ((-1 : Int) = 0); decide),hst,scn_cat all hs,if_neg (by simp),hk,hm,if_neg (by simp)]
theorem crashed_nothing : ∀ (l : List (Nat × ByteArray)) (i : Nat) (s : List ByteArray),(∀ w ∈ l,w.1 < s.length /\ w.2.size = 256) -> crashed s [] i l = s
 | [],_,_,_ => rfl
 | w :: l,i,s,h => by
   have hw := h w (by simp)
   have ht : torn (s.getD w.1 noText) w.2 (([] : List Int).getD i 0) = s.getD w.1 noText := by
     show torn _ _ 0 = _
     unfold torn
     have e : (max (min (0 : Int) 256) 0).toNat = 0 := by decide
     rw [e,pre_all]
     apply ByteArray.ext
     rw [ByteArray.data_append,ByteArray.data_extract]
     simp
   have e : s.set w.1 (s.getD w.1 noText) = s := by
     rw [List.getD_eq_getElem?_getD,List.getElem?_eq_getElem hw.1,Option.getD_some]
     exact List.set_getElem_self hw.1
   have eu : crashed s [] i (w :: l) = crashed (s.set w.1 (torn (s.getD w.1 noText) w.2 (([] : List Int).getD i 0))) [] (i + 1) l := rfl
   rw [eu,ht,e]
   exact crashed_nothing l (i + 1) s (fun x hx => h x (List.mem_cons_of_mem _ hx))
end Go.Proofs.YtchhojkhfdkhfaaGreatDoor
namespace Go.Proofs.YtchhojkhfdkhfaaGreatDoor
open Go Go.RowKit Frm Go.Shelf
def NoLog (q : Nat) (st : St) (F : Nat -> Prop) (w : World) (x : Int) (e : Ending) (w' : World) : Prop := e = .returned (.tuple #[.pointer none,.slice none 0 0,.int .i64 x]) /\ ∃ F',DAt w' q st F' /\ Loc F F' w w'
set_option maxRecDepth 10000 in
set_option maxHeartbeats 1000000 in
theorem open_down (q o N : Nat) (st : St) (F : Nat -> Prop) (w : World) (hD : DAt w q st F) (hok : st.Ok) (hl : st.loose.length + N + N <= 10000) (hN : o + N <= st.sure.length) (h1 : 1 <= N) (hN2 : N <= 200) (h0 : st.left = 0) : Calls Tryz.prog 85 #[.pointer (some ⟨q,0,none⟩),.int .i64 (o : Int),.int .i64 (N : Int)] w (NoLog q st F w 50) := by
 have hfew := hok.few
 have hF := con.lt hD
 obtain ⟨W,hW⟩ : ∃ W,w.alloc (.cells #[.pointer (some ⟨q,0,none⟩),.int .i64 (o : Int),.int .i64 (N : Int)] 163) = W := ⟨_,rfl⟩
 have hbW : Below w.heap.size w W := by rw [<- hW]; exact (Below.refl _ _).alloc (Nat.le_refl _) _
 have hszW : W.heap.size = w.heap.size + 1 := by rw [<- hW]; simp
 have harea : W.heap[w.heap.size]? = some (.cells #[.pointer (some ⟨q,0,none⟩),.int .i64 (o : Int),.int .i64 (N : Int)] 163 (0,0)) := by rw [<- hW]; exact World.alloc_heap_new w _
 have hc0 : W.cell? ⟨w.heap.size,0,none⟩ = some (.pointer (some ⟨q,0,none⟩)) := by simp [World.cell?,harea]
 have hc1 : W.cell? ⟨w.heap.size,1,none⟩ = some (.int .i64 (o : Int)) := by simp [World.cell?,harea]
 have hc2 : W.cell? ⟨w.heap.size,2,none⟩ = some (.int .i64 (N : Int)) := by simp [World.cell?,harea]
 have hmay : st.may (o : Int) (N : Int) := by unfold St.may; omega
 have KF : Hid (Calls Tryz.prog 105 #[.agg #[.pointer (some ⟨q,0,none⟩),.int .i64 (o : Int),.int .i64 (N : Int)]] W fun e w' => e = .returned (.int .i64 0) /\ Below W.heap.size W w') := by
   have := fault_any q (o : Int) (N : Int) st F W (con.below hD hbW) hok (by omega)
   rw [if_pos hmay] at this
   exact this
 have HCL : Hid (∀ u,Below W.heap.size W u -> u.cell? ⟨w.heap.size,0,none⟩ = some (.pointer (some ⟨q,0,none⟩)) /\ u.cell? ⟨w.heap.size,1,none⟩ = some (.int .i64 (o : Int)) /\ u.cell? ⟨w.heap.size,2,none⟩ = some (.int .i64 (N : Int)) /\ DAt u q st F) := fun u hu => ⟨cellB hu hc0,cellB hu hc1,cellB hu hc2,con.below (con.below hD hbW) hu⟩
 have HBW := hide hbW
 have KR : Hid (∀ u,DAt u q st F -> Calls Tryz.prog 117 #[.agg #[.pointer (some ⟨q,0,none⟩),.int .i64 (o : Int),.int .i64 (N : Int)],.slice none 0 0,.func (.func 118) #[] #[]] u fun e w' => e = .returned (.tuple #[.slice none 0 0,.int .i64 50]) /\ Below u.heap.size u w') := fun u hu => readOn_down q o N st F u hu hok (by omega) hN h1 h0
 have HD := hide hD
 clear hD hok hl hN h0 hbW harea hmay hF
 go_enter Tryz.func85,Tryz.ntmps85
 go_wp2_with fail
 refine KF.out.mono ?_
 rintro e w1 ⟨rfl,hb1⟩
 obtain ⟨q0,q1,q2,hd1⟩ := HCL.out w1 hb1
 have K2 := hide (KR.out w1 hd1)
 have HB1 := hide (HBW.out.trans (hb1.mono (by omega)))
 clear hb1 hd1
 go_wp2_with fail
 refine K2.out.mono ?_
 rintro e w2 ⟨rfl,hb2⟩
 have HB2 := hide (bnext HB1.out (hb2.mono (Nat.le_refl _)))
 clear hb2
 go_wp2
 go_ret3
 exact ⟨rfl,F,con.below HD.out HB2.out,Loc.of_below F HB2.out⟩
theorem till4 {w W w1 w2 w3 w4 : World} {v : Value} (hb : Below w.heap.size w W) (h1 : Below W.heap.size W w1) (h2 : Loc (OB (.slice none 0 0)) (OB v) w1 w2) (h3 : Below w2.heap.size w2 w3) (h4 : Below w3.heap.size w3 w4) : Below w.heap.size w w4 :=
 bnext (bnext (bnext (bnext hb h1) (loc_nil h2)) h3) h4
theorem till4b {W w1 w2 w3 w4 : World} {v : Value} (h1 : Below W.heap.size W w1) (h2 : Loc (OB (.slice none 0 0)) (OB v) w1 w2) (h3 : Below w2.heap.size w2 w3) (h4 : Below w3.heap.size w3 w4) : Below W.heap.size W w4 /\ ∀ k,OB v k -> W.heap.size <= k :=
 ⟨bnext (bnext (bnext h1 (loc_nil h2)) h3) h4,fun k hk => by
   rcases h2.own k hk with h | h
   · exact absurd h (OB_nil k)
   · exact Nat.le_trans h1.size h⟩
theorem Got.c0 {w : World} {q o N : Nat} {st : St} {F : Nat -> Prop} {W : World} {v vR : Value} (h : Got w q o N st F W v vR) : W.cell? ⟨w.heap.size,0,none⟩ = some (.pointer (some ⟨q,0,none⟩)) := by simp [World.cell?,h.area]
theorem Got.c1 {w : World} {q o N : Nat} {st : St} {F : Nat -> Prop} {W : World} {v vR : Value} (h : Got w q o N st F W v vR) : W.cell? ⟨w.heap.size,1,none⟩ = some (.int .i64 (o : Int)) := by simp [World.cell?,h.area]
theorem Got.c2 {w : World} {q o N : Nat} {st : St} {F : Nat -> Prop} {W : World} {v vR : Value} (h : Got w q o N st F W v vR) : W.cell? ⟨w.heap.size,2,none⟩ = some (.int .i64 (N : Int)) := by simp [World.cell?,h.area]
theorem Got.lt {w : World} {q o N : Nat} {st : St} {F : Nat -> Prop} {W : World} {v vR : Value} (h : Got w q o N st F W v vR) : w.heap.size < W.heap.size := (Array.getElem?_eq_some_iff.1 h.area).1
theorem Got.area6 {w : World} {q o N : Nat} {st : St} {F F' : Nat -> Prop} {W u : World} {v vR : Value} (h : Got w q o N st F W v vR) (hF : ∀ k,F k -> k < w.heap.size) (hl : Loc F F' W u) : u.cell? ⟨w.heap.size,0,none⟩ = some (.pointer (some ⟨q,0,none⟩)) /\ u.cell? ⟨w.heap.size,1,none⟩ = some (.int .i64 (o : Int)) /\ u.cell? ⟨w.heap.size,2,none⟩ = some (.int .i64 (N : Int)) := by
 have e : u.heap[w.heap.size]? = _ := (hl.block _ h.lt (fun hf => by have := hF _ hf; omega)).trans h.area
 exact ⟨by simp [World.cell?,e],by simp [World.cell?,e],by simp [World.cell?,e]⟩
theorem bgrow {w u : World} (h : Below w.heap.size w u) (ob : Obj) : Below w.heap.size w (u.alloc ob) := h.alloc h.size ob
def HasLog (q o N : Nat) (s : ByteArray) (recs : List ByteArray) (st : St) (F : Nat -> Prop) (w : World) (e : Ending) (w' : World) : Prop :=
 ∃ p vR F',e = .returned (.tuple #[.pointer (some ⟨p,0,none⟩),vR,.int .i64 0]) /\ LAt w' p q o N s false /\ w.heap.size <= p /\ OwnL w' w.heap.size vR recs /\ DAt w' q st F' /\ Loc F F' w w' /\ ¬ F' p /\ (∀ k,F' k -> ¬ OB vR k) /\ ¬ OB vR p
theorem open_end {w w5 w6 w7 : World} {q o N gd : Nat} {st stm : St} {F F6 : Nat -> Prop} {v vR : Value} {kp : ByteArray} (hg : Got w q o N st F w5 v vR) (hF : ∀ k,F k -> k < w.heap.size) (hl6 : Loc F F6 w5 w6) (hd6 : DAt w6 q stm F6) (hb7 : Below w6.drew.heap.size w6.drew w7) (hs : kp.size = gd) :
   HasLog q o N kp (scn (streamOf (reads st o N))).1 stm F w (.returned (.tuple #[.pointer (some ⟨w7.heap.size,0,none⟩),vR,.int .i64 0])) (w7.alloc (.cells #[.pointer (some ⟨q,0,none⟩),.int .i64 (o : Int),.int .i64 (N : Int),.int .i64 (gd : Int),.string (tailOf kp),.bool false] 187)) := by
 subst hs
 have b7 : Below w6.heap.size w6 w7 := ⟨hb7.os,hb7.tape,hb7.output,hb7.size,hb7.block⟩
 have hsz : w.heap.size < w7.heap.size := by have := hg.lt; have := hl6.size; have := b7.size; omega
 have b8 : Below w6.heap.size w6 (w7.alloc (.cells #[.pointer (some ⟨q,0,none⟩),.int .i64 (o : Int),.int .i64 (N : Int),.int .i64 (kp.size : Int),.string (tailOf kp),.bool false] 187)) := b7.alloc b7.size _
 have h7 := b7.size
 refine ⟨w7.heap.size,vR,F6,rfl,World.alloc_heap_new w7 _,by omega,?_,con.below hd6 b8,?_,fun hf => by have := con.lt hd6 _ hf; omega,fun k hf ho => ?_,fun ho => ?_⟩
 · refine own_kept (own_up hg.recs (fun k hk => by have := own_ge hg.recs hk; omega)) (fun k hk => ?_)
   have e1 := own_ge hg.recs hk
   have e2 := (World.ownsRow.lt hg.recs k hk).2
   rw [b8.block k (by have := hl6.size; omega),hl6.block k e2 (fun hf => by have := hF k hf; omega)]
 · exact (Loc.of_below F hg.below).trans (hl6.trans (Loc.of_below F6 b8))
 · have e1 := own_ge hg.recs ho
   have e2 := (World.ownsRow.lt hg.recs k ho).2
   rcases hl6.own k hf with h | h
   · have := hF k h; omega
   · omega
 · have e2 := (World.ownsRow.lt hg.recs _ ho).2
   have := hl6.size
   omega
set_option maxRecDepth 10000 in
set_option maxHeartbeats 1000000 in
theorem open_bad41 (q o N : Nat) (st : St) (F : Nat -> Prop) (w : World) (hD : DAt w q st F) (hok : st.Ok) (hl : st.loose.length + N + N <= 10000) (hN : o + N <= st.sure.length) (h1 : 1 <= N) (hN2 : N <= 200) (h0 : st.left ≠ 0) (hx : (scn (streamOf (reads st o N))).2.2 = 41) : Calls Tryz.prog 85 #[.pointer (some ⟨q,0,none⟩),.int .i64 (o : Int),.int .i64 (N : Int)] w (NoLog q st F w 60) := by
 have hfew := hok.few
 have hF := con.lt hD
 obtain ⟨W,hW⟩ : ∃ W,w.alloc (.cells #[.pointer (some ⟨q,0,none⟩),.int .i64 (o : Int),.int .i64 (N : Int)] 163) = W := ⟨_,rfl⟩
 have hbW : Below w.heap.size w W := by rw [<- hW]; exact (Below.refl _ _).alloc (Nat.le_refl _) _
 have hszW : W.heap.size = w.heap.size + 1 := by rw [<- hW]; simp
 have harea : W.heap[w.heap.size]? = some (.cells #[.pointer (some ⟨q,0,none⟩),.int .i64 (o : Int),.int .i64 (N : Int)] 163 (0,0)) := by rw [<- hW]; exact World.alloc_heap_new w _
 have hc0 : W.cell? ⟨w.heap.size,0,none⟩ = some (.pointer (some ⟨q,0,none⟩)) := by simp [World.cell?,harea]
 have hc1 : W.cell? ⟨w.heap.size,1,none⟩ = some (.int .i64 (o : Int)) := by simp [World.cell?,harea]
 have hc2 : W.cell? ⟨w.heap.size,2,none⟩ = some (.int .i64 (N : Int)) := by simp [World.cell?,harea]
 have hmay : st.may (o : Int) (N : Int) := by unfold St.may; omega
 have KF : Hid (Calls Tryz.prog 105 #[.agg #[.pointer (some ⟨q,0,none⟩),.int .i64 (o : Int),.int .i64 (N : Int)]] W fun e w' => e = .returned (.int .i64 0) /\ Below W.heap.size W w') := by
   have := fault_any q (o : Int) (N : Int) st F W (con.below hD hbW) hok (by omega)
   rw [if_pos hmay] at this
   exact this
 have HCL : Hid (∀ u,Below W.heap.size W u -> u.cell? ⟨w.heap.size,0,none⟩ = some (.pointer (some ⟨q,0,none⟩)) /\ u.cell? ⟨w.heap.size,1,none⟩ = some (.int .i64 (o : Int)) /\ u.cell? ⟨w.heap.size,2,none⟩ = some (.int .i64 (N : Int)) /\ DAt u q st F) := fun u hu => ⟨cellB hu hc0,cellB hu hc1,cellB hu hc2,con.below (con.below hD hbW) hu⟩
 have HBW := hide hbW
 have hRd : ∀ b ∈ reads st o N,b.size = 256 := fun b hb => by
   obtain ⟨i,hi,rfl⟩ := List.getElem_of_mem hb
   rw [reads_at]
   rw [reads_length] at hi
   exact at_size hok _ (by omega)
 have hUp : ∀ b ∈ upTo (reads st o N),b.size = 256 := fun b hb => by
   rw [upTo_prefix] at hb
   exact hRd b (List.mem_of_mem_take hb)
 have hUl : (upTo (reads st o N)).length <= N := by have := upTo_le (reads st o N); rw [reads_length] at this; exact this
 have hSs : (streamOf (reads st o N)).size <= 65536 := by
   have := heads_size (upTo (reads st o N)) hUp
   rw [heads_upTo] at this
   have : (upTo (reads st o N)).length * 255 <= 200 * 255 := by omega
   omega
 have K1 : Hid (∀ u,DAt u q st F -> Calls Tryz.prog 117 #[.agg #[.pointer (some ⟨q,0,none⟩),.int .i64 (o : Int),.int .i64 (N : Int)],.slice none 0 0,.func (.func 118) #[] #[]] u fun e w' => ∃ bv,e = .returned (.tuple #[bv,.int .i64 0]) /\ OwnL w' 0 bv (upTo (reads st o N)) /\ Loc (OB (.slice none 0 0)) (OB bv) u w') := fun u hu => readOn_ends q o N (.slice none 0 0) [] st F u hu hok (by omega) hN h0 (World.ownsRow_nil _ _ _ _) rfl (Nat.zero_le _) (fun k _ => OB_nil k) (fun j hj => absurd hj (by simp))
 have K2 : Hid (∀ a c u,StrsAt u a (upTo (reads st o N)) -> Calls Tryz.prog 119 #[.slice a (upTo (reads st o N)).length c] u fun e w' => e = .returned (.string (streamOf (reads st o N))) /\ Below u.heap.size u w') := fun a c u hu => by
   have := stream_any (upTo (reads st o N)) a c u hu hUp (by omega)
   rw [heads_upTo] at this
   exact this
 have K3 : Hid (∀ u,Calls Tryz.prog 120 #[.string (streamOf (reads st o N))] u fun e w' => ∃ a c,e = .returned (.tuple #[.slice a (scn (streamOf (reads st o N))).1.length c,.int .i64 (((scn (streamOf (reads st o N))).2.1 : Nat) : Int),.int .i64 (((scn (streamOf (reads st o N))).2.2 : Nat) : Int)]) /\ OwnL w' u.heap.size (.slice a (scn (streamOf (reads st o N))).1.length c) (scn (streamOf (reads st o N))).1 /\ Below u.heap.size u w') := fun u => scan_any (streamOf (reads st o N)) u hSs
 have HD := hide hD
 rw [hx] at K3
 clear hD hok hl hN h0 hbW harea hmay hRd hUp hUl hSs hF hx
 generalize upTo (reads st o N) = U at *
 generalize (scn (streamOf (reads st o N))).1 = R at *
 generalize (scn (streamOf (reads st o N))).2.1 = gd at *
 generalize streamOf (reads st o N) = S at *
 go_enter Tryz.func85,Tryz.ntmps85
 go_wp2_with fail
 refine KF.out.mono ?_
 rintro e w1 ⟨rfl,hb1⟩
 obtain ⟨q0,q1,q2,hd1⟩ := HCL.out w1 hb1
 have K1a := hide (K1.out w1 hd1)
 have HB1 := hide hb1
 clear hb1 hd1
 go_wp2_with fail
 refine K1a.out.mono ?_
 rintro e w2 ⟨bv,rfl,hv,hl2⟩
 obtain ⟨a2,c2,rfl,hs2⟩ := hv.strs
 have K2a := hide (K2.out a2 c2 w2 hs2)
 have HV := hide hv
 have HL2 := hide hl2
 clear hv hl2 hs2
 go_wp2_with fail
 refine K2a.out.mono ?_
 rintro e w3 ⟨rfl,hb3⟩
 have K3a := hide (K3.out w3)
 have HB3 := hide hb3
 clear hb3
 go_wp2_with fail
 refine K3a.out.mono ?_
 rintro e w4 ⟨a4,c4,rfl,hR4,hb4⟩
 have HR4 := hide hR4
 have HB4 := hide hb4
 clear hR4 hb4
 have HBE := hide (till4 HBW.out HB1.out HL2.out HB3.out HB4.out)
 go_wp2
 go_ret3
 exact ⟨rfl,F,con.below HD.out HBE.out,Loc.of_below F HBE.out⟩
set_option maxRecDepth 10000 in
set_option maxHeartbeats 1000000 in
theorem open_bad4 (q o N : Nat) (st : St) (F : Nat -> Prop) (w : World) (hD : DAt w q st F) (hok : st.Ok) (hl : st.loose.length + N + N <= 10000) (hN : o + N <= st.sure.length) (h1 : 1 <= N) (hN2 : N <= 200) (h0 : st.left ≠ 0) (hx : (scn (streamOf (reads st o N))).2.2 = 4) : Calls Tryz.prog 85 #[.pointer (some ⟨q,0,none⟩),.int .i64 (o : Int),.int .i64 (N : Int)] w (NoLog q st F w 60) := by
 have hfew := hok.few
 have hF := con.lt hD
 obtain ⟨W,hW⟩ : ∃ W,w.alloc (.cells #[.pointer (some ⟨q,0,none⟩),.int .i64 (o : Int),.int .i64 (N : Int)] 163) = W := ⟨_,rfl⟩
 have hbW : Below w.heap.size w W := by rw [<- hW]; exact (Below.refl _ _).alloc (Nat.le_refl _) _
 have hszW : W.heap.size = w.heap.size + 1 := by rw [<- hW]; simp
 have harea : W.heap[w.heap.size]? = some (.cells #[.pointer (some ⟨q,0,none⟩),.int .i64 (o : Int),.int .i64 (N : Int)] 163 (0,0)) := by rw [<- hW]; exact World.alloc_heap_new w _
 have hc0 : W.cell? ⟨w.heap.size,0,none⟩ = some (.pointer (some ⟨q,0,none⟩)) := by simp [World.cell?,harea]
 have hc1 : W.cell? ⟨w.heap.size,1,none⟩ = some (.int .i64 (o : Int)) := by simp [World.cell?,harea]
 have hc2 : W.cell? ⟨w.heap.size,2,none⟩ = some (.int .i64 (N : Int)) := by simp [World.cell?,harea]
 have hmay : st.may (o : Int) (N : Int) := by unfold St.may; omega
 have KF : Hid (Calls Tryz.prog 105 #[.agg #[.pointer (some ⟨q,0,none⟩),.int .i64 (o : Int),.int .i64 (N : Int)]] W fun e w' => e = .returned (.int .i64 0) /\ Below W.heap.size W w') := by
   have := fault_any q (o : Int) (N : Int) st F W (con.below hD hbW) hok (by omega)
   rw [if_pos hmay] at this
   exact this
 have HCL : Hid (∀ u,Below W.heap.size W u -> u.cell? ⟨w.heap.size,0,none⟩ = some (.pointer (some ⟨q,0,none⟩)) /\ u.cell? ⟨w.heap.size,1,none⟩ = some (.int .i64 (o : Int)) /\ u.cell? ⟨w.heap.size,2,none⟩ = some (.int .i64 (N : Int)) /\ DAt u q st F) := fun u hu => ⟨cellB hu hc0,cellB hu hc1,cellB hu hc2,con.below (con.below hD hbW) hu⟩
 have HBW := hide hbW
 have hRd : ∀ b ∈ reads st o N,b.size = 256 := fun b hb => by
   obtain ⟨i,hi,rfl⟩ := List.getElem_of_mem hb
   rw [reads_at]
   rw [reads_length] at hi
   exact at_size hok _ (by omega)
 have hUp : ∀ b ∈ upTo (reads st o N),b.size = 256 := fun b hb => by
   rw [upTo_prefix] at hb
   exact hRd b (List.mem_of_mem_take hb)
 have hUl : (upTo (reads st o N)).length <= N := by have := upTo_le (reads st o N); rw [reads_length] at this; exact this
 have hSs : (streamOf (reads st o N)).size <= 65536 := by
   have := heads_size (upTo (reads st o N)) hUp
   rw [heads_upTo] at this
   have : (upTo (reads st o N)).length * 255 <= 200 * 255 := by omega
   omega
 have K1 : Hid (∀ u,DAt u q st F -> Calls Tryz.prog 117 #[.agg #[.pointer (some ⟨q,0,none⟩),.int .i64 (o : Int),.int .i64 (N : Int)],.slice none 0 0,.func (.func 118) #[] #[]] u fun e w' => ∃ bv,e = .returned (.tuple #[bv,.int .i64 0]) /\ OwnL w' 0 bv (upTo (reads st o N)) /\ Loc (OB (.slice none 0 0)) (OB bv) u w') := fun u hu => readOn_ends q o N (.slice none 0 0) [] st F u hu hok (by omega) hN h0 (World.ownsRow_nil _ _ _ _) rfl (Nat.zero_le _) (fun k _ => OB_nil k) (fun j hj => absurd hj (by simp))
 have K2 : Hid (∀ a c u,StrsAt u a (upTo (reads st o N)) -> Calls Tryz.prog 119 #[.slice a (upTo (reads st o N)).length c] u fun e w' => e = .returned (.string (streamOf (reads st o N))) /\ Below u.heap.size u w') := fun a c u hu => by
   have := stream_any (upTo (reads st o N)) a c u hu hUp (by omega)
   rw [heads_upTo] at this
   exact this
 have K3 : Hid (∀ u,Calls Tryz.prog 120 #[.string (streamOf (reads st o N))] u fun e w' => ∃ a c,e = .returned (.tuple #[.slice a (scn (streamOf (reads st o N))).1.length c,.int .i64 (((scn (streamOf (reads st o N))).2.1 : Nat) : Int),.int .i64 (((scn (streamOf (reads st o N))).2.2 : Nat) : Int)]) /\ OwnL w' u.heap.size (.slice a (scn (streamOf (reads st o N))).1.length c) (scn (streamOf (reads st o N))).1 /\ Below u.heap.size u w') := fun u => scan_any (streamOf (reads st o N)) u hSs
 have HD := hide hD
 rw [hx] at K3
 clear hD hok hl hN h0 hbW harea hmay hRd hUp hUl hSs hF hx
 generalize upTo (reads st o N) = U at *
 generalize (scn (streamOf (reads st o N))).1 = R at *
 generalize (scn (streamOf (reads st o N))).2.1 = gd at *
 generalize streamOf (reads st o N) = S at *
 go_enter Tryz.func85,Tryz.ntmps85
 go_wp2_with fail
 refine KF.out.mono ?_
 rintro e w1 ⟨rfl,hb1⟩
 obtain ⟨q0,q1,q2,hd1⟩ := HCL.out w1 hb1
 have K1a := hide (K1.out w1 hd1)
 have HB1 := hide hb1
 clear hb1 hd1
 go_wp2_with fail
 refine K1a.out.mono ?_
 rintro e w2 ⟨bv,rfl,hv,hl2⟩
 obtain ⟨a2,c2,rfl,hs2⟩ := hv.strs
 have K2a := hide (K2.out a2 c2 w2 hs2)
 have HV := hide hv
 have HL2 := hide hl2
 clear hv hl2 hs2
 go_wp2_with fail
 refine K2a.out.mono ?_
 rintro e w3 ⟨rfl,hb3⟩
 have K3a := hide (K3.out w3)
 have HB3 := hide hb3
 clear hb3
 go_wp2_with fail
 refine K3a.out.mono ?_
 rintro e w4 ⟨a4,c4,rfl,hR4,hb4⟩
 have HR4 := hide hR4
 have HB4 := hide hb4
 clear hR4 hb4
 have HBE := hide (till4 HBW.out HB1.out HL2.out HB3.out HB4.out)
 go_wp2
 go_ret3
 exact ⟨rfl,F,con.below HD.out HBE.out,Loc.of_below F HBE.out⟩
end Go.Proofs.YtchhojkhfdkhfaaGreatDoor
