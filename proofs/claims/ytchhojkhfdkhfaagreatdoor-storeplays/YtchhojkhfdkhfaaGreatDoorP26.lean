/- Joined texts. -/
import Derived.Test.YtchhojkhfdkhfaaGreatDoorP25
import Derived.Test.YtchhojkhfdkhfaaGreatDoorP24
namespace Go.Proofs.YtchhojkhfdkhfaaGreatDoor
open Go Go.RowKit Frm
def RLAt (u : World) (p q o n : Nat) (s : ByteArray) (b : Bool) : Prop := u.heap[p]? = some (.cells #[.pointer (some ⟨q,0,none⟩),.int .i64 (o : Int),.int .i64 (n : Int),.string s,.bool b] 57 (0,0))
theorem RLAt.lt {u : World} {p q o n : Nat} {s : ByteArray} {b : Bool} (h : RLAt u p q o n s b) : p < u.heap.size := (Array.getElem?_eq_some_iff.1 h).1
theorem RLAt.same {u v : World} {p q o n : Nat} {s : ByteArray} {b : Bool} (h : RLAt u p q o n s b) (hv : v.heap[p]? = u.heap[p]?) : RLAt v p q o n s b := hv.trans h
def RNo (q : Nat) (st : St) (F : Nat -> Prop) (w : World) (x : Int) (e : Ending) (w' : World) : Prop := e = .returned (.tuple #[.pointer none,.slice none 0 0,.int .i64 x]) /\ ∃ F',RD w' q st F' /\ Loc F F' w w'
def RHas (q o N : Nat) (s : ByteArray) (recs : List ByteArray) (st : St) (F : Nat -> Prop) (w : World) (e : Ending) (w' : World) : Prop :=
 ∃ p a c F',e = .returned (.tuple #[.pointer (some ⟨p,0,none⟩),.slice a recs.length c,.int .i64 0]) /\ RLAt w' p q o N s false /\ w.heap.size <= p /\ StrsAt w' a recs /\ RD w' q st F' /\ Loc F F' w w' /\ ¬ F' p /\ ∀ b off,a = some ⟨b,off,none⟩ -> w.heap.size <= b
def ROpened (q o N : Nat) (r : (Nat × ByteArray × List ByteArray) × St) (F : Nat -> Prop) (w : World) (e : Ending) (w' : World) : Prop :=
 (r.1.1 = 0 /\ RHas q o N r.1.2.1 r.1.2.2 r.2 F w e w') \/ (r.1.1 ≠ 0 /\ RNo q r.2 F w ((r.1.1 : Nat) : Int) e w')
theorem rScan (s : ByteArray) (l : List ByteArray) (g x : Nat) (hs : s.size <= 65536) (he : scn s = (l,g,x)) (u : World) : Calls Tryz.prog 94 #[.string s] u fun e w' => ∃ a c,e = .returned (.tuple #[.slice a l.length c,.int .i64 (g : Int),.int .i64 (x : Int)]) /\ OwnL w' u.heap.size (.slice a l.length c) l /\ Below u.heap.size u w' := by
 have h := refScan_any s u hs
 unfold Frm.Told at h
 rw [he] at h
 exact h
set_option maxRecDepth 10000 in
set_option maxHeartbeats 1000000 in
theorem rOpen_down (q o N : Nat) (st : St) (F : Nat -> Prop) (w : World) (hD : RD w q st F) (hok : st.Ok) (hl : st.loose.length <= 10000) (hN : o + N <= st.sure.length) (h1 : 1 <= N) (h0 : st.left = 0) :
   Calls Tryz.prog 62 #[.pointer (some ⟨q,0,none⟩),.int .i64 (o : Int),.int .i64 (N : Int)] w (RNo q st F w 50) := by
 have hfew := hok.few
 have KM := hide (rd_may q st F (o : Int) (N : Int) w hD hfew)
 rw [decide_eq_true (show st.may (o : Int) (N : Int) by unfold St.may; omega)] at KM
 have KS := hide (rStream_down q o N st F w hD hok (by omega) (by omega) h1 h0)
 have HD := hide hD
 clear hD hok
 go_enter Tryz.func62,Tryz.ntmps62
 go_wp2_with fail
 refine KM.out.mono ?_
 rintro e w1 ⟨rfl,hw1⟩
 obtain rfl := hw1.symm
 go_wp2_with fail
 refine KS.out.mono ?_
 rintro e w1 ⟨rfl,hw1⟩
 obtain rfl := hw1.symm
 go_wp2
 go_ret3
 exact ⟨rfl,F,HD.out,Loc.refl _ _⟩
set_option maxRecDepth 10000 in
set_option maxHeartbeats 1000000 in
theorem rOpen_bad (q o N : Nat) (st : St) (F : Nat -> Prop) (w : World) (hD : RD w q st F) (hok : st.Ok) (hl : st.loose.length <= 10000) (hN : o + N <= st.sure.length) (h1 : 1 <= N) (hN2 : N <= 200) (h0 : st.left ≠ 0) (hx : (scn (streamOf (reads st o N))).2.2 = 41 \/ (scn (streamOf (reads st o N))).2.2 = 4) :
   Calls Tryz.prog 62 #[.pointer (some ⟨q,0,none⟩),.int .i64 (o : Int),.int .i64 (N : Int)] w (RNo q st F w 60) := by
 have hfew := hok.few
 have KM := hide (rd_may q st F (o : Int) (N : Int) w hD hfew)
 rw [decide_eq_true (show st.may (o : Int) (N : Int) by unfold St.may; omega)] at KM
 have KS := hide (rStream q o N st F w hD hok (by omega) hN h0)
 have hsz : (streamOf (reads st o N)).size <= 65536 := by
   have h2 := streamOf_size (reads st o N) (fun b hb => by
     obtain ⟨i,hi,rfl⟩ := List.getElem_of_mem hb
     rw [reads_at]
     exact at_size hok _ (by rw [reads_length] at hi; omega))
   rw [reads_length] at h2
   omega
 obtain ⟨L,g,x,hsc⟩ : ∃ L g x,scn (streamOf (reads st o N)) = (L,g,x) := ⟨_,_,_,rfl⟩
 have KC := hide (rScan (streamOf (reads st o N)) L g x hsz hsc)
 rw [hsc] at hx
 have hx' : x = 41 \/ x = 4 := hx
 have HD := hide hD
 clear hD hok hsz hx hsc
 generalize streamOf (reads st o N) = S at *
 rcases hx' with rfl | rfl
 all_goals
   go_enter Tryz.func62,Tryz.ntmps62
   go_wp2_with fail
   refine KM.out.mono ?_
   rintro e w1 ⟨rfl,hw1⟩
   obtain rfl := hw1.symm
   go_wp2_with fail
   refine KS.out.mono ?_
   rintro e w1 ⟨v1,rfl,hown1,hb1⟩
   have HB1 := hide hb1
   obtain ⟨a1,c1,rfl, -⟩ := hown1.strs
   clear hown1 hb1
   go_wp2_with fail
   refine (KC.out _).mono ?_
   rintro e w2 ⟨a2,c2,rfl, -,hb2⟩
   have HB2 := hide (bnext HB1.out hb2)
   clear hb2
   go_wp2
   go_ret3
   exact ⟨rfl,F,HD.out.below HB2.out,Loc.of_below _ HB2.out⟩
structure Two (W0 : World) (vc vw : Value) (cs ws : List ByteArray) (u : World) : Prop where
 below : Below W0.heap.size W0 u
 c : OwnL u W0.heap.size vc cs
 w : OwnL u W0.heap.size vw ws
 apart : ∀ k,OB vc k -> ¬ OB vw k
theorem Two.swap {W0 : World} {vc vw : Value} {cs ws : List ByteArray} {u : World} (h : Two W0 vc vw cs ws u) : Two W0 vw vc ws cs u := ⟨h.below,h.w,h.c,fun k hk hc => h.apart k hc hk⟩
theorem Two.keep {W0 : World} {vc vw : Value} {cs ws : List ByteArray} {u v : World} (h : Two W0 vc vw cs ws u) (hb : Below u.heap.size u v) : Two W0 vc vw cs ws v := ⟨bnext h.below hb,h.c.below hb,h.w.below hb,h.apart⟩
theorem Two.drewN {W0 : World} {vc vw : Value} {cs ws : List ByteArray} {u : World} (h : Two W0 vc vw cs ws u) (n : Nat) : Two W0 vc vw cs ws (u.drewN n) := h.keep (below_drewN (Below.refl _ _) n)
theorem Two.grow {W0 : World} {vc vw : Value} {cs ws : List ByteArray} {u u' : World} {t : ByteArray} {g cap : Nat} (h : Two W0 vc vw cs ws u)
   (hown : u'.ownsRow W0.heap.size 9 1 (.slice (some ⟨g,0,none⟩) (cs.length + 1) cap) (cs.length + 1) (cs.map Value.string ++ [.string t])) (hg : (u.alloc (.cells #[.string t] 9)).grownBy u' vc.ownBlock) (hat : vc.ownBlock = some g \/ g = u.heap.size + 1) :
   Two W0 (.slice (some ⟨g,0,none⟩) (cs.length + 1) cap) vw (cs ++ [t]) ws u' := by
 have hb : Below u.heap.size u (u.alloc (.cells #[.string t] 9)) := (Below.refl _ _).alloc (Nat.le_refl _) _
 have hs := h.below.size
 refine ⟨(h.below.trans (hb.mono hs)).grown hg (by simp; omega) (fun k e => own_ge h.c e),?_,?_,fun k hk hw => ?_⟩
 · rw [map_snoc] at hown
   unfold OwnL
   rw [List.length_append]
   exact hown
 · exact own_kept (h.w.below hb) (fun k hk => hg.block k (by have := own_lt0 (own_up h.w (fun _ _ => Nat.zero_le _)) hk; simp; omega) (fun e => h.apart k e.symm hk))
 · have e : g = k := by unfold OB at hk; simp [Value.ownBlock] at hk; exact hk
   subst e
   rcases hat with h1 | h1
   · exact h.apart g h1 hw
   · have := own_lt0 (own_up h.w (fun _ _ => Nat.zero_le _)) hw
     omega
theorem Two.growD {W0 : World} {vc vw : Value} {cs ws : List ByteArray} {u u' : World} {t : ByteArray} {g cap : Nat} (h : Two W0 vc vw cs ws u)
   (hown : u'.ownsRow W0.heap.size 9 1 (.slice (some ⟨g,0,none⟩) (cs.length + 1) cap) (cs.length + 1) (cs.map Value.string ++ [.string t])) (hg : (u.alloc (.cells #[.string t] 9)).drew.grownBy u' vc.ownBlock) (hat : vc.ownBlock = some g \/ g = u.heap.size + 1) :
   Two W0 (.slice (some ⟨g,0,none⟩) (cs.length + 1) cap) vw (cs ++ [t]) ws u' := h.grow hown ⟨hg.os,hg.tape,hg.output,hg.size,hg.block⟩ hat
theorem newsOne (wr : World) (t : ByteArray) : ∀ (j : Nat) (u : Value),([.string t] : List Value)[j]? = some u -> (wr.alloc (.cells #[.string t] 9)).drew.cell? ((⟨wr.heap.size,0,none⟩ : Addr).add j) = some u := by
 intro j u hj
 match j,hj with
 | 0,hj =>
   rw [List.getElem?_cons_zero] at hj
   cases hj
   have hb : (wr.alloc (.cells #[.string t] 9)).drew.heap[wr.heap.size]? = some (.cells #[.string t] 9) := heap_alloc_last wr (.cells #[.string t] 9)
   rw [add_at,cell_of_row _ _ _ _ _ _ hb]
   rfl
theorem oneOne (t : ByteArray) : ∀ u ∈ ([.string t] : List Value),u.oneCell' = true := fun u hu => by rw [List.mem_singleton.1 hu]; rfl
theorem range_snoc {α : Type} (f : Nat -> α) (k : Nat) : (List.range (k + 1)).map f = (List.range k).map f ++ [f k] := by rw [List.range_succ,List.map_append]; rfl
theorem hat_of {v : Value} {g : Nat} {u : World} {ob : Obj} (h : v.ownBlock = some g \/ g = (u.alloc ob).drew.heap.size) : v.ownBlock = some g \/ g = u.heap.size + 1 := by
 rcases h with h | h
 · exact Or.inl h
 · refine Or.inr ?_
   rw [h]
   show (u.alloc ob).heap.size = _
   simp
theorem Clear.loc {F F' : Nat -> Prop} {a : Option Addr} {u v : World} (hc : Clear F a) (hl : Loc F F' u v) (hlt : ∀ b off,a = some ⟨b,off,none⟩ -> b < u.heap.size) : Clear F' a := fun b off e hf => by
 rcases hl.own b hf with h | h
 · exact hc b off e h
 · have := hlt b off e; omega
theorem own_form {u : World} {b : Nat} {v : Value} {l : List ByteArray} (h : OwnL u b v l) : ∃ a c,v = .slice a l.length c /\ StrsAt u a l /\ ∀ k off,a = some ⟨k,off,none⟩ -> OB v k := by
 obtain ⟨a,c,rfl,hs⟩ := h.strs
 exact ⟨a,c,rfl,hs,fun k off e => by rw [e]; rfl⟩
set_option maxRecDepth 10000 in
set_option maxHeartbeats 4000000 in
theorem rOpen_good (q o N : Nat) (st : St) (F : Nat -> Prop) (w : World) (L : List ByteArray) (g x : Nat) (hD : RD w q st F) (hok : st.Ok) (hl : st.loose.length + N + N <= 10000) (hN : o + N <= st.sure.length) (h1 : 1 <= N) (hN2 : N <= 200) (h0 : st.left ≠ 0) (hsc : scn (streamOf (reads st o N)) = (L,g,x)) (hx1 : x ≠ 41) (hx2 : x ≠ 4) (R : (Nat × ByteArray × List ByteArray) × St) (hR0 : (mended o N (fun i => st.at (o + i)) (kept (reads st o N)) st).1 ≠ 0 -> R = (((mended o N (fun i => st.at (o + i)) (kept (reads st o N)) st).1,noText,[]),(mended o N (fun i => st.at (o + i)) (kept (reads st o N)) st).2)) (hR1 : (mended o N (fun i => st.at (o + i)) (kept (reads st o N)) st).1 = 0 -> R = ((0,kept (reads st o N),L),(mended o N (fun i => st.at (o + i)) (kept (reads st o N)) st).2)) :
   Calls Tryz.prog 62 #[.pointer (some ⟨q,0,none⟩),.int .i64 (o : Int),.int .i64 (N : Int)] w (ROpened q o N R F w) := by
 have hfew := hok.few
 obtain ⟨i0,hi,hz0,hz1,hz2⟩ := info_parts (P := Tryz.prog) (e := 9) (z := .string ⟨#[]⟩) (size := 1) (bytes := 16) (by kernel_rfl)
 have HI := hide (And.intro hi (And.intro hz0 (And.intro hz1 hz2)))
 clear hi hz0 hz1 hz2
 have KM := hide (rd_may q st F (o : Int) (N : Int) w hD hfew)
 rw [decide_eq_true (show st.may (o : Int) (N : Int) by unfold St.may; omega)] at KM
 have KS := hide (rStream q o N st F w hD hok (by omega) hN h0)
 have hs256 : ∀ b ∈ reads st o N,b.size = 256 := fun b hb => by
   obtain ⟨i,hi,rfl⟩ := List.getElem_of_mem hb
   rw [reads_at]
   exact at_size hok _ (by rw [reads_length] at hi; omega)
 have hsz : (streamOf (reads st o N)).size <= 65536 := by
   have h2 := streamOf_size (reads st o N) hs256
   rw [reads_length] at h2
   omega
 have hgl : g <= (streamOf (reads st o N)).size := by
   have := (scn_bound _ (streamOf (reads st o N)) (Nat.le_refl _)).1
   rw [hsc] at this
   exact this
 have KC := hide (rScan (streamOf (reads st o N)) L g x hsz hsc)
 have HK : Hid (kept (reads st o N) = (streamOf (reads st o N)).extract 0 g) := by
   show kept (reads st o N) = _
   unfold kept
   rw [hsc]
 have HD := hide hD
 have HAt : Hid (∀ k (hk : k < N),(reads st o N)[k]'(by rw [reads_length]; exact hk) = st.at (o + k)) := fun k hk => reads_at st o N k _
 have H256 : Hid (∀ k,k < N -> (st.at (o + k)).size = 256) := fun k hk => at_size hok _ (by omega)
 have HOk := hide hok
 have HLen := hide (reads_length st o N)
 have hx1z : ((x : Int) == 41) = false := by simp; omega
 have hx2z : ((x : Int) == 4) = false := by simp; omega
 have HR0 := hide hR0
 have HR1 := hide hR1
 have hgz : (g : Int) <= ((streamOf (reads st o N)).size : Int) := by omega
 clear hD hok hsc hs256 hx1 hx2 hR0 hR1
 go_enter Tryz.func62,Tryz.ntmps62
 go_wp2_with fail
 refine KM.out.mono ?_
 rintro e w1 ⟨rfl,hw1⟩
 obtain rfl := hw1.symm
 clear hw1
 go_wp2_with fail
 refine KS.out.mono ?_
 rintro e w1 ⟨v1,rfl,hown1,hb1⟩
 obtain ⟨a1,c1,rfl,hs1,ho1⟩ := own_form hown1
 have HO1 := hide hown1
 have HB1 := hide hb1
 clear hown1 hb1 hs1 ho1
 rw [HLen.out] at HO1 ⊢
 generalize hS : streamOf (reads st o N) = S at *
 go_wp2_with fail
 refine (KC.out _).mono ?_
 rintro e w2 ⟨a2,c2,rfl,hown2,hb2⟩
 have HO2 := hide hown2
 have HB1s := hide HB1.out.size
 have HB2 := hide (bnext HB1.out hb2)
 have HO1b := hide (HO1.out.below hb2)
 clear hown2 hb2 HO1 HB1 KC KS KM
 go_wp2_with fail
 rw [<- HK.out]
 have HKs : Hid ((kept (reads st o N)).size <= 65536) := by
   show _ <= _
   rw [HK.out,ByteArray.size_extract]
   omega
 clear hS hgz hgl hsz
 generalize kept (reads st o N) = Kp at *
 go_loopw [15,16,17,18] (fun vc vw i _ u => ∃ k : Nat,k <= N /\ i = .int .i64 (k : Int) /\ Two w2 vc vw ((List.range k).map fun i => recount (st.at (o + i)) Kp i) ((List.range k).map (blkOf Kp)) u) (fun _ _ i _ _ => N - (intOf i).toNat)
 case atStart => exact ⟨0,Nat.zero_le _,rfl,⟨Below.refl _ _,World.ownsRow_nil _ _ _ _,World.ownsRow_nil _ _ _ _,fun k hk => absurd hk (OB_nil k)⟩⟩
 case round =>
   obtain ⟨k,hk,rfl,hT⟩ := hrel
   by_cases hlt : k < N
   · have hz : (k : Int) < (N : Int) := by omega
     have hw2 : IntKind.i64.wrap ((k : Int) + 1) = (k : Int) + 1 := by rw [IntKind.wrap_i64]; omega
     have hcl : ((List.range k).map fun i => recount (st.at (o + i)) Kp i).length = k := by simp
     have hwl : ((List.range k).map (blkOf Kp)).length = k := by simp
     have KB := hide (rBlock_any Kp k wr (by omega) (by have := HKs.out; omega))
     obtain ⟨a1',c1',e1,hs1⟩ := (HO1b.out.below (show Below w2.heap.size w2 wr from hT.below)).strs
     rw [HLen.out] at e1
     obtain ⟨q1, -,q2⟩ := Value.slice.inj e1
     clear e1
     subst q1 q2
     obtain ⟨b1,o1,rfl,hx⟩ : ∃ b1 o1,a1 = some ⟨b1,o1,none⟩ /\ ∀ v,Below wr.heap.size wr v -> v.cell? ⟨b1,o1 + k,none⟩ = some (.string (st.at (o + k))) := by
       rcases hs1 with h | ⟨b1,o1,e,h⟩
       · have := HLen.out; rw [h] at this; simp at this; omega
       · exact ⟨b1,o1,e,fun v hv => by
           have h3 := h k (by rw [HLen.out]; exact hlt)
           rw [reads_at] at h3
           exact cellB hv h3⟩
     have HX := hide hx
     have HT := hide hT
     have h256 := H256.out k hlt
     have hb256 := blkOf_size Kp k
     have HCn := hide (range_snoc (fun i => recount (st.at (o + i)) Kp i) k)
     have HWn := hide (range_snoc (blkOf Kp) k)
     have HRc : Hid (recount (st.at (o + k)) Kp k = (st.at (o + k)).extract 0 255 ++ (blkOf Kp k).extract 255 256) := rfl
     clear hx hs1 hT
     generalize (List.range k).map (fun i => recount (st.at (o + i)) Kp i) = cs at *
     generalize (List.range k).map (blkOf Kp) = ws at *
     generalize recount (st.at (o + k)) Kp k = rc at *
     generalize st.at (o + k) = t at *
     generalize blkOf Kp k = bb at *
     obtain ⟨ac,cc,rfl, -⟩ := HT.out.c.strs
     obtain ⟨aw,cw,rfl, -⟩ := HT.out.w.strs
     rw [hcl,hwl] at HT ⊢
     go_wp2_with fail
     refine KB.out.mono ?_
     rintro e u1 ⟨rfl,hb1⟩
     have HT1 := hide (HT.out.keep hb1)
     have hx1 := HX.out u1 hb1
     clear hb1
     have hlen1 : (t.extract 0 255).size = 255 := by rw [ByteArray.size_extract]; omega
     have hlen2 : (bb.extract 255 256).size = 1 := by rw [ByteArray.size_extract]; omega
     have HRow : Hid (u1.ownsRow w2.heap.size 9 1 (.slice ac k cc) k (cs.map Value.string)) := by
       have := HT1.out.c
       unfold OwnL at this
       rw [hcl] at this
       exact this
     have HSz : Hid (w2.heap.size <= u1.heap.size) := HT1.out.below.size
     go_wp2_with fail
     go_region_law ((refine step_append_lies _ (by rfl) _ _ _ (by rfl) w2.heap.size 9 i0 (.string ⟨#[]⟩) 1 16 Tryz.underlying46 HI.out.1 HI.out.2.1 HI.out.2.2.1 HI.out.2.2.2 rfl (by decide) (.slice ac k cc) k _ (by rfl) (World.ownsRow.drew (World.ownsRow.alloc HRow.out _)) ⟨u1.heap.size,0,none⟩ 1 1 [.string (t.extract 0 255 ++ bb.extract 255 256)] (by rfl) rfl (newsOne _ _) (oneOne _) (by decide) (by unfold maxLen; omega) (by omega) (by have := HSz.out; simp; omega) _ rfl ?_; intro g cap u2 hown2 hgrow2 hat2 hlt2))
     all_goals
       have HT2 : Hid (Two w2 (.slice (some ⟨g,0,none⟩) (k + 1) cap) (.slice aw k cw) (cs ++ [rc]) ws u2) := by
         have h5 := HT1.out.growD (t := t.extract 0 255 ++ bb.extract 255 256) (g := g) (cap := cap) (by rw [hcl]; exact hown2) hgrow2 (hat_of hat2)
         rw [hcl] at h5
         rw [HRc.out]
         exact h5
       have HRw : Hid (u2.ownsRow w2.heap.size 9 1 (.slice aw k cw) k (ws.map Value.string)) := by
         have := HT2.out.w
         unfold OwnL at this
         rw [hwl] at this
         exact this
       have HSz2 : Hid (w2.heap.size <= u2.heap.size) := HT2.out.below.size
       clear hown2 hgrow2 hat2 hlt2 HRow HT1 hx1
       go_wp2_with (at_builtin; refine wpList_append_lies _ rfl _ _ 46 rfl w2.heap.size 9 i0 (.string ⟨#[]⟩) 1 16 Tryz.underlying46 HI.out.1 HI.out.2.1 HI.out.2.2.1 HI.out.2.2.2 rfl (by decide) _ _ _ rfl (World.ownsRow.alloc HRw.out _) ⟨u2.heap.size,0,none⟩ 1 1 [.string bb] rfl rfl ?c1 ?c2 (by decide) ?c3 ?c4 ?c5 (u2.heap.size + 1) (by simp) ?_)
       case c1 =>
         intro j u hj
         match j,hj with
         | 0,hj => simp at hj; subst hj; simp [Addr.add,go_sem]
       case c2 => first | rfl | (intro u hu; simp at hu; subst hu; rfl)
       case c3 => unfold maxLen; omega
       case c4 => omega
       case c5 => have := HSz2.out; simp; omega
       · intro g3 cap3 u3 hown3 hgrow3 hat3 _
         have HT3 : Hid (Two w2 (.slice (some ⟨g,0,none⟩) (k + 1) cap) (.slice (some ⟨g3,0,none⟩) (k + 1) cap3) (cs ++ [rc]) (ws ++ [bb]) u3) := by
           have h5 := (HT2.out.swap.grow (t := bb) (g := g3) (cap := cap3) (by rw [hwl]; exact hown3) hgrow3 hat3).swap
           rw [hwl] at h5
           exact h5
         clear hown3 hgrow3 hat3 HT2 HRw
         go_wp2
         go_roundw
         case rel => exact ⟨k + 1,hlt,by go_num,by rw [HCn.out,HWn.out]; exact HT3.out⟩
         case measure => simp [intOf]; omega
   · have hkN : k = N := by omega
     subst hkN
     have hcl : ((List.range k).map fun i => recount (st.at (o + i)) Kp i).length = k := by simp
     have hwl : ((List.range k).map (blkOf Kp)).length = k := by simp
     obtain ⟨ac,cc,rfl,hsc,hoc⟩ := own_form hT.c
     obtain ⟨aw,cw,rfl,hsw,how⟩ := own_form hT.w
     obtain ⟨a1',c1',e1,hs1,ho1⟩ := own_form (HO1b.out.below hT.below)
     rw [HLen.out] at e1
     obtain ⟨q1, -,q2⟩ := Value.slice.inj e1
     clear e1
     subst q1 q2
     have hBw := HB2.out
     have hF : ∀ j,F j -> j < w.heap.size := HD.out.lt
     have hDw : RD wr q st F := HD.out.below (bnext hBw hT.below)
     have hC1 : Clear F a1 := fun b off e hf => by
       have h5 := own_ge HO1b.out (show OB (.slice a1 k c1) b by rw [e]; rfl)
       have h6 := hF b hf
       omega
     have hCc : Clear F ac := fun b off e hf => by
       have h5 := own_ge hT.c (hoc b off e)
       have h6 := hF b hf
       have h7 := hBw.size
       omega
     have hCw : Clear F aw := fun b off e hf => by
       have h5 := own_ge hT.w (how b off e)
       have h6 := hF b hf
       have h7 := hBw.size
       omega
     have hC2 : Clear F a2 := fun b off e hf => by
       have h5 := own_ge HO2.out (show OB (.slice a2 L.length c2) b by rw [e]; rfl)
       have h6 := hF b hf
       have h7 := HB1s.out
       omega
     have hltc : ∀ b off,ac = some ⟨b,off,none⟩ -> b < wr.heap.size := fun b off e => (World.ownsRow.lt hT.c b (hoc b off e)).2
     have hltw : ∀ b off,aw = some ⟨b,off,none⟩ -> b < wr.heap.size := fun b off e => (World.ownsRow.lt hT.w b (how b off e)).2
     have hO2' := HO2.out.below hT.below
     have hlt2 : ∀ b off,a2 = some ⟨b,off,none⟩ -> b < wr.heap.size := fun b off e => (World.ownsRow.lt hO2' b (show OB (.slice a2 L.length c2) b by rw [e]; rfl)).2
     have hs2 : StrsAt wr a2 L := by
       obtain ⟨a',c',e',hs'⟩ := hO2'.strs
       obtain ⟨q1, -,q2⟩ := Value.slice.inj e'
       subst q1
       exact hs'
     have KM1 := rMade q o k a1 ac c1 cc (reads st o k) ((List.range k).map fun i => recount (st.at (o + i)) Kp i) st F wr hDw HOk.out (by omega) (by omega) (by omega) HLen.out hcl hs1 hsc hC1 hCc (fun i => st.at (o + i)) (fun i => recount (st.at (o + i)) Kp i) (fun i hi => reads_at st o k i hi) (fun i hi => by simp)
     rw [HLen.out,hcl] at KM1
     have hFm := (Form.mk HOk.out rfl (Nat.le_refl _)).made o k (fun i => st.at (o + i)) (fun i => recount (st.at (o + i)) Kp i)
     have hM : mended o k (fun i => st.at (o + i)) Kp st = if (made o (prs k (fun i => st.at (o + i)) (fun i => recount (st.at (o + i)) Kp i)) st).1 ≠ 0 then made o (prs k (fun i => st.at (o + i)) (fun i => recount (st.at (o + i)) Kp i)) st else made o (prs k (fun i => recount (st.at (o + i)) Kp i) (blkOf Kp)) (made o (prs k (fun i => st.at (o + i)) (fun i => recount (st.at (o + i)) Kp i)) st).2 := mended_eq ..
     generalize made o (prs k (fun i => st.at (o + i)) (fun i => recount (st.at (o + i)) Kp i)) st = M1 at *
     have KM2 : ∀ u F1,RD u q M1.2 F1 -> Loc F F1 wr u -> Calls Tryz.prog 96 #[.pointer (some ⟨q,0,none⟩),.int .i64 (o : Int),.slice ac k cc,.slice aw k cw] u fun e v => e = .returned (.int .i64 (((made o (prs k (fun i => recount (st.at (o + i)) Kp i) (blkOf Kp)) M1.2).1 : Nat) : Int)) /\ ∃ F2,RD v q (made o (prs k (fun i => recount (st.at (o + i)) Kp i) (blkOf Kp)) M1.2).2 F2 /\ Loc F1 F2 u v := fun u F1 hd hl5 => by
       have := rMade q o k ac aw cc cw ((List.range k).map fun i => recount (st.at (o + i)) Kp i) ((List.range k).map (blkOf Kp)) M1.2 F1 u hd hFm.ok (by have := hFm.few; omega) (by omega) (by omega) hcl hwl (strs_loc hsc hl5 hCc) (strs_loc hsw hl5 hCw) (hCc.loc hl5 hltc) (hCw.loc hl5 hltw) (fun i => recount (st.at (o + i)) Kp i) (blkOf Kp) (fun i hi => by simp) (fun i hi => by simp)
       rw [hcl,hwl] at this
       exact this
     generalize made o (prs k (fun i => recount (st.at (o + i)) Kp i) (blkOf Kp)) M1.2 = M2 at *
     have K1 := hide KM1
     have K2 := hide KM2
     have HM := hide hM
     have HBW := hide (bnext hBw hT.below)
     have HC2 := hide hC2
     have HS2 := hide hs2
     have HLt2 := hide hlt2
     have HNw2 : Hid (∀ b off,a2 = some ⟨b,off,none⟩ -> w.heap.size <= b) := fun b off e => by
       have h5 := own_ge HO2.out (show OB (.slice a2 L.length c2) b by rw [e]; rfl)
       have h7 := HB1s.out
       omega
     rw [hcl,hwl]
     clear hcl hwl hsc hoc hsw how hs1 ho1 hDw hC1 hCc hCw hC2 hltc hltw hO2' hlt2 hs2 KM1 KM2 hFm hM hT hBw hF
     by_cases h1 : M1.1 = 0
     · have hM2 := HM.out
       rw [if_neg (fun h => h h1)] at hM2
       rw [hM2] at HR0 HR1
       rw [h1] at K1
       clear hM2 h1 HM
       go_wp2_with fail
       refine K1.out.mono ?_
       rintro e u1 ⟨rfl,F1,hd1,hl1⟩
       have K2a := hide (K2.out u1 F1 hd1 hl1)
       have HL1 := hide hl1
       clear hd1 hl1 K1 K2
       by_cases h2 : M2.1 = 0
       · have HRe := hide (HR1.out h2)
         rw [h2] at K2a
         clear h2 HR0 HR1
         go_wp2_with fail
         refine K2a.out.mono ?_
         rintro e u2 ⟨rfl,F2,hd2,hl2⟩
         have HL2 := hide (HL1.out.trans hl2)
         have HD2 := hide hd2
         clear hd2 hl2
         go_wp2
         go_ret3
         refine Or.inl ?_
         rw [HRe.out]
         have hl3 := HL2.out.size
         have hbw := HBW.out.size
         have hal : Below u2.heap.size u2 (u2.alloc (.cells #[.pointer (some ⟨q,0,none⟩),.int .i64 (o : Int),.int .i64 (k : Int),.string Kp,.bool false] 57)) := (Below.refl _ _).alloc (Nat.le_refl _) _
         exact ⟨rfl,u2.heap.size,a2,c2,F2,rfl,heap_alloc_last u2 _,by omega,(strs_loc HS2.out HL2.out HC2.out).below hal,HD2.out.below hal,(Loc.of_below F HBW.out).trans (HL2.out.trans (Loc.of_below F2 hal)),fun hf => Nat.lt_irrefl _ (HD2.out.lt _ hf),HNw2.out⟩
       · have HRe := hide (HR0.out h2)
         have h2z : ¬ (((M2.1 : Nat) : Int) = 0) := by omega
         clear HR0 HR1
         go_wp2_with fail
         refine K2a.out.mono ?_
         rintro e u2 ⟨rfl,F2,hd2,hl2⟩
         have HL2 := hide (HL1.out.trans hl2)
         have HD2 := hide hd2
         clear hd2 hl2
         go_wp2
         go_ret3
         refine Or.inr ?_
         rw [HRe.out]
         exact ⟨h2,rfl,F2,HD2.out,(Loc.of_below F HBW.out).trans HL2.out⟩
     · have hM2 := HM.out
       rw [if_pos h1] at hM2
       rw [hM2] at HR0
       have HRe := hide (HR0.out h1)
       have h1z : ¬ (((M1.1 : Nat) : Int) = 0) := by omega
       clear hM2 HM HR0 HR1
       go_wp2_with fail
       refine K1.out.mono ?_
       rintro e u1 ⟨rfl,F1,hd1,hl1⟩
       have HL1 := hide hl1
       have HD1 := hide hd1
       clear hd1 hl1 K1 K2
       go_wp2
       go_ret3
       refine Or.inr ?_
       rw [HRe.out]
       exact ⟨h1,rfl,F1,HD1.out,(Loc.of_below F HBW.out).trans HL1.out⟩
theorem pROpen (q o N : Nat) (st : St) (F : Nat -> Prop) (w : World) (hD : RD w q st F) (hok : st.Ok) (hl : st.loose.length + N + N <= 10000) (hN : o + N <= st.sure.length) (h1 : 1 <= N) (hN2 : N <= 200) :
   Calls Tryz.prog 62 #[.pointer (some ⟨q,0,none⟩),.int .i64 (o : Int),.int .i64 (N : Int)] w (ROpened q o N (walOpen st o N) F w) := by
 rw [walOpen_eq]
 by_cases h0 : st.left = 0
 · rw [if_pos h0]
   exact (rOpen_down q o N st F w hD hok (by omega) hN h1 h0).mono (fun e w' h => Or.inr ⟨by simp,h⟩)
 · rw [if_neg h0]
   by_cases hx : (scn (streamOf (reads st o N))).2.2 = 41 \/ (scn (streamOf (reads st o N))).2.2 = 4
   · rw [if_pos hx]
     exact (rOpen_bad q o N st F w hD hok (by omega) hN h1 hN2 h0 hx).mono (fun e w' h => Or.inr ⟨by simp,h⟩)
   · rw [if_neg hx]
     exact rOpen_good q o N st F w (scn (streamOf (reads st o N))).1 (scn (streamOf (reads st o N))).2.1 (scn (streamOf (reads st o N))).2.2 hD hok hl hN h1 hN2 h0 rfl (fun h => hx (Or.inl h)) (fun h => hx (Or.inr h)) _ (fun h => by rw [if_pos h]) (fun h => by rw [if_neg (fun h2 => h2 h)])
end Go.Proofs.YtchhojkhfdkhfaaGreatDoor
namespace Go.Proofs.YtchhojkhfdkhfaaGreatDoor
open Go Go.RowKit Frm Go.Shelf
set_option maxRecDepth 10000 in
set_option maxHeartbeats 2000000 in
theorem open_ok (q o N : Nat) (st : St) (F : Nat -> Prop) (w : World) (hD : DAt w q st F) (hok : st.Ok) (hl : st.loose.length + N + N <= 10000) (hN : o + N <= st.sure.length) (h1 : 1 <= N) (hN2 : N <= 200) (h0 : st.left ≠ 0) (hx1 : (scn (streamOf (reads st o N))).2.2 ≠ 41) (hx2 : (scn (streamOf (reads st o N))).2.2 ≠ 4) (hm : (mended o N (fun i => st.at (o + i)) (kept (reads st o N)) st).1 = 0) :
   Calls Tryz.prog 85 #[.pointer (some ⟨q,0,none⟩),.int .i64 (o : Int),.int .i64 (N : Int)] w (HasLog q o N (kept (reads st o N)) (scn (streamOf (reads st o N))).1 (mended o N (fun i => st.at (o + i)) (kept (reads st o N)) st).2 F w) := by
 have hfew := hok.few
 have hF := con.lt hD
 obtain ⟨W,hW⟩ : ∃ W,w.alloc (.cells #[.pointer (some ⟨q,0,none⟩),.int .i64 (o : Int),.int .i64 (N : Int)] 163) = W := ⟨_,rfl⟩
 have hbW : Below w.heap.size w W := by rw [<- hW]; exact (Below.refl _ _).alloc (Nat.le_refl _) _
 have hszW : W.heap.size = w.heap.size + 1 := by rw [<- hW]; simp
 have harea : W.heap[w.heap.size]? = some (.cells #[.pointer (some ⟨q,0,none⟩),.int .i64 (o : Int),.int .i64 (N : Int)] 163 (0,0)) := by rw [<- hW]; exact World.alloc_heap_new w _
 have hc0 : W.cell? ⟨w.heap.size,0,none⟩ = some (.pointer (some ⟨q,0,none⟩)) := by simp [World.cell?,harea]
 have hc1 : W.cell? ⟨w.heap.size,1,none⟩ = some (.int .i64 (o : Int)) := by simp [World.cell?,harea]
 have hc2 : W.cell? ⟨w.heap.size,2,none⟩ = some (.int .i64 (N : Int)) := by simp [World.cell?,harea]
 have hmay : st.may (o : Int) (N : Int) := by unfold St.may; omega
 have KF : Hid (Calls Tryz.prog 105 #[.agg #[.pointer (some ⟨q,0,none⟩),.int .i64 (o : Int),.int .i64 (N : Int)]] W fun e w' => e = .returned (.int .i64 0) /\ Below W.heap.size W w') := by
   have := fault_any q (o : Int) (N : Int) st F W (con.below hD hbW) hok (by omega)
   rw [if_pos hmay] at this
   exact this
 have HCL : Hid (∀ u,Below W.heap.size W u -> u.cell? ⟨w.heap.size,0,none⟩ = some (.pointer (some ⟨q,0,none⟩)) /\ u.cell? ⟨w.heap.size,1,none⟩ = some (.int .i64 (o : Int)) /\ u.cell? ⟨w.heap.size,2,none⟩ = some (.int .i64 (N : Int)) /\ DAt u q st F) := fun u hu => ⟨cellB hu hc0,cellB hu hc1,cellB hu hc2,con.below (con.below hD hbW) hu⟩
 have HBW := hide hbW
 have hRd : ∀ b ∈ reads st o N,b.size = 256 := fun b hb => by
   obtain ⟨i,hi,rfl⟩ := List.getElem_of_mem hb
   rw [reads_at]
   rw [reads_length] at hi
   exact at_size hok _ (by omega)
 have hUp : ∀ b ∈ upTo (reads st o N),b.size = 256 := fun b hb => by
   rw [upTo_prefix] at hb
   exact hRd b (List.mem_of_mem_take hb)
 have hUl : (upTo (reads st o N)).length <= N := by have := upTo_le (reads st o N); rw [reads_length] at this; exact this
 have hSs : (streamOf (reads st o N)).size <= 65536 := by
   have := heads_size (upTo (reads st o N)) hUp
   rw [heads_upTo] at this
   have : (upTo (reads st o N)).length * 255 <= 200 * 255 := by omega
   omega
 have K1 : Hid (∀ u,DAt u q st F -> Calls Tryz.prog 117 #[.agg #[.pointer (some ⟨q,0,none⟩),.int .i64 (o : Int),.int .i64 (N : Int)],.slice none 0 0,.func (.func 118) #[] #[]] u fun e w' => ∃ bv,e = .returned (.tuple #[bv,.int .i64 0]) /\ OwnL w' 0 bv (upTo (reads st o N)) /\ Loc (OB (.slice none 0 0)) (OB bv) u w') := fun u hu => readOn_ends q o N (.slice none 0 0) [] st F u hu hok (by omega) hN h0 (World.ownsRow_nil _ _ _ _) rfl (Nat.zero_le _) (fun k _ => OB_nil k) (fun j hj => absurd hj (by simp))
 have K2 : Hid (∀ a c u,StrsAt u a (upTo (reads st o N)) -> Calls Tryz.prog 119 #[.slice a (upTo (reads st o N)).length c] u fun e w' => e = .returned (.string (streamOf (reads st o N))) /\ Below u.heap.size u w') := fun a c u hu => by
   have := stream_any (upTo (reads st o N)) a c u hu hUp (by omega)
   rw [heads_upTo] at this
   exact this
 have K3 : Hid (∀ u,Calls Tryz.prog 120 #[.string (streamOf (reads st o N))] u fun e w' => ∃ a c,e = .returned (.tuple #[.slice a (scn (streamOf (reads st o N))).1.length c,.int .i64 (((scn (streamOf (reads st o N))).2.1 : Nat) : Int),.int .i64 (((scn (streamOf (reads st o N))).2.2 : Nat) : Int)]) /\ OwnL w' u.heap.size (.slice a (scn (streamOf (reads st o N))).1.length c) (scn (streamOf (reads st o N))).1 /\ Below u.heap.size u w') := fun u => scan_any (streamOf (reads st o N)) u hSs
 have HD := hide hD
 have hgd := (scn_bound _ (streamOf (reads st o N)) (Nat.le_refl _)).1
 have K4 : Hid (∀ v u,DAt u q st F -> OwnL u 0 v (upTo (reads st o N)) -> (∀ k,F k -> ¬ OB v k) -> Calls Tryz.prog 117 #[.agg #[.pointer (some ⟨q,0,none⟩),.int .i64 (o : Int),.int .i64 (N : Int)],v,.func (.func 121) #[] #[]] u fun e w' => ∃ bv,e = .returned (.tuple #[bv,.int .i64 0]) /\ OwnL w' 0 bv (reads st o N) /\ Loc (OB v) (OB bv) u w') := fun v u hu hv hd => readOn_all q o N v (upTo (reads st o N)) st F u hu hok (by omega) hN h0 hv (upTo_prefix _) hUl hd
 have K5 : Hid (∀ a c u,DAt u q st F -> OwnL u 0 (.slice a (reads st o N).length c) (reads st o N) -> (∀ k,F k -> ¬ OB (.slice a (reads st o N).length c) k) -> Calls Tryz.prog 122 #[.agg #[.pointer (some ⟨q,0,none⟩),.int .i64 (o : Int),.int .i64 (N : Int)],.slice a (reads st o N).length c,.string (kept (reads st o N))] u fun e w' => e = .returned (.int .i64 (((mended o N (fun i => st.at (o + i)) (kept (reads st o N)) st).1 : Nat) : Int)) /\ ∃ F',DAt w' q (mended o N (fun i => st.at (o + i)) (kept (reads st o N)) st).2 F' /\ Loc F F' u w') := fun a c u hu hv hd => mend_any q o N a c (reads st o N) (fun i => st.at (o + i)) (kept (reads st o N)) st F u hu hok hl (by omega) (by omega) (reads_length st o N) hv hd hRd (fun i hi => reads_at st o N i hi)
 rw [hm] at K5
 have hKp : kept (reads st o N) = (streamOf (reads st o N)).extract 0 (scn (streamOf (reads st o N))).2.1 := rfl
 have hks : (kept (reads st o N)).size <= 281474976710656 := by rw [hKp,ByteArray.size_extract]; omega
 have K6 := hide (fun u => tail_any (kept (reads st o N)) u hks)
 have HRL := hide (reads_length st o N)
 have hz1 : ((((scn (streamOf (reads st o N))).2.2 : Nat) : Int) == 41) = false := beq_false_of_ne (by omega)
 have hz2 : ((((scn (streamOf (reads st o N))).2.2 : Nat) : Int) == 4) = false := beq_false_of_ne (by omega)
 have hz3 : (((scn (streamOf (reads st o N))).2.1 : Nat) : Int) <= ((streamOf (reads st o N)).size : Int) := by omega
 have HFF := hide hF
 have HAR := hide harea
 have HG : Hid (∀ w2 w3 w4 w5 v v' vR,Loc (OB (.slice none 0 0)) (OB v) W w2 -> OwnL w2 0 v (upTo (reads st o N)) -> Below w2.heap.size w2 w3 -> Below w3.heap.size w3 w4 -> OwnL w4 w3.heap.size vR (scn (streamOf (reads st o N))).1 -> Loc (OB v) (OB v') w4 w5 -> OwnL w5 0 v' (reads st o N) -> Got w q o N st F w5 v' vR) := fun w2 w3 w4 w5 v v' vR h2 hv h3 h4 hR h5 hv' => Got.mk' (con.below hD hbW) hF hbW hszW harea h2 hv h3 h4 hR h5 hv'
 have HKE : Hid (kept (reads st o N) = (streamOf (reads st o N)).extract 0 (scn (streamOf (reads st o N))).2.1 /\ ((streamOf (reads st o N)).extract 0 (scn (streamOf (reads st o N))).2.1).size = (scn (streamOf (reads st o N))).2.1) := ⟨hKp,by rw [ByteArray.size_extract]; omega⟩
 rw [hKp] at K5 K6
 clear hD hok hl hN h0 hbW harea hmay hRd hUp hUl hSs hF hx1 hx2 hm hks hKp hgd
 generalize hU : upTo (reads st o N) = U at *
 generalize hR : (scn (streamOf (reads st o N))).1 = R at *
 generalize (scn (streamOf (reads st o N))).2.1 = gd at *
 generalize (scn (streamOf (reads st o N))).2.2 = x at *
 generalize hS : streamOf (reads st o N) = S at *
 generalize hRr : reads st o N = L at *
 have HE := hide (And.intro hR (And.intro hS hRr))
 clear hU hR hS hRr
 go_enter Tryz.func85,Tryz.ntmps85
 go_wp2_with fail
 refine KF.out.mono ?_
 rintro e w1 ⟨rfl,hb1⟩
 obtain ⟨q0,q1,q2,hd1⟩ := HCL.out w1 hb1
 have K1a := hide (K1.out w1 hd1)
 have HB1 := hide hb1
 clear hb1 hd1
 go_wp2_with fail
 refine K1a.out.mono ?_
 rintro e w2 ⟨bv,rfl,hv,hl2⟩
 obtain ⟨a2,c2,rfl,hs2⟩ := hv.strs
 have K2a := hide (K2.out a2 c2 w2 hs2)
 have HV := hide hv
 have HL2 := hide hl2
 clear hv hl2 hs2
 go_wp2_with fail
 refine K2a.out.mono ?_
 rintro e w3 ⟨rfl,hb3⟩
 have K3a := hide (K3.out w3)
 have HB3 := hide hb3
 clear hb3
 go_wp2_with fail
 refine K3a.out.mono ?_
 rintro e w4 ⟨a4,c4,rfl,hR4,hb4⟩
 have HR4 := hide hR4
 have HB4 := hide hb4
 clear hR4 hb4
 obtain ⟨hB04,hvn⟩ := till4b HB1.out HL2.out HB3.out HB4.out
 obtain ⟨r0,r1,r2,hd4⟩ := HCL.out w4 hB04
 have K4a := hide (K4.out _ w4 hd4 (own_kept HV.out (fun k hk => by
   have e1 := own_lt0 HV.out hk
   rw [HB4.out.block k (by have := HB3.out.size; omega),HB3.out.block k e1])) (fun k hf ho => by have := HFF.out k hf; have := hvn k ho; omega))
 have HL2b := hide ((Loc.of_below (OB (.slice none 0 0)) HB1.out).trans HL2.out)
 clear hB04 hd4 hvn
 go_wp2_with fail
 refine K4a.out.mono ?_
 rintro e w5 ⟨bv,rfl,hv5,hl5⟩
 have hg := HG.out w2 w3 w4 w5 _ bv _ HL2b.out HV.out HB3.out HB4.out HR4.out hl5 hv5
 obtain ⟨a5,c5,rfl, -⟩ := hv5.strs
 have s0 := hg.c0
 have s1 := hg.c1
 have s2 := hg.c2
 have K5a := hide (K5.out a5 c5 w5 hg.disk hv5 (fun k hf ho => by have := HFF.out k hf; have := hg.newB k ho; omega))
 have HGot := hide hg
 clear hg hv5 hl5
 go_wp2_with fail
 refine K5a.out.mono ?_
 rintro e w6 ⟨rfl,F6,hd6,hl6⟩
 obtain ⟨t0,t1,t2⟩ := HGot.out.area6 HFF.out hl6
 have HD6 := hide hd6
 have HL6 := hide hl6
 have T0 := hide t0
 have T1 := hide t1
 have T2 := hide t2
 clear hd6 hl6 t0 t1 t2
 go_wp2_with fail
 generalize (S.extract 0 gd) = kp at *
 clear s0 s1 s2 r0 r1 r2 q0 q1 q2 hc0 hc1 hc2
 go_region_held3 (fun z => z.cell? ⟨w.heap.size,0,none⟩ = some (.pointer (some ⟨q,0,none⟩)) /\ z.cell? ⟨w.heap.size,1,none⟩ = some (.int .i64 (o : Int)) /\ z.cell? ⟨w.heap.size,2,none⟩ = some (.int .i64 (N : Int)) /\ Below w6.heap.size w6 z)
   (((with_reducible refine oldS T0.out T1.out T2.out ?_); first | (with_reducible exact (Below.refl _ _).drew) | ((with_reducible refine bnext ?_ hbc); go_split_ands; with_reducible assumption) | ((with_reducible refine bgrow ?_ _); go_split_ands; with_reducible assumption)))
   ((go_at_call 123; refine (K6.out _).mono ?_; rintro e w7 ⟨rfl,hbc⟩))
 go_split_ands
 have HB7 := hide hbc
 clear hbc
 go_wp2
 go_ret3
 obtain ⟨hR,hS,hRr⟩ := HE.out
 have hend := open_end HGot.out HFF.out HL6.out HD6.out HB7.out HKE.out.2
 rw [hRr,hS,hR] at hend
 rw [HKE.out.1]
 exact hend
set_option maxRecDepth 10000 in
set_option maxHeartbeats 2000000 in
theorem open_err (q o N : Nat) (st : St) (F : Nat -> Prop) (w : World) (hD : DAt w q st F) (hok : st.Ok) (hl : st.loose.length + N + N <= 10000) (hN : o + N <= st.sure.length) (h1 : 1 <= N) (hN2 : N <= 200) (h0 : st.left ≠ 0) (hx1 : (scn (streamOf (reads st o N))).2.2 ≠ 41) (hx2 : (scn (streamOf (reads st o N))).2.2 ≠ 4) (hm : (mended o N (fun i => st.at (o + i)) (kept (reads st o N)) st).1 ≠ 0) :
   Calls Tryz.prog 85 #[.pointer (some ⟨q,0,none⟩),.int .i64 (o : Int),.int .i64 (N : Int)] w (NoLog q (mended o N (fun i => st.at (o + i)) (kept (reads st o N)) st).2 F w (((mended o N (fun i => st.at (o + i)) (kept (reads st o N)) st).1 : Nat) : Int)) := by
 have hfew := hok.few
 have hF := con.lt hD
 obtain ⟨W,hW⟩ : ∃ W,w.alloc (.cells #[.pointer (some ⟨q,0,none⟩),.int .i64 (o : Int),.int .i64 (N : Int)] 163) = W := ⟨_,rfl⟩
 have hbW : Below w.heap.size w W := by rw [<- hW]; exact (Below.refl _ _).alloc (Nat.le_refl _) _
 have hszW : W.heap.size = w.heap.size + 1 := by rw [<- hW]; simp
 have harea : W.heap[w.heap.size]? = some (.cells #[.pointer (some ⟨q,0,none⟩),.int .i64 (o : Int),.int .i64 (N : Int)] 163 (0,0)) := by rw [<- hW]; exact World.alloc_heap_new w _
 have hc0 : W.cell? ⟨w.heap.size,0,none⟩ = some (.pointer (some ⟨q,0,none⟩)) := by simp [World.cell?,harea]
 have hc1 : W.cell? ⟨w.heap.size,1,none⟩ = some (.int .i64 (o : Int)) := by simp [World.cell?,harea]
 have hc2 : W.cell? ⟨w.heap.size,2,none⟩ = some (.int .i64 (N : Int)) := by simp [World.cell?,harea]
 have hmay : st.may (o : Int) (N : Int) := by unfold St.may; omega
 have KF : Hid (Calls Tryz.prog 105 #[.agg #[.pointer (some ⟨q,0,none⟩),.int .i64 (o : Int),.int .i64 (N : Int)]] W fun e w' => e = .returned (.int .i64 0) /\ Below W.heap.size W w') := by
   have := fault_any q (o : Int) (N : Int) st F W (con.below hD hbW) hok (by omega)
   rw [if_pos hmay] at this
   exact this
 have HCL : Hid (∀ u,Below W.heap.size W u -> u.cell? ⟨w.heap.size,0,none⟩ = some (.pointer (some ⟨q,0,none⟩)) /\ u.cell? ⟨w.heap.size,1,none⟩ = some (.int .i64 (o : Int)) /\ u.cell? ⟨w.heap.size,2,none⟩ = some (.int .i64 (N : Int)) /\ DAt u q st F) := fun u hu => ⟨cellB hu hc0,cellB hu hc1,cellB hu hc2,con.below (con.below hD hbW) hu⟩
 have HBW := hide hbW
 have hRd : ∀ b ∈ reads st o N,b.size = 256 := fun b hb => by
   obtain ⟨i,hi,rfl⟩ := List.getElem_of_mem hb
   rw [reads_at]
   rw [reads_length] at hi
   exact at_size hok _ (by omega)
 have hUp : ∀ b ∈ upTo (reads st o N),b.size = 256 := fun b hb => by
   rw [upTo_prefix] at hb
   exact hRd b (List.mem_of_mem_take hb)
 have hUl : (upTo (reads st o N)).length <= N := by have := upTo_le (reads st o N); rw [reads_length] at this; exact this
 have hSs : (streamOf (reads st o N)).size <= 65536 := by
   have := heads_size (upTo (reads st o N)) hUp
   rw [heads_upTo] at this
   have : (upTo (reads st o N)).length * 255 <= 200 * 255 := by omega
   omega
 have K1 : Hid (∀ u,DAt u q st F -> Calls Tryz.prog 117 #[.agg #[.pointer (some ⟨q,0,none⟩),.int .i64 (o : Int),.int .i64 (N : Int)],.slice none 0 0,.func (.func 118) #[] #[]] u fun e w' => ∃ bv,e = .returned (.tuple #[bv,.int .i64 0]) /\ OwnL w' 0 bv (upTo (reads st o N)) /\ Loc (OB (.slice none 0 0)) (OB bv) u w') := fun u hu => readOn_ends q o N (.slice none 0 0) [] st F u hu hok (by omega) hN h0 (World.ownsRow_nil _ _ _ _) rfl (Nat.zero_le _) (fun k _ => OB_nil k) (fun j hj => absurd hj (by simp))
 have K2 : Hid (∀ a c u,StrsAt u a (upTo (reads st o N)) -> Calls Tryz.prog 119 #[.slice a (upTo (reads st o N)).length c] u fun e w' => e = .returned (.string (streamOf (reads st o N))) /\ Below u.heap.size u w') := fun a c u hu => by
   have := stream_any (upTo (reads st o N)) a c u hu hUp (by omega)
   rw [heads_upTo] at this
   exact this
 have K3 : Hid (∀ u,Calls Tryz.prog 120 #[.string (streamOf (reads st o N))] u fun e w' => ∃ a c,e = .returned (.tuple #[.slice a (scn (streamOf (reads st o N))).1.length c,.int .i64 (((scn (streamOf (reads st o N))).2.1 : Nat) : Int),.int .i64 (((scn (streamOf (reads st o N))).2.2 : Nat) : Int)]) /\ OwnL w' u.heap.size (.slice a (scn (streamOf (reads st o N))).1.length c) (scn (streamOf (reads st o N))).1 /\ Below u.heap.size u w') := fun u => scan_any (streamOf (reads st o N)) u hSs
 have HD := hide hD
 have hgd := (scn_bound _ (streamOf (reads st o N)) (Nat.le_refl _)).1
 have K4 : Hid (∀ v u,DAt u q st F -> OwnL u 0 v (upTo (reads st o N)) -> (∀ k,F k -> ¬ OB v k) -> Calls Tryz.prog 117 #[.agg #[.pointer (some ⟨q,0,none⟩),.int .i64 (o : Int),.int .i64 (N : Int)],v,.func (.func 121) #[] #[]] u fun e w' => ∃ bv,e = .returned (.tuple #[bv,.int .i64 0]) /\ OwnL w' 0 bv (reads st o N) /\ Loc (OB v) (OB bv) u w') := fun v u hu hv hd => readOn_all q o N v (upTo (reads st o N)) st F u hu hok (by omega) hN h0 hv (upTo_prefix _) hUl hd
 have K5 : Hid (∀ a c u,DAt u q st F -> OwnL u 0 (.slice a (reads st o N).length c) (reads st o N) -> (∀ k,F k -> ¬ OB (.slice a (reads st o N).length c) k) -> Calls Tryz.prog 122 #[.agg #[.pointer (some ⟨q,0,none⟩),.int .i64 (o : Int),.int .i64 (N : Int)],.slice a (reads st o N).length c,.string (kept (reads st o N))] u fun e w' => e = .returned (.int .i64 (((mended o N (fun i => st.at (o + i)) (kept (reads st o N)) st).1 : Nat) : Int)) /\ ∃ F',DAt w' q (mended o N (fun i => st.at (o + i)) (kept (reads st o N)) st).2 F' /\ Loc F F' u w') := fun a c u hu hv hd => mend_any q o N a c (reads st o N) (fun i => st.at (o + i)) (kept (reads st o N)) st F u hu hok hl (by omega) (by omega) (reads_length st o N) hv hd hRd (fun i hi => reads_at st o N i hi)
 have hmz : ¬ ((((mended o N (fun i => st.at (o + i)) (kept (reads st o N)) st).1 : Nat) : Int) = 0) := by omega
 have hKp : kept (reads st o N) = (streamOf (reads st o N)).extract 0 (scn (streamOf (reads st o N))).2.1 := rfl
 have _hks : True := trivial
 have HRL := hide (reads_length st o N)
 have hz1 : ((((scn (streamOf (reads st o N))).2.2 : Nat) : Int) == 41) = false := beq_false_of_ne (by omega)
 have hz2 : ((((scn (streamOf (reads st o N))).2.2 : Nat) : Int) == 4) = false := beq_false_of_ne (by omega)
 have hz3 : (((scn (streamOf (reads st o N))).2.1 : Nat) : Int) <= ((streamOf (reads st o N)).size : Int) := by omega
 have HFF := hide hF
 have HAR := hide harea
 have HG : Hid (∀ w2 w3 w4 w5 v v' vR,Loc (OB (.slice none 0 0)) (OB v) W w2 -> OwnL w2 0 v (upTo (reads st o N)) -> Below w2.heap.size w2 w3 -> Below w3.heap.size w3 w4 -> OwnL w4 w3.heap.size vR (scn (streamOf (reads st o N))).1 -> Loc (OB v) (OB v') w4 w5 -> OwnL w5 0 v' (reads st o N) -> Got w q o N st F w5 v' vR) := fun w2 w3 w4 w5 v v' vR h2 hv h3 h4 hR h5 hv' => Got.mk' (con.below hD hbW) hF hbW hszW harea h2 hv h3 h4 hR h5 hv'
 have HKE : Hid (kept (reads st o N) = (streamOf (reads st o N)).extract 0 (scn (streamOf (reads st o N))).2.1 /\ ((streamOf (reads st o N)).extract 0 (scn (streamOf (reads st o N))).2.1).size = (scn (streamOf (reads st o N))).2.1) := ⟨hKp,by rw [ByteArray.size_extract]; omega⟩
 rw [hKp] at K5 hmz
 rw [hKp]
 clear hD hok hl hN h0 hbW harea hmay hRd hUp hUl hSs hF hx1 hx2 hm _hks hKp hgd
 generalize hU : upTo (reads st o N) = U at *
 generalize hR : (scn (streamOf (reads st o N))).1 = R at *
 generalize (scn (streamOf (reads st o N))).2.1 = gd at *
 generalize (scn (streamOf (reads st o N))).2.2 = x at *
 generalize hS : streamOf (reads st o N) = S at *
 generalize hRr : reads st o N = L at *
 have HE := hide (And.intro hR (And.intro hS hRr))
 clear hU hR hS hRr
 go_enter Tryz.func85,Tryz.ntmps85
 go_wp2_with fail
 refine KF.out.mono ?_
 rintro e w1 ⟨rfl,hb1⟩
 obtain ⟨q0,q1,q2,hd1⟩ := HCL.out w1 hb1
 have K1a := hide (K1.out w1 hd1)
 have HB1 := hide hb1
 clear hb1 hd1
 go_wp2_with fail
 refine K1a.out.mono ?_
 rintro e w2 ⟨bv,rfl,hv,hl2⟩
 obtain ⟨a2,c2,rfl,hs2⟩ := hv.strs
 have K2a := hide (K2.out a2 c2 w2 hs2)
 have HV := hide hv
 have HL2 := hide hl2
 clear hv hl2 hs2
 go_wp2_with fail
 refine K2a.out.mono ?_
 rintro e w3 ⟨rfl,hb3⟩
 have K3a := hide (K3.out w3)
 have HB3 := hide hb3
 clear hb3
 go_wp2_with fail
 refine K3a.out.mono ?_
 rintro e w4 ⟨a4,c4,rfl,hR4,hb4⟩
 have HR4 := hide hR4
 have HB4 := hide hb4
 clear hR4 hb4
 obtain ⟨hB04,hvn⟩ := till4b HB1.out HL2.out HB3.out HB4.out
 obtain ⟨r0,r1,r2,hd4⟩ := HCL.out w4 hB04
 have K4a := hide (K4.out _ w4 hd4 (own_kept HV.out (fun k hk => by
   have e1 := own_lt0 HV.out hk
   rw [HB4.out.block k (by have := HB3.out.size; omega),HB3.out.block k e1])) (fun k hf ho => by have := HFF.out k hf; have := hvn k ho; omega))
 have HL2b := hide ((Loc.of_below (OB (.slice none 0 0)) HB1.out).trans HL2.out)
 clear hB04 hd4 hvn
 go_wp2_with fail
 refine K4a.out.mono ?_
 rintro e w5 ⟨bv,rfl,hv5,hl5⟩
 have hg := HG.out w2 w3 w4 w5 _ bv _ HL2b.out HV.out HB3.out HB4.out HR4.out hl5 hv5
 obtain ⟨a5,c5,rfl, -⟩ := hv5.strs
 have s0 := hg.c0
 have s1 := hg.c1
 have s2 := hg.c2
 have K5a := hide (K5.out a5 c5 w5 hg.disk hv5 (fun k hf ho => by have := HFF.out k hf; have := hg.newB k ho; omega))
 have HGot := hide hg
 clear hg hv5 hl5
 go_wp2_with fail
 refine K5a.out.mono ?_
 rintro e w6 ⟨rfl,F6,hd6,hl6⟩
 have HD6 := hide hd6
 have HL6 := hide ((Loc.of_below F HGot.out.below).trans hl6)
 clear hd6 hl6
 go_wp2
 go_ret3
 exact ⟨rfl,F6,HD6.out,HL6.out⟩
end Go.Proofs.YtchhojkhfdkhfaaGreatDoor
namespace Go.Proofs.YtchhojkhfdkhfaaGreatDoor
open Go Go.RowKit Frm
set_option maxRecDepth 10000 in
set_option maxHeartbeats 4000000 in
theorem append_ok (p q o n : Nat) (s t : ByteArray) (st : St) (F : Nat -> Prop) (w : World) (hL : LAt w p q o n s false) (hD : DAt w q st F) (hp : ¬ F p) (hok : st.Ok) (hlo : st.loose.length + n <= 10000) (ho : o + n <= 4096) (ht : t.size <= 65536) (hn : n <= 200) (hs : s.size <= n * 255) (hfit : s.size + (t.size + 8) <= n * 255) (hput : (puts o (prs n (blkOf s) (blkOf (s ++ frm t))) 0 st).1 = 0) :
   Calls Tryz.prog 192 #[.pointer (some ⟨p,0,none⟩),.string t] w (Apd p q o n (s ++ frm t) false (puts o (prs n (blkOf s) (blkOf (s ++ frm t))) 0 st).2 F w 0) := by
 have c0 := hL.c0
 have c5 := hL.c5
 have hfs := frm_size t
 have hts := tail_size s
 have KF := hide (frame_any t w ht)
 have hz : ¬ ((n : Int) * 255 - (s.size : Int) < ((frm t).size : Int)) := by omega
 have hcat : ¬ (9223372036854775807 < (tailOf s).size + (frm t).size) := by omega
 have HLt := hide hL
 have HRm := hide (fun u (hu : LAt u p q o n s false) => room_any p q o n s false u hu (by omega) hs)
 have HTo := hide (fun u (hu : LAt u p q o n s false) => touched_any p q o n s (tailOf s ++ frm t) false u hu (by omega) (by omega) (by rw [ByteArray.size_append]; omega))
 have HLy := hide (fun u (hu : Below w.heap.size w u) => append_lay q o n s (frm t) st F w u hD hok hlo ho (by omega) hu)
 have HTl := hide (fun u => tail_any (tailOf s ++ frm t) u (by rw [ByteArray.size_append]; omega))
 have hD0 := hD
 have HPF := hide hp
 have HTA := hide (tail_app s (frm t))
 have hsum : wrap64 ((s.size : Int) + ((frm t).size : Int)) = ((s.size + (frm t).size : Nat) : Int) := by unfold wrap64; omega
 have HSA : Hid ((s ++ frm t).size = s.size + (frm t).size) := ByteArray.size_append
 have HDD := hide hD
 
 have HPU := hide hput
 rw [hput] at HLy
 clear hL hD hp hok hlo ho ht hn hs hfit hput hfs hts hD0
 generalize puts o (prs n (blkOf s) (blkOf (s ++ frm t))) 0 st = P at *
 generalize hTs : tailOf s = T at *
 generalize hsf : s ++ frm t = SF at *
 generalize frm t = f at *
 have HTs := hide hTs
 have HSf := hide hsf
 clear hTs hsf
 go_enter Tryz.func192,Tryz.ntmps192
 go_wp2_with fail
 refine KF.out.mono ?_
 rintro e w1 ⟨rfl,hb1⟩
 have hL1 : LAt w1 p q o n s false := HLt.out.same (hb1.block p HLt.out.lt)
 have d4 := hL1.c4
 rw [HTs.out] at d4
 have KR := hide (HRm.out w1 hL1)
 have HL1 := hide hL1
 have HB1 := hide hb1
 clear hL1 hb1
 go_wp2_with fail
 refine KR.out.mono ?_
 rintro e w2 ⟨rfl,m,rfl⟩
 go_wp2_with fail
 have HB2 := hide (below_drewN HB1.out m)
 have D4 : Hid ((w1.drewN m).drew.cell? ⟨p,4,none⟩ = some (.string T)) := d4
 have HT2 : Hid (LAt (w1.drewN m).drew p q o n s false) := HL1.out
 have HB3 : Hid (Below w.heap.size w (w1.drewN m).drew) := HB2.out.drew
 clear d4 c0 c5
 generalize hNT : ((T ++ f).size + 254) / 255 = nt at *
 generalize hOT : o + s.size / 255 = ot at *
 clear hNT hOT
 generalize hX : T ++ f = X at *
 have HX := hide hX
 clear hX
 generalize w1.drewN m = w2 at *
 go_region_held3 (fun z => z.cell? ⟨p,4,none⟩ = some (.string T))
   (first | (with_reducible exact D4.out) | ((with_reducible refine cellB hbT ?_); with_reducible assumption) | ((with_reducible refine cellLoc hlay HPF.out ?_); with_reducible assumption) | ((with_reducible refine cellAl ?_ _); with_reducible assumption))
   (first
     | (go_at_call 196; refine (HTo.out _ HT2.out).mono ?_; rintro e w5 ⟨rfl,hbT⟩; have HB5 := hide (bnext HB3.out hbT))
     | (go_at_call_of 106 (Value.string T); refine (blocks_any T _).mono ?_; rintro e w6 ⟨rfl,rfl⟩)
     | (go_at_call_of 106 (Value.string X); refine (blocks_any X _).mono ?_; rintro e w6 ⟨rfl,rfl⟩)
     | (go_at_call 159; refine (HLy.out _ HB5.out).mono ?_; rintro e w7 ⟨⟨bb,rfl⟩,F7,hd7,hlay⟩))
 have hLd := Laid.mk' HLt.out HPF.out HB5.out hd7 hlay
 have HLd := hide hLd
 have e3 := hLd.log.c3
 have f3 := hLd.log.free 3
 clear hd7 hlay hbT hLd
 go_wp2_with fail
 refine (HTl.out _).mono ?_
 rintro e w8 ⟨rfl,hb8⟩
 have e8 : w8.cell? ⟨p,4,none⟩ = some (.string (tailOf s)) /\ w8.frozen? ⟨p,4,none⟩ = false := HLd.out.at8 hb8
 obtain ⟨e4,f4⟩ := e8
 have HB8 := hide hb8
 clear hb8
 go_wp2
 go_ret
 refine Laid.done HLd.out HB8.out ?_ ?_
 · exact HSA.out
 · exact HTA.out
set_option maxRecDepth 10000 in
set_option maxHeartbeats 4000000 in
theorem append_err (p q o n : Nat) (s t : ByteArray) (st : St) (F : Nat -> Prop) (w : World) (hL : LAt w p q o n s false) (hD : DAt w q st F) (hp : ¬ F p) (hok : st.Ok) (hlo : st.loose.length + n <= 10000) (ho : o + n <= 4096) (ht : t.size <= 65536) (hn : n <= 200) (hs : s.size <= n * 255) (hfit : s.size + (t.size + 8) <= n * 255) (hput : (puts o (prs n (blkOf s) (blkOf (s ++ frm t))) 0 st).1 ≠ 0) :
   Calls Tryz.prog 192 #[.pointer (some ⟨p,0,none⟩),.string t] w (Apd p q o n s true (puts o (prs n (blkOf s) (blkOf (s ++ frm t))) 0 st).2 F w (((puts o (prs n (blkOf s) (blkOf (s ++ frm t))) 0 st).1 : Nat) : Int)) := by
 have c0 := hL.c0
 have c5 := hL.c5
 have hfs := frm_size t
 have hts := tail_size s
 have KF := hide (frame_any t w ht)
 have hz : ¬ ((n : Int) * 255 - (s.size : Int) < ((frm t).size : Int)) := by omega
 have hcat : ¬ (9223372036854775807 < (tailOf s).size + (frm t).size) := by omega
 have HLt := hide hL
 have HRm := hide (fun u (hu : LAt u p q o n s false) => room_any p q o n s false u hu (by omega) hs)
 have HTo := hide (fun u (hu : LAt u p q o n s false) => touched_any p q o n s (tailOf s ++ frm t) false u hu (by omega) (by omega) (by rw [ByteArray.size_append]; omega))
 have HLy := hide (fun u (hu : Below w.heap.size w u) => append_lay q o n s (frm t) st F w u hD hok hlo ho (by omega) hu)
 have HTl := hide (fun u => tail_any (tailOf s ++ frm t) u (by rw [ByteArray.size_append]; omega))
 have hD0 := hD
 have HPF := hide hp
 have HTA := hide (tail_app s (frm t))
 have hsum : wrap64 ((s.size : Int) + ((frm t).size : Int)) = ((s.size + (frm t).size : Nat) : Int) := by unfold wrap64; omega
 have HSA : Hid ((s ++ frm t).size = s.size + (frm t).size) := ByteArray.size_append
 have HDD := hide hD
 have hez : ¬ ((((puts o (prs n (blkOf s) (blkOf (s ++ frm t))) 0 st).1 : Nat) : Int) = 0) := by omega
 have HPU := hide hput
 
 clear hL hD hp hok hlo ho ht hn hs hfit hput hfs hts hD0
 generalize puts o (prs n (blkOf s) (blkOf (s ++ frm t))) 0 st = P at *
 generalize hTs : tailOf s = T at *
 generalize hsf : s ++ frm t = SF at *
 generalize frm t = f at *
 have HTs := hide hTs
 have HSf := hide hsf
 clear hTs hsf
 go_enter Tryz.func192,Tryz.ntmps192
 go_wp2_with fail
 refine KF.out.mono ?_
 rintro e w1 ⟨rfl,hb1⟩
 have hL1 : LAt w1 p q o n s false := HLt.out.same (hb1.block p HLt.out.lt)
 have d4 := hL1.c4
 rw [HTs.out] at d4
 have KR := hide (HRm.out w1 hL1)
 have HL1 := hide hL1
 have HB1 := hide hb1
 clear hL1 hb1
 go_wp2_with fail
 refine KR.out.mono ?_
 rintro e w2 ⟨rfl,m,rfl⟩
 go_wp2_with fail
 have HB2 := hide (below_drewN HB1.out m)
 have D4 : Hid ((w1.drewN m).drew.cell? ⟨p,4,none⟩ = some (.string T)) := d4
 have HT2 : Hid (LAt (w1.drewN m).drew p q o n s false) := HL1.out
 have HB3 : Hid (Below w.heap.size w (w1.drewN m).drew) := HB2.out.drew
 clear d4 c0 c5
 generalize hNT : ((T ++ f).size + 254) / 255 = nt at *
 generalize hOT : o + s.size / 255 = ot at *
 clear hNT hOT
 generalize hX : T ++ f = X at *
 have HX := hide hX
 clear hX
 generalize w1.drewN m = w2 at *
 go_region_held3 (fun z => z.cell? ⟨p,4,none⟩ = some (.string T))
   (first | (with_reducible exact D4.out) | ((with_reducible refine cellB hbT ?_); with_reducible assumption) | ((with_reducible refine cellLoc hlay HPF.out ?_); with_reducible assumption) | ((with_reducible refine cellAl ?_ _); with_reducible assumption))
   (first
     | (go_at_call 196; refine (HTo.out _ HT2.out).mono ?_; rintro e w5 ⟨rfl,hbT⟩; have HB5 := hide (bnext HB3.out hbT))
     | (go_at_call_of 106 (Value.string T); refine (blocks_any T _).mono ?_; rintro e w6 ⟨rfl,rfl⟩)
     | (go_at_call_of 106 (Value.string X); refine (blocks_any X _).mono ?_; rintro e w6 ⟨rfl,rfl⟩)
     | (go_at_call 159; refine (HLy.out _ HB5.out).mono ?_; rintro e w7 ⟨⟨bb,rfl⟩,F7,hd7,hlay⟩))
 have hLd := Laid.mk' HLt.out HPF.out HB5.out hd7 hlay
 have HLd := hide hLd
 have e5 := hLd.log.c5
 have f5 := hLd.log.free 5
 clear hd7 hlay hbT hLd
 go_wp2
 go_ret
 exact HLd.out.broken _
end Go.Proofs.YtchhojkhfdkhfaaGreatDoor
namespace Go.Proofs.YtchhojkhfdkhfaaGreatDoor
open Go Go.RowKit Frm Go.Shelf
def Opened (q o N : Nat) (r : (Nat × ByteArray × List ByteArray) × St) (F : Nat -> Prop) (w : World) (e : Ending) (w' : World) : Prop :=
 (r.1.1 = 0 /\ HasLog q o N r.1.2.1 r.1.2.2 r.2 F w e w') \/ (r.1.1 ≠ 0 /\ NoLog q r.2 F w ((r.1.1 : Nat) : Int) e w')
theorem pOpen (q o N : Nat) (st : St) (F : Nat -> Prop) (w : World) (hD : DAt w q st F) (hok : st.Ok) (hl : st.loose.length + N + N <= 10000) (hN : o + N <= st.sure.length) (h1 : 1 <= N) (hN2 : N <= 200) :
   Calls Tryz.prog 85 #[.pointer (some ⟨q,0,none⟩),.int .i64 (o : Int),.int .i64 (N : Int)] w (Opened q o N (walOpen st o N) F w) := by
 rw [walOpen_eq]
 by_cases h0 : st.left = 0
 · rw [if_pos h0]
   exact (open_down q o N st F w hD hok hl hN h1 hN2 h0).mono (fun e w' h => Or.inr ⟨by simp,h⟩)
 · rw [if_neg h0]
   by_cases hx : (scn (streamOf (reads st o N))).2.2 = 41 \/ (scn (streamOf (reads st o N))).2.2 = 4
   · rw [if_pos hx]
     rcases hx with hx | hx
     · exact (open_bad41 q o N st F w hD hok hl hN h1 hN2 h0 hx).mono (fun e w' h => Or.inr ⟨by simp,h⟩)
     · exact (open_bad4 q o N st F w hD hok hl hN h1 hN2 h0 hx).mono (fun e w' h => Or.inr ⟨by simp,h⟩)
   · rw [if_neg hx]
     by_cases hm : (mended o N (fun i => st.at (o + i)) (kept (reads st o N)) st).1 = 0
     · rw [if_neg (by rw [hm]; simp)]
       exact (open_ok q o N st F w hD hok hl hN h1 hN2 h0 (fun e => hx (Or.inl e)) (fun e => hx (Or.inr e)) hm).mono (fun e w' h => Or.inl ⟨rfl,h⟩)
     · rw [if_pos hm]
       exact (open_err q o N st F w hD hok hl hN h1 hN2 h0 (fun e => hx (Or.inl e)) (fun e => hx (Or.inr e)) hm).mono (fun e w' h => Or.inr ⟨hm,h⟩)
def brk (st : St) (o n : Nat) (s t : ByteArray) : Bool := decide (t.size <= 65536 /\ s.size + (t.size + 8) <= n * 255 /\ (puts o (prs n (blkOf s) (blkOf (s ++ frm t))) 0 st).1 ≠ 0)
theorem pAppend (p q o n : Nat) (s t : ByteArray) (st : St) (F : Nat -> Prop) (w : World) (hL : LAt w p q o n s false) (hD : DAt w q st F) (hp : ¬ F p) (hok : st.Ok) (hlo : st.loose.length + n <= 10000) (ho : o + n <= 4096) (hn : n <= 200) (hs : s.size <= n * 255) (ht : t.size <= maxLen) :
   Calls Tryz.prog 192 #[.pointer (some ⟨p,0,none⟩),.string t] w (Apd p q o n (walAppend st o n s t).2.1 (brk st o n s t) (walAppend st o n s t).2.2 F w (((walAppend st o n s t).1 : Nat) : Int)) := by
 unfold walAppend brk
 by_cases h1 : 65536 < t.size
 · rw [if_pos h1,decide_eq_false (fun h => by omega)]
   exact append_long' p q o n s t st F w hL hD hp h1 ht
 · rw [if_neg h1]
   by_cases h2 : n * 255 < s.size + (t.size + 8)
   · rw [if_pos h2,decide_eq_false (fun h => by omega)]
     exact append_full' p q o n s t st F w hL hD hp (by omega) hn hs h2
   · rw [if_neg h2]
     by_cases h3 : (puts o (prs n (blkOf s) (blkOf (s ++ frm t))) 0 st).1 = 0
     · rw [if_neg (by rw [h3]; simp),decide_eq_false (fun h => h.2.2 h3)]
       exact append_ok p q o n s t st F w hL hD hp hok hlo ho (by omega) hn hs (by omega) h3
     · rw [if_pos h3,decide_eq_true ⟨by omega,by omega,h3⟩]
       exact append_err p q o n s t st F w hL hD hp hok hlo ho (by omega) hn hs (by omega) h3
end Go.Proofs.YtchhojkhfdkhfaaGreatDoor
namespace Go.Proofs.YtchhojkhfdkhfaaGreatDoor
open Go Go.RowKit Frm
theorem RLAt.c0 {u : World} {p q o n : Nat} {s : ByteArray} {b : Bool} (h : RLAt u p q o n s b) : u.cell? ⟨p,0,none⟩ = some (.pointer (some ⟨q,0,none⟩)) := by simp [World.cell?,show u.heap[p]? = _ from h]
theorem RLAt.c1 {u : World} {p q o n : Nat} {s : ByteArray} {b : Bool} (h : RLAt u p q o n s b) : u.cell? ⟨p,1,none⟩ = some (.int .i64 (o : Int)) := by simp [World.cell?,show u.heap[p]? = _ from h]
theorem RLAt.c2 {u : World} {p q o n : Nat} {s : ByteArray} {b : Bool} (h : RLAt u p q o n s b) : u.cell? ⟨p,2,none⟩ = some (.int .i64 (n : Int)) := by simp [World.cell?,show u.heap[p]? = _ from h]
theorem RLAt.c3 {u : World} {p q o n : Nat} {s : ByteArray} {b : Bool} (h : RLAt u p q o n s b) : u.cell? ⟨p,3,none⟩ = some (.string s) := by simp [World.cell?,show u.heap[p]? = _ from h]
theorem RLAt.c4 {u : World} {p q o n : Nat} {s : ByteArray} {b : Bool} (h : RLAt u p q o n s b) : u.cell? ⟨p,4,none⟩ = some (.bool b) := by simp [World.cell?,show u.heap[p]? = _ from h]
theorem RLAt.free {u : World} {p q o n : Nat} {s : ByteArray} {b : Bool} (h : RLAt u p q o n s b) (i : Nat) : u.frozen? ⟨p,i,none⟩ = false := by simp [World.frozen?,show u.heap[p]? = _ from h]
def RApd (p q o n : Nat) (s : ByteArray) (b : Bool) (st : St) (F : Nat -> Prop) (w : World) (x : Int) (e : Ending) (w' : World) : Prop :=
 e = .returned (.int .i64 x) /\ RLAt w' p q o n s b /\ ∃ F',RD w' q st F' /\ Loc (fun k => F k \/ k = p) (fun k => F' k \/ k = p) w w' /\ ¬ F' p
theorem RApd.same {p q o n : Nat} {s : ByteArray} {b : Bool} {st : St} {F : Nat -> Prop} {w w' : World} {x : Int} (hL : RLAt w p q o n s b) (hD : RD w q st F) (hp : ¬ F p) (hb : Below w.heap.size w w') : RApd p q o n s b st F w x (.returned (.int .i64 x)) w' :=
 ⟨rfl,hL.same (hb.block p hL.lt),F,hD.below hb,Loc.of_below _ hb,hp⟩
set_option maxRecDepth 10000 in
set_option maxHeartbeats 1000000 in
theorem rAppend_full (p q o n : Nat) (s t : ByteArray) (st : St) (F : Nat -> Prop) (w : World) (hL : RLAt w p q o n s false) (hD : RD w q st F) (hp : ¬ F p) (ht : t.size <= 65536) (hn : n <= 200) (hs : s.size <= n * 255) (hfit : n * 255 < s.size + (t.size + 8)) :
   Calls Tryz.prog 102 #[.pointer (some ⟨p,0,none⟩),.string t] w (RApd p q o n s false st F w 6) := by
 have h4 := hL.c4
 have KF := hide (refFrame_any t w ht)
 have HE : Hid (∀ u,Below w.heap.size w u -> RApd p q o n s false st F w 6 (.returned (.int .i64 6)) u) := fun u hb => RApd.same hL hD hp hb
 have HC : Hid (∀ u,Below w.heap.size w u -> u.cell? ⟨p,2,none⟩ = some (.int .i64 (n : Int)) /\ u.cell? ⟨p,3,none⟩ = some (.string s)) := fun u hb => ⟨cellB hb hL.c2,cellB hb hL.c3⟩
 have hfs := frm_size t
 have hmul : IntKind.i64.wrap ((n : Int) * 255) = (n : Int) * 255 := by rw [IntKind.wrap_i64]; omega
 have hadd : IntKind.i64.wrap ((s.size : Int) + ((frm t).size : Int)) = (s.size : Int) + ((frm t).size : Int) := by rw [hfs,IntKind.wrap_i64]; omega
 have hgt : (n : Int) * 255 < (s.size : Int) + ((frm t).size : Int) := by rw [hfs]; omega
 clear hL hD hp hfs hfit hs ht
 generalize frm t = f at *
 go_enter Tryz.func102,Tryz.ntmps102
 go_wp2_with fail
 refine KF.out.mono ?_
 rintro e u ⟨rfl,hb⟩
 obtain ⟨h2,h3⟩ := HC.out u hb
 have HB := hide hb
 clear hb
 go_wp2_with fail
 go_quiet (fail)
 have HB2 := hide (below_drewN HB.out nq)
 generalize u.drewN nq = u2 at *
 go_wp2
 go_ret
 exact HE.out _ HB2.out
structure RMid (w : World) (p q o n : Nat) (s : ByteArray) (a b : Nat -> ByteArray) (st : St) (F : Nat -> Prop) (k : Nat) (cur : St) (F' : Nat -> Prop) (u : World) : Prop where
 puts : puts o (prs k a b) 0 st = (0,cur)
 disk : RD u q cur F'
 loc : Loc F F' w u
 log : RLAt u p q o n s false
 notp : ¬ F' p
theorem RMid.keep {w : World} {p q o n : Nat} {s : ByteArray} {a b : Nat -> ByteArray} {st : St} {F : Nat -> Prop} {k : Nat} {cur : St} {F' : Nat -> Prop} {u v : World} (h : RMid w p q o n s a b st F k cur F' u) (hb : Below u.heap.size u v) : RMid w p q o n s a b st F k cur F' v :=
 ⟨h.puts,h.disk.below hb,h.loc.trans (Loc.of_below _ hb),h.log.same (hb.block p h.log.lt),h.notp⟩
theorem RMid.c3 {w : World} {p q o n : Nat} {s : ByteArray} {a b : Nat -> ByteArray} {st : St} {F : Nat -> Prop} {k : Nat} {cur : St} {F' : Nat -> Prop} {u : World} (h : RMid w p q o n s a b st F k cur F' u) : u.cell? ⟨p,3,none⟩ = some (.string s) := h.log.c3
theorem RMid.cells {w : World} {p q o n : Nat} {s : ByteArray} {a b : Nat -> ByteArray} {st : St} {F : Nat -> Prop} {k : Nat} {cur : St} {F' : Nat -> Prop} {u : World} (h : RMid w p q o n s a b st F k cur F' u) : u.cell? ⟨p,0,none⟩ = some (.pointer (some ⟨q,0,none⟩)) /\ u.cell? ⟨p,1,none⟩ = some (.int .i64 (o : Int)) /\ u.cell? ⟨p,2,none⟩ = some (.int .i64 (n : Int)) /\ u.cell? ⟨p,3,none⟩ = some (.string s) := ⟨h.log.c0,h.log.c1,h.log.c2,h.log.c3⟩
theorem RMid.c01 {w : World} {p q o n : Nat} {s : ByteArray} {a b : Nat -> ByteArray} {st : St} {F : Nat -> Prop} {k : Nat} {cur : St} {F' : Nat -> Prop} {u : World} (h : RMid w p q o n s a b st F k cur F' u) : u.cell? ⟨p,0,none⟩ = some (.pointer (some ⟨q,0,none⟩)) /\ u.cell? ⟨p,1,none⟩ = some (.int .i64 (o : Int)) := ⟨h.log.c0,h.log.c1⟩
structure RAft (w : World) (p q o n : Nat) (s : ByteArray) (st' : St) (F F' : Nat -> Prop) (u : World) : Prop where
 disk : RD u q st' F'
 loc : Loc F F' w u
 log : RLAt u p q o n s false
 notp : ¬ F' p
theorem RAft.c01 {w : World} {p q o n : Nat} {s : ByteArray} {st' : St} {F F' : Nat -> Prop} {u : World} (h : RAft w p q o n s st' F F' u) : u.cell? ⟨p,0,none⟩ = some (.pointer (some ⟨q,0,none⟩)) /\ u.cell? ⟨p,1,none⟩ = some (.int .i64 (o : Int)) := ⟨h.log.c0,h.log.c1⟩
theorem mid_write {w : World} {p q o n : Nat} {s : ByteArray} {a b : Nat -> ByteArray} {st : St} {F : Nat -> Prop} {k : Nat} {cur : St} {F' : Nat -> Prop} {u : World} (t : ByteArray) (h : RMid w p q o n s a b st F k cur F' u) (hok : cur.Ok) (hl : cur.loose.length <= 10000) :
   Calls Tryz.prog 35 #[.pointer (some ⟨q,0,none⟩),.int .i64 ((o + k : Nat) : Int),.string t] u fun e v => e = .returned (.int .i64 (((cur.write ((o + k : Nat) : Int) t).1 : Nat) : Int)) /\ ∃ F2,RAft w p q o n s (cur.write ((o + k : Nat) : Int) t).2 F F2 v := by
 refine (rd_write q cur F' ((o + k : Nat) : Int) t u h.disk hok (by omega)).mono ?_
 rintro e v ⟨rfl,F2,hd,hl2⟩
 refine ⟨rfl,F2,hd,h.loc.trans hl2,h.log.same (hl2.block p h.log.lt h.notp),fun hf => ?_⟩
 rcases hl2.own p hf with h1 | h1
 · exact h.notp h1
 · have := h.log.lt; omega
theorem RAft.broken {w : World} {p q o n : Nat} {s : ByteArray} {st' : St} {F F' : Nat -> Prop} {u : World} (h : RAft w p q o n s st' F F' u) (x : Int) : RApd p q o n s true st' F w x (.returned (.int .i64 x)) (u.setCell ⟨p,4,none⟩ (.bool true)) := by
 refine ⟨rfl,?_,F',h.disk.same (fun k hk => Below.heap_setCell u _ _ k (fun e => h.notp (by rw [show k = p from e] at hk; exact hk))),(h.loc.or (P := fun k => k = p)).trans (Loc.setCell u ⟨p,4,none⟩ _ (Or.inr rfl)),h.notp⟩
 exact heap_set3 (i := 4) h.log (.bool true)
theorem RMid.done {w : World} {p q o n : Nat} {s : ByteArray} {a b : Nat -> ByteArray} {st : St} {F : Nat -> Prop} {k : Nat} {cur : St} {F' : Nat -> Prop} {u : World} (h : RMid w p q o n s a b st F k cur F' u) (sf : ByteArray) : RApd p q o n sf false cur F w 0 (.returned (.int .i64 0)) (u.setCell ⟨p,3,none⟩ (.string sf)) := by
 refine ⟨rfl,?_,F',h.disk.same (fun k hk => Below.heap_setCell u _ _ k (fun e => h.notp (by rw [show k = p from e] at hk; exact hk))),(h.loc.or (P := fun k => k = p)).trans (Loc.setCell u ⟨p,3,none⟩ _ (Or.inr rfl)),h.notp⟩
 exact heap_set3 (i := 3) h.log (.string sf)
set_option maxRecDepth 10000 in
set_option maxHeartbeats 4000000 in
theorem rAppend_fits (p q o n : Nat) (s t : ByteArray) (st : St) (F : Nat -> Prop) (w : World) (R : Nat × St) (hR : R = puts o (prs n (blkOf s) (blkOf (s ++ frm t))) 0 st) (s' : ByteArray) (b' : Bool) (hs0 : R.1 = 0 -> s' = s ++ frm t /\ b' = false) (hs1 : R.1 ≠ 0 -> s' = s /\ b' = true) (hL : RLAt w p q o n s false) (hD : RD w q st F) (hp : ¬ F p) (hok : st.Ok) (hlo : st.loose.length + n <= 10000) (ho : o + n <= 4096) (ht : t.size <= 65536) (hn : n <= 200) (hs : s.size <= n * 255) (hfit : s.size + (t.size + 8) <= n * 255) :
   Calls Tryz.prog 102 #[.pointer (some ⟨p,0,none⟩),.string t] w (RApd p q o n s' b' R.2 F w ((R.1 : Nat) : Int)) := by
 have h4 := hL.c4
 have KF := hide (refFrame_any t w ht)
 have hfs := frm_size t
 have hmul : IntKind.i64.wrap ((n : Int) * 255) = (n : Int) * 255 := by rw [IntKind.wrap_i64]; omega
 have hadd : IntKind.i64.wrap ((s.size : Int) + ((frm t).size : Int)) = (s.size : Int) + ((frm t).size : Int) := by rw [hfs,IntKind.wrap_i64]; omega
 have hgt : ¬ ((n : Int) * 255 < (s.size : Int) + ((frm t).size : Int)) := by rw [hfs]; omega
 have HSf : Hid ((s ++ frm t).size <= 281474976710656) := by show _ <= _; rw [ByteArray.size_append,hfs]; omega
 have hmax : s.size + (frm t).size <= maxLen := by rw [hfs]; unfold maxLen; omega
 have HSs : Hid (s.size <= 281474976710656) := by show _ <= _; omega
 have HM0 : Hid (∀ u,Below w.heap.size w u -> RMid w p q o n s (blkOf s) (blkOf (s ++ frm t)) st F 0 st F u) := fun u hb => ⟨rfl,hD.below hb,Loc.of_below _ hb,hL.same (hb.block p hL.lt),hp⟩
 have HRes : Hid (∀ k,k <= n -> (puts o (prs k (blkOf s) (blkOf (s ++ frm t))) 0 st).1 ≠ 0 -> R = puts o (prs k (blkOf s) (blkOf (s ++ frm t))) 0 st) := fun k hk h => by rw [hR]; exact puts_stop hk h
 have HEnd : Hid (∀ cur,puts o (prs n (blkOf s) (blkOf (s ++ frm t))) 0 st = (0,cur) -> R = (0,cur)) := fun cur h => by rw [hR]; exact h
 have HOkk : Hid (∀ k cur,k <= n -> puts o (prs k (blkOf s) (blkOf (s ++ frm t))) 0 st = (0,cur) -> cur.Ok /\ cur.loose.length <= 10000) := fun k cur hk h => by
   have h1 := lay_len o k (blkOf s) (blkOf (s ++ frm t)) st hok
   rw [h] at h1
   exact ⟨h1.1,by have h2 : cur.loose.length <= st.loose.length + k := h1.2; omega⟩
 have HC : Hid (∀ u,Below w.heap.size w u -> u.cell? ⟨p,2,none⟩ = some (.int .i64 (n : Int)) /\ u.cell? ⟨p,3,none⟩ = some (.string s)) := fun u hb => ⟨cellB hb hL.c2,cellB hb hL.c3⟩
 have KB1 := hide (fun k u (hk : k <= 4096) => rBlock_any (s ++ frm t) k u hk HSf.out)
 have KB2 := hide (fun k u (hk : k <= 4096) => rBlock_any s k u hk HSs.out)
 have HP := hide hp
 have HS0 := hide hs0
 have HS1 := hide hs1
 clear hL hD hp hfs hfit hs ht hR hok hlo hs0 hs1
 generalize hsf : s ++ frm t = sf at *
 have HSF := hide hsf
 clear hsf
 generalize frm t = f at *
 go_enter Tryz.func102,Tryz.ntmps102
 go_wp2_with fail
 refine KF.out.mono ?_
 rintro e u ⟨rfl,hb⟩
 obtain ⟨h2,h3⟩ := HC.out u hb
 have HB := hide hb
 clear hb
 go_wp2_with fail
 go_quiet (fail)
 have HB2 := hide (below_drewN HB.out nq)
 generalize u.drewN nq = u2 at *
 obtain ⟨h2',h3'⟩ := HC.out u2 HB2.out
 have HMd := hide (HM0.out u2 HB2.out)
 clear hadd hmul h2 h3 KF HC HM0
 go_wp2_with fail
 rw [HSF.out]
 clear hgt hmax h2' h3' h4
 go_loopw [8,9] (fun i _ u => ∃ (k : Nat) (cur : St) (F' : Nat -> Prop),k <= n /\ i = .int .i64 (k : Int) /\ RMid w p q o n s (blkOf s) (blkOf sf) st F k cur F' u) (fun i _ _ => n - (intOf i).toNat)
 case atStart => exact ⟨0,st,F,Nat.zero_le _,rfl,HMd.out⟩
 case round =>
   obtain ⟨k,cur,F',hk,rfl,hm⟩ := hrel
   obtain ⟨d0,d1,d2,d3⟩ := hm.cells
   have HM := hide hm
   clear hm
   by_cases hlt : k < n
   · have hz : (k : Int) < (n : Int) := by omega
     have KBa := hide (fun u => KB1.out k u (by omega))
     have KBb := hide (fun u => KB2.out k u (by omega))
     have HPN := hide (puts_next HM.out.puts)
     have HCo := hide (HOkk.out k cur hk HM.out.puts)
     generalize blkOf sf k = tb at *
     generalize blkOf s k = ta at *
     by_cases hab : ta = tb
     · have HP2 : Hid (puts o (prs (k + 1) (blkOf s) (blkOf sf)) 0 st = (0,cur)) := by
         have := HPN.out
         rw [if_pos hab] at this
         exact this
       subst hab
       go_wp2_with fail
       have K := HM.out.keep ((Below.refl _ _).drew)
       go_region_held3 (fun z => z.cell? ⟨p,3,none⟩ = some (.string s))
         ((with_reducible exact RMid.c3 K))
         (first
           | (go_at_call_of 95 (Value.string sf); refine (KBa.out _).mono ?_; rintro e z1 ⟨rfl,hb1⟩; have K := RMid.keep K hb1)
           | (go_at_call_of 95 (Value.string s); refine (KBb.out _).mono ?_; rintro e z1 ⟨rfl,hb1⟩; have K := RMid.keep K hb1))
       all_goals
         have HK := hide K
         clear K
         go_wp2
         go_roundw
         case rel => exact ⟨k + 1,cur,F',hlt,by go_num,⟨HP2.out,HK.out.disk,HK.out.loc,HK.out.log,HK.out.notp⟩⟩
         case measure => simp [intOf]; omega
     · have hne : (tb.toList == ta.toList) = false := toList_ne (fun e => hab e.symm)
       have hw : IntKind.i64.wrap ((o : Int) + (k : Int)) = ((o + k : Nat) : Int) := by rw [IntKind.wrap_i64]; omega
       have HP2 : Hid (puts o (prs (k + 1) (blkOf s) (blkOf sf)) 0 st = cur.write ((o + k : Nat) : Int) tb) := by
         have := HPN.out
         rw [if_neg hab] at this
         exact this
       have HW := hide hw
       clear hw
       have KW := hide (fun z (hm : RMid w p q o n s (blkOf s) (blkOf sf) st F k cur F' z) => mid_write tb hm HCo.out.1 HCo.out.2)
       generalize cur.write ((o + k : Nat) : Int) tb = X at *
       by_cases he : X.1 = 0
       · have HP3 : Hid (puts o (prs (k + 1) (blkOf s) (blkOf sf)) 0 st = (0,X.2)) := HP2.out.trans (Prod.ext he rfl)
         rw [he] at KW
         clear he
         go_wp2_with fail
         have K := HM.out.keep ((Below.refl _ _).drew)
         go_region_held3 (fun z => z.cell? ⟨p,3,none⟩ = some (.string s))
           ((with_reducible exact RMid.c3 K))
           (first
             | (go_at_call_of 95 (Value.string sf); refine (KBa.out _).mono ?_; rintro e z1 ⟨rfl,hb1⟩; have K := RMid.keep K hb1)
             | (go_at_call_of 95 (Value.string s); refine (KBb.out _).mono ?_; rintro e z1 ⟨rfl,hb1⟩; have K := RMid.keep K hb1))
         all_goals
           have HK := hide K
           clear K
           have hw := HW.out
           go_wp2_with fail
           have K := HK.out.keep ((Below.refl _ _).drew)
           clear HK
           go_region_held3 (fun z => z.cell? ⟨p,0,none⟩ = some (.pointer (some ⟨q,0,none⟩)) /\ z.cell? ⟨p,1,none⟩ = some (.int .i64 (o : Int)))
             ((first | (with_reducible exact RMid.c01 K) | (with_reducible exact RAft.c01 K)))
             (first
               | (go_at_call 95; refine (KBa.out _).mono ?_; rintro e z1 ⟨rfl,hb1⟩; have K := RMid.keep K hb1)
               | (go_at_call 35; refine (KW.out _ K).mono ?_; rintro e z2 ⟨rfl,F2,K⟩))
           all_goals
             have HK := hide K
             clear K
             go_wp2
             go_roundw
             case rel => exact ⟨k + 1,X.2,F2,hlt,by go_num,⟨HP3.out,HK.out.disk,HK.out.loc,HK.out.log,HK.out.notp⟩⟩
             case measure => simp [intOf]; omega
       · have hez : ¬ (((X.1 : Nat) : Int) = 0) := by omega
         have HRe : Hid (R = X) := (HRes.out (k + 1) hlt (by rw [HP2.out]; exact he)).trans HP2.out
         have HSe := hide (HS1.out (by rw [HRe.out]; exact he))
         go_wp2_with fail
         have K := HM.out.keep ((Below.refl _ _).drew)
         go_region_held3 (fun z => z.cell? ⟨p,3,none⟩ = some (.string s))
           ((with_reducible exact RMid.c3 K))
           (first
             | (go_at_call_of 95 (Value.string sf); refine (KBa.out _).mono ?_; rintro e z1 ⟨rfl,hb1⟩; have K := RMid.keep K hb1)
             | (go_at_call_of 95 (Value.string s); refine (KBb.out _).mono ?_; rintro e z1 ⟨rfl,hb1⟩; have K := RMid.keep K hb1))
         all_goals
           have HK := hide K
           clear K
           have hw := HW.out
           go_wp2_with fail
           have K := HK.out.keep ((Below.refl _ _).drew)
           clear HK
           go_region_held3 (fun z => z.cell? ⟨p,0,none⟩ = some (.pointer (some ⟨q,0,none⟩)) /\ z.cell? ⟨p,1,none⟩ = some (.int .i64 (o : Int)))
             ((first | (with_reducible exact RMid.c01 K) | (with_reducible exact RAft.c01 K)))
             (first
               | (go_at_call 95; refine (KBa.out _).mono ?_; rintro e z1 ⟨rfl,hb1⟩; have K := RMid.keep K hb1)
               | (go_at_call 35; refine (KW.out _ K).mono ?_; rintro e z2 ⟨rfl,F2,K⟩))
           all_goals
             have HK := hide K
             have d4 := K.log.c4
             have df4 := K.log.free 4
             clear K
             go_wp2
             go_ret
             rw [HRe.out,HSe.out.1,HSe.out.2]
             exact HK.out.broken _
   · have hkN : k = n := by omega
     subst hkN
     have HRe := hide (HEnd.out cur HM.out.puts)
     have HSe := hide (HS0.out (by rw [HRe.out]))
     have df3 := HM.out.log.free 3
     clear HEnd HRes HS0 HS1
     go_wp2
     go_ret
     rw [HRe.out,HSe.out.1,HSe.out.2]
     exact HM.out.done sf
theorem pRAppend (p q o n : Nat) (s t : ByteArray) (st : St) (F : Nat -> Prop) (w : World) (hL : RLAt w p q o n s false) (hD : RD w q st F) (hp : ¬ F p) (hok : st.Ok) (hlo : st.loose.length + n <= 10000) (ho : o + n <= 4096) (hn : n <= 200) (hs : s.size <= n * 255) (ht : t.size <= 65536) :
   Calls Tryz.prog 102 #[.pointer (some ⟨p,0,none⟩),.string t] w (RApd p q o n (walAppend st o n s t).2.1 (brk st o n s t) (walAppend st o n s t).2.2 F w (((walAppend st o n s t).1 : Nat) : Int)) := by
 unfold walAppend brk
 rw [if_neg (by omega)]
 by_cases h2 : n * 255 < s.size + (t.size + 8)
 · rw [if_pos h2,decide_eq_false (fun h => by omega)]
   exact rAppend_full p q o n s t st F w hL hD hp ht hn hs h2
 · rw [if_neg h2]
   by_cases h3 : (puts o (prs n (blkOf s) (blkOf (s ++ frm t))) 0 st).1 = 0
   · rw [if_neg (by rw [h3]; simp),decide_eq_false (fun h => h.2.2 h3)]
     have := rAppend_fits p q o n s t st F w _ rfl (s ++ frm t) false (fun _ => ⟨rfl,rfl⟩) (fun h => absurd h3 h) hL hD hp hok hlo ho ht hn hs (by omega)
     rw [h3] at this
     exact this
   · rw [if_pos h3,decide_eq_true ⟨by omega,by omega,h3⟩]
     exact rAppend_fits p q o n s t st F w _ rfl s true (fun h => absurd h h3) (fun _ => ⟨rfl,rfl⟩) hL hD hp hok hlo ho ht hn hs (by omega)
end Go.Proofs.YtchhojkhfdkhfaaGreatDoor
