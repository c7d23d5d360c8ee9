/- Joined texts. -/
import Derived.Test.YtchhojkhfdkhfaaGreatDoorP11
import Derived.Test.YtchhojkhfdkhfaaGreatDoorP04
import Derived.Deep.MidRow
import Derived.Deep.WholeRow
import Derived.Laws.CopyRow
namespace Go.Proofs.YtchhojkhfdkhfaaGreatDoor
open Go Go.RowKit

abbrev DF (p : Nat) (vS vL : Value) (k : Nat) : Prop := RF p vS vL k
structure PAt (u : World) (p : Nat) (vS vL : Value) (x : Int) (st : St) : Prop where
 head : u.heap[p]? = some (.cells #[vS,vL,.int .i64 x] 76 (0,0))
 sure : u.ownsRow 0 90 256 vS st.sure.length (sc st.sure)
 loose : u.ownsRow 0 96 257 vL st.loose.length (lc st.loose)
 left : st.left = max x (-1)
 fit : -9223372036854775808 <= x /\ x <= 9223372036854775807
theorem PAt.lt {u : World} {p : Nat} {vS vL : Value} {x : Int} {st : St} (h : PAt u p vS vL x st) : ∀ k,DF p vS vL k -> k < u.heap.size := fun k hk => by
 rcases hk with rfl | h1 | h1
 · exact (Array.getElem?_eq_some_iff.1 h.head).1
 · exact own_lt h.sure h1
 · exact own_lt h.loose h1
theorem PAt.same {u v : World} {p : Nat} {vS vL : Value} {x : Int} {st : St} (h : PAt u p vS vL x st) (hb : ∀ k,DF p vS vL k -> v.heap[k]? = u.heap[k]?) : PAt v p vS vL x st :=
 ⟨(hb p (Or.inl rfl)).trans h.head,own_same h.sure (fun g hg => hb g (Or.inr (Or.inl hg))),own_same h.loose (fun g hg => hb g (Or.inr (Or.inr hg))),h.left,h.fit⟩
theorem PAt.below {u v : World} {p : Nat} {vS vL : Value} {x : Int} {st : St} (h : PAt u p vS vL x st) (hb : Below u.heap.size u v) : PAt v p vS vL x st := h.same (fun k hk => hb.block k (h.lt k hk))
theorem PAt.drew {u : World} {p : Nat} {vS vL : Value} {x : Int} {st : St} (h : PAt u p vS vL x st) : PAt u.drew p vS vL x st := h.same (fun _ _ => rfl)
theorem PAt.cell0 {u : World} {p : Nat} {vS vL : Value} {x : Int} {st : St} (h : PAt u p vS vL x st) : u.cell? ⟨p,0,none⟩ = some vS := by simp [World.cell?,h.head]
theorem PAt.cell1 {u : World} {p : Nat} {vS vL : Value} {x : Int} {st : St} (h : PAt u p vS vL x st) : u.cell? ⟨p,1,none⟩ = some vL := by simp [World.cell?,h.head]
theorem PAt.cell2 {u : World} {p : Nat} {vS vL : Value} {x : Int} {st : St} (h : PAt u p vS vL x st) : u.cell? ⟨p,2,none⟩ = some (.int .i64 x) := by simp [World.cell?,h.head]
theorem PAt.free {u : World} {p : Nat} {vS vL : Value} {x : Int} {st : St} (h : PAt u p vS vL x st) (i : Nat) : u.frozen? ⟨p,i,none⟩ = false := by simp [World.frozen?,h.head]
theorem PAt.ne0 {u : World} {p : Nat} {vS vL : Value} {x : Int} {st : St} (h : PAt u p vS vL x st) : vS.ownBlock ≠ some p := fun e => by
 obtain ⟨cur,hc⟩ := row_type h.sure e
 rw [h.head] at hc
 cases hc
theorem PAt.ne1 {u : World} {p : Nat} {vS vL : Value} {x : Int} {st : St} (h : PAt u p vS vL x st) : vL.ownBlock ≠ some p := fun e => by
 obtain ⟨cur,hc⟩ := row_type h.loose e
 rw [h.head] at hc
 cases hc
theorem PAt.ne2 {u : World} {p : Nat} {vS vL : Value} {x : Int} {st : St} (h : PAt u p vS vL x st) {g : Nat} (hS : vS.ownBlock = some g) : vL.ownBlock ≠ some g := fun e => by
 obtain ⟨cur,hc⟩ := row_type h.sure hS
 obtain ⟨cur2,hc2⟩ := row_type h.loose e
 rw [hc] at hc2
 cases hc2
theorem PAt.rowS {u : World} {p i : Nat} {vS vL v : Value} {x : Int} {st : St} (h : PAt u p vS vL x st) : (u.setCell ⟨p,i,none⟩ v).ownsRow 0 90 256 vS st.sure.length (sc st.sure) :=
 own_same h.sure (fun g hg => Below.heap_setCell u ⟨p,i,none⟩ v g (fun e => h.ne0 (by rw [<- show g = p from e]; exact hg)))
theorem PAt.rowL {u : World} {p i : Nat} {vS vL v : Value} {x : Int} {st : St} (h : PAt u p vS vL x st) : (u.setCell ⟨p,i,none⟩ v).ownsRow 0 96 257 vL st.loose.length (lc st.loose) :=
 own_same h.loose (fun g hg => Below.heap_setCell u ⟨p,i,none⟩ v g (fun e => h.ne1 (by rw [<- show g = p from e]; exact hg)))
theorem PAt.setLeft {u : World} {p : Nat} {vS vL : Value} {x : Int} {st : St} (h : PAt u p vS vL x st) (y : Int) (hy : -9223372036854775808 <= y /\ y <= 9223372036854775807) : PAt (u.setCell ⟨p,2,none⟩ (.int .i64 y)) p vS vL y ⟨st.sure,st.loose,max y (-1)⟩ :=
 ⟨by rw [heap_set3 h.head]; rfl,h.rowS,h.rowL,rfl,hy⟩
theorem PAt.nothing {u : World} {p : Nat} {vS vL : Value} {x : Int} {st : St} (h : PAt u p vS vL x st) : PAt (u.setCell ⟨p,1,none⟩ (.slice none 0 0)) p vS (.slice none 0 0) x ⟨st.sure,[],st.left⟩ /\ Loc (DF p vS vL) (DF p vS (.slice none 0 0)) u (u.setCell ⟨p,1,none⟩ (.slice none 0 0)) := by
 refine ⟨⟨by rw [heap_set3 h.head]; rfl,h.rowS,World.ownsRow_nil _ _ _ _,h.left,h.fit⟩,⟨rfl,rfl,rfl,by simp [World.setCell],fun j _ hF => Below.heap_setCell u ⟨p,1,none⟩ _ j (fun e => hF (Or.inl e)),fun j hj => ?_⟩⟩
 rcases hj with h1 | h1 | h1
 · exact Or.inl (Or.inl h1)
 · exact Or.inl (Or.inr (Or.inl h1))
 · cases h1
theorem range_of_row {w : World} {base : Nat} {e : TypeId} {size n g c : Nat} {xs : List Value} (h : w.ownsRow base e size (.slice (some ⟨g,0,none⟩) n c) n xs) (o : Nat) (cs : List Value) (hc : ∀ j (_ : j < cs.length),xs[o + j]? = cs[j]?) : w.rangeAt g o cs := fun j v hv => by
 have hj : j < cs.length := (List.getElem?_eq_some_iff.1 hv).1
 have hx : xs[o + j]? = some v := (hc j hj).trans hv
 have := World.ownsRow.cells h (g := g) rfl (o + j) v hx
 rw [add_at] at this
 exact this
theorem PAt.block {u : World} {p g n c : Nat} {vL : Value} {x : Int} {st : St} (h : PAt u p (.slice (some ⟨g,0,none⟩) n c) vL x st) (hn : n = st.sure.length) (hok : ∀ s ∈ st.sure,s.size = 256) (i : Nat) (hi : i < st.sure.length) : u.rangeAt g (i * 256) (tc st.sure[i]) := by
 subst hn
 refine range_of_row h.sure (i * 256) _ (fun j hj => sc_at st.sure hok i hi j ?_)
 rw [tc_length,hok _ (List.getElem_mem hi)] at hj
 exact hj
theorem PAt.write {u : World} {p g n c : Nat} {vS : Value} {x : Int} {st : St} (h : PAt u p vS (.slice (some ⟨g,0,none⟩) n c) x st) (hn : n = st.loose.length) (hok : ∀ w ∈ st.loose,w.2.size = 256) (i : Nat) (hi : i < st.loose.length) : u.rangeAt g (i * 257) (wc st.loose[i]) := by
 subst hn
 refine range_of_row h.loose (i * 257) _ (fun j hj => lc_at st.loose hok i hi j ?_)
 rw [wc_length _ (hok _ (List.getElem_mem hi))] at hj
 exact hj

set_option maxHeartbeats 400000 in
theorem pSize (p : Nat) (vS vL : Value) (x : Int) (st : St) (w : World) (h : PAt w p vS vL x st) :
   Calls Tryz.prog 58 #[.pointer (some ⟨p,0,none⟩)] w fun e w' => e = .returned (.int .i64 (st.sure.length : Int)) /\ w' = w := by
 obtain ⟨a,c,rfl,_⟩ := slice_of h.sure
 have hc := h.cell0
 clear h
 go_enter Tryz.func58,Tryz.ntmps58
 go_wp2
 go_ret
 exact ⟨rfl,rfl⟩
def faultOf (left : Int) : Int := if left = 0 then 50 else 0
set_option maxHeartbeats 400000 in
theorem pFault (p : Nat) (vS vL : Value) (x : Int) (st : St) (w : World) (h : PAt w p vS vL x st) (hok : st.Ok) :
   Calls Tryz.prog 86 #[.pointer (some ⟨p,0,none⟩)] w fun e w' => e = .returned (.int .i64 (faultOf st.left)) /\ w' = w := by
 have KS := hide (pSize p vS vL x st w h)
 have hc := h.cell2
 have h1 := hok.some
 have hz : ¬ ((st.sure.length : Int) = 0) := by omega
 have hl := h.left
 by_cases h0 : x = 0
 · have hf : faultOf st.left = 50 := by unfold faultOf; rw [if_pos (by omega)]
   rw [hf]
   clear hf h hok h1 hl
   go_enter Tryz.func86,Tryz.ntmps86
   go_wp2_with fail
   refine KS.out.mono ?_
   rintro e w1 ⟨rfl,hw1⟩
   obtain rfl := hw1.symm
   go_wp2
   go_ret
   exact ⟨rfl,rfl⟩
 · have hf : faultOf st.left = 0 := by unfold faultOf; rw [if_neg (by omega)]
   rw [hf]
   clear hf h hok h1 hl
   go_enter Tryz.func86,Tryz.ntmps86
   go_wp2_with fail
   refine KS.out.mono ?_
   rintro e w1 ⟨rfl,hw1⟩
   obtain rfl := hw1.symm
   go_wp2
   go_ret
   exact ⟨rfl,rfl⟩
def faultAtOf (st : St) (b : Int) : Int := if st.left = 0 then 50 else if ¬ (0 <= b /\ b < (st.sure.length : Int)) then 5 else 0
set_option maxHeartbeats 400000 in
theorem pFaultAt (p : Nat) (vS vL : Value) (x : Int) (st : St) (b : Int) (w : World) (h : PAt w p vS vL x st) (hok : st.Ok) :
   Calls Tryz.prog 66 #[.pointer (some ⟨p,0,none⟩),.int .i64 b] w fun e w' => e = .returned (.int .i64 (faultAtOf st b)) /\ w' = w := by
 have KF := hide (pFault p vS vL x st w h hok)
 obtain ⟨a,c,rfl,_⟩ := slice_of h.sure
 have hc := h.cell0
 have hfew := hok.few
 clear h hok
 by_cases h0 : st.left = 0
 · have hf : faultAtOf st b = 50 := by unfold faultAtOf; rw [if_pos h0]
   have hg : faultOf st.left = 50 := by unfold faultOf; rw [if_pos h0]
   rw [hf]
   rw [hg] at KF
   clear hf hg h0
   go_enter Tryz.func66,Tryz.ntmps66
   go_wp2_with fail
   refine KF.out.mono ?_
   rintro e w1 ⟨rfl,hw1⟩
   obtain rfl := hw1.symm
   go_wp2
   go_ret
   exact ⟨rfl,rfl⟩
 · have hg : faultOf st.left = 0 := by unfold faultOf; rw [if_neg h0]
   rw [hg] at KF
   clear hg
   by_cases h1 : 0 <= b
   · by_cases h2 : b < (st.sure.length : Int)
     · have hf : faultAtOf st b = 0 := by unfold faultAtOf; rw [if_neg h0,if_neg (fun hh => hh ⟨h1,h2⟩)]
       rw [hf]
       clear hf h0
       go_enter Tryz.func66,Tryz.ntmps66
       go_wp2_with fail
       refine KF.out.mono ?_
       rintro e w1 ⟨rfl,hw1⟩
       obtain rfl := hw1.symm
       go_wp2
       go_ret
       exact ⟨rfl,rfl⟩
     · have hf : faultAtOf st b = 5 := by unfold faultAtOf; rw [if_neg h0,if_pos (fun hh => h2 hh.2)]
       rw [hf]
       clear hf h0
       go_enter Tryz.func66,Tryz.ntmps66
       go_wp2_with fail
       refine KF.out.mono ?_
       rintro e w1 ⟨rfl,hw1⟩
       obtain rfl := hw1.symm
       go_wp2
       go_ret
       exact ⟨rfl,rfl⟩
   · have hf : faultAtOf st b = 5 := by unfold faultAtOf; rw [if_neg h0,if_pos (fun hh => h1 hh.1)]
     rw [hf]
     clear hf h0
     go_enter Tryz.func66,Tryz.ntmps66
     go_wp2_with fail
     refine KF.out.mono ?_
     rintro e w1 ⟨rfl,hw1⟩
     obtain rfl := hw1.symm
     go_wp2
     go_ret
     exact ⟨rfl,rfl⟩
set_option maxHeartbeats 400000 in
theorem pBurn (p : Nat) (vS vL : Value) (x : Int) (st : St) (w : World) (h : PAt w p vS vL x st) :
   Calls Tryz.prog 67 #[.pointer (some ⟨p,0,none⟩)] w fun e w' => (∃ v,e = .returned v) /\ (∃ y,PAt w' p vS vL y ⟨st.sure,st.loose,counted st.left⟩) /\ Loc (DF p vS vL) (DF p vS vL) w w' := by
 have hc := h.cell2
 have hf := h.free 2
 have H := hide h
 have hl := h.left
 have hi := h.fit
 by_cases h0 : 0 < x
 · have HX : Hid (counted st.left = max (x - 1) (-1)) := by unfold Hid counted; rw [if_pos (by omega)]; omega
   have HI := hide hi
   clear h hl
   go_enter Tryz.func67,Tryz.ntmps67
   go_wp2
   go_end0
   exact ⟨⟨_,rfl⟩,⟨x - 1,by rw [HX.out]; exact H.out.setLeft (x - 1) (by omega)⟩,Loc.setCell w ⟨p,2,none⟩ _ (Or.inl rfl)⟩
 · have HX : Hid (counted st.left = st.left) := by unfold Hid counted; rw [if_neg (by omega)]
   clear h hl hi
   go_enter Tryz.func67,Tryz.ntmps67
   go_wp2
   go_end0
   exact ⟨⟨_,rfl⟩,⟨x,by rw [HX.out]; exact H.out⟩,Loc.refl _ _⟩
set_option maxHeartbeats 400000 in
theorem pFuse (p : Nat) (vS vL : Value) (x : Int) (st : St) (n : Int) (w : World) (h : PAt w p vS vL x st) (hok : st.Ok) (hn : -9223372036854775808 <= n /\ n <= 9223372036854775807) :
   Calls Tryz.prog 25 #[.pointer (some ⟨p,0,none⟩),.int .i64 n] w fun e w' => e = .returned (.int .i64 0) /\ PAt w' p vS vL n (st.fuse n) /\ Loc (DF p vS vL) (DF p vS vL) w w' := by
 have KS := hide (pSize p vS vL x st w h)
 have hc := h.cell2
 have hf := h.free 2
 have H := hide h
 have h1 := hok.some
 have hz : ¬ ((st.sure.length : Int) = 0) := by omega
 have HN := hide hn
 clear h hok h1 hn
 go_enter Tryz.func25,Tryz.ntmps25
 go_wp2_with fail
 refine KS.out.mono ?_
 rintro e w1 ⟨rfl,hw1⟩
 obtain rfl := hw1.symm
 go_wp2
 go_ret
 exact ⟨rfl,H.out.setLeft n HN.out,Loc.setCell w ⟨p,2,none⟩ _ (Or.inl rfl)⟩

theorem info69 : (Tryz.prog.info? 90).map (fun i => (i.zero,i.size,i.bytes)) = some (some (.agg (Array.replicate 256 (.int .u8 0))),256,256) := by kernel_rfl
def zrows (n : Nat) : Array Value := madeCells (Value.agg (Array.replicate 256 (.int .u8 0))).cells (n * 256)
theorem zrows_is (n : Nat) : (zrows n).toList = sc (List.replicate n zblock) := by
 rw [sc_new]
 unfold zrows madeCells
 apply List.ext_getElem?
 intro i
 by_cases h : i < n * 256
 · have h2 : i % 256 < 256 := Nat.mod_lt _ (by decide)
   simp [Value.cells,h,h2]
 · simp [Value.cells,h]
theorem zrows_size (n : Nat) : (zrows n).size = n * 256 := by unfold zrows; exact size_madeCells _ _
theorem nmake (n : Nat) (hn : n <= 4096) (u : World) : (Instr.makeSlice 73 (.int .i64 (n : Int)) (.int .i64 (n : Int))).run Tryz.prog u = .ok (.slice (some ⟨u.heap.size,0,none⟩) n n) (u.alloc (.cells (zrows n) 90)) := by
 obtain ⟨i,hi,hz0,hz1,hz2⟩ := info_parts info69
 have h := run_make (P := Tryz.prog) u 73 90 i (.agg (Array.replicate 256 (.int .u8 0))) Tryz.underlying73 hi hz0 .i64 .i64 (n : Int) (n : Int) (by omega) (by omega) (by rw [hz2]; omega) (by omega)
 rw [hz1,Int.toNat_natCast] at h
 exact h
theorem PAt.new (w : World) (n : Nat) (hn : n <= 4096) : PAt ((w.alloc (.cells (zrows n) 90)).alloc (.cells #[.slice (some ⟨w.heap.size,0,none⟩) n n,.slice none 0 0,.int .i64 (-1)] 76)) (w.heap.size + 1) (.slice (some ⟨w.heap.size,0,none⟩) n n) (.slice none 0 0) (-1) (St.new n) := by
 refine ⟨?_,?_,World.ownsRow_nil _ _ _ _,rfl,by decide⟩
 · have h := heap_alloc_last (w.alloc (.cells (zrows n) 90)) (.cells #[.slice (some ⟨w.heap.size,0,none⟩) n n,.slice none 0 0,.int .i64 (-1)] 76)
   rw [World.size_alloc] at h
   exact h
 · have hl : (St.new n).sure.length = n := List.length_replicate
   rw [hl]
   show World.ownsRow _ 0 90 256 _ n (sc (List.replicate n zblock))
   rw [<- zrows_is]
   exact World.ownsRow.alloc (World.ownsRow_lit (base := 0) (e := 90) (size := 256) w (zrows n) n (Nat.zero_le _) (by unfold maxLen; omega) (zrows_size n)) _
set_option maxRecDepth 10000 in
set_option maxHeartbeats 400000 in
theorem pNew (n : Nat) (w : World) (h1 : 1 <= n) (h2 : n <= 4096) :
   Calls Tryz.prog 10 #[.int .i64 (n : Int)] w fun e w' => ∃ p vS vL x,e = .returned (.tuple #[.pointer (some ⟨p,0,none⟩),.int .i64 0]) /\ PAt w' p vS vL x (St.new n) /\ (∀ k,DF p vS vL k -> w.heap.size <= k) /\ Below w.heap.size w w' := by
 have hmk := nmake n h2
 have HP := hide (PAt.new w n h2)
 generalize zrows n = Z at *
 go_enter Tryz.func10,Tryz.ntmps10
 go_wp2
 go_ret2
 exact ⟨w.heap.size + 1,_,_,_,rfl,HP.out,fun k hk => (by
   rcases hk with h3 | h3 | h3
   · omega
   · cases h3; exact Nat.le_refl _
   · cases h3),((Below.refl _ _).alloc (Nat.le_refl _) _).alloc (by simp) _⟩
set_option maxHeartbeats 400000 in
theorem pNew_not (n : Int) (w : World) (h : n < 1 \/ 4096 < n) :
   Calls Tryz.prog 10 #[.int .i64 n] w fun e w' => e = .returned (.tuple #[.pointer none,.int .i64 2]) /\ w' = w := by
 rcases h with h | h
 · go_enter Tryz.func10,Tryz.ntmps10
   go_wp2
   go_ret2
   exact ⟨rfl,rfl⟩
 · have h1 : ¬ n < 1 := by omega
   go_enter Tryz.func10,Tryz.ntmps10
   go_wp2
   go_ret2
   exact ⟨rfl,rfl⟩
end Go.Proofs.YtchhojkhfdkhfaaGreatDoor
