/- Joined texts. -/
import Derived.Test.YtchhojkhfdkhfaaGreatDoorP03
import Derived.Test.YtchhojkhfdkhfaaGreatDoorP36
import Derived.Test.YtchhojkhfdkhfaaGreatDoorP26
import Derived.Test.YtchhojkhfdkhfaaGreatDoorP25
import Derived.Test.YtchhojkhfdkhfaaGreatDoorP31
import Derived.Test.YtchhojkhfdkhfaaGreatDoorP18
import Derived.Test.YtchhojkhfdkhfaaGreatDoorP21
namespace Go.Proofs.YtchhojkhfdkhfaaGreatDoor
open Go Go.RowKit Frm
def confV (ck lg : Int) : Value := .agg #[.int .i64 ck,.int .i64 lg]
set_option maxHeartbeats 1000000 in
theorem rBlocks_any (ck lg : Int) (w : World) : Calls Tryz.prog 7 #[confV ck lg] w fun e w' => e = .returned (.int .i64 (blocksC ck lg)) /\ Below w.heap.size w w' := by
 have hb := one_below w (.cells #[.int .i64 ck,.int .i64 lg] 23)
 have HB := hide hb
 have hcb := heap_alloc_last w (.cells #[.int .i64 ck,.int .i64 lg] 23)
 have c0 : (w.alloc (.cells #[.int .i64 ck,.int .i64 lg] 23)).cell? ⟨w.heap.size,0,none⟩ = some (.int .i64 ck) := (cell_of_row _ _ 0 _ _ _ hcb).trans rfl
 have c1 : (w.alloc (.cells #[.int .i64 ck,.int .i64 lg] 23)).cell? ⟨w.heap.size,1,none⟩ = some (.int .i64 lg) := (cell_of_row _ _ 1 _ _ _ hcb).trans rfl
 clear hb hcb
 unfold confV
 by_cases h1 : ck < 2
 · have hr : blocksC ck lg = 0 := by unfold blocksC; rw [if_pos (Or.inl h1)]
   rw [hr]
   clear hr
   go_enter Tryz.func7,Tryz.ntmps7
   go_wp2
   go_ret
   exact ⟨rfl,HB.out⟩
 by_cases h2 : 256 < ck
 · have hr : blocksC ck lg = 0 := by unfold blocksC; rw [if_pos (Or.inr (Or.inl h2))]
   rw [hr]
   clear hr
   go_enter Tryz.func7,Tryz.ntmps7
   go_wp2
   go_ret
   exact ⟨rfl,HB.out⟩
 by_cases h3 : lg < 1
 · have hr : blocksC ck lg = 0 := by unfold blocksC; rw [if_pos (Or.inr (Or.inr (Or.inl h3)))]
   rw [hr]
   clear hr
   go_enter Tryz.func7,Tryz.ntmps7
   go_wp2
   go_ret
   exact ⟨rfl,HB.out⟩
 by_cases h4 : 1024 < lg
 · have hr : blocksC ck lg = 0 := by unfold blocksC; rw [if_pos (Or.inr (Or.inr (Or.inr h4)))]
   rw [hr]
   clear hr
   go_enter Tryz.func7,Tryz.ntmps7
   go_wp2
   go_ret
   exact ⟨rfl,HB.out⟩
 have hw1 : wrap64 (2 * ck) = 2 * ck := by unfold wrap64; omega
 have hw2 : wrap64 (2 * lg) = 2 * lg := by unfold wrap64; omega
 have hw3 : wrap64 (2 * ck + 2 * lg) = 2 * ck + 2 * lg := by unfold wrap64; omega
 by_cases h5 : 4096 < 2 * ck + 2 * lg
 · have hr : blocksC ck lg = 0 := by unfold blocksC; rw [if_neg (by omega),if_pos (by omega)]
   rw [hr]
   clear hr
   have H5 := hide h5
   clear h5
   go_enter Tryz.func7,Tryz.ntmps7
   go_upto_region 4 with fail
   have h5 := H5.out
   clear h1 h2 h3 h4 c0 c1
   go_wp2
   go_ret
   exact ⟨rfl,HB.out⟩
 · have hr : blocksC ck lg = 2 * ck + 2 * lg := by unfold blocksC; rw [if_neg (by omega),if_neg (by omega)]
   rw [hr]
   clear hr
   have H5 := hide h5
   clear h5
   go_enter Tryz.func7,Tryz.ntmps7
   go_upto_region 4 with fail
   have h5 := H5.out
   clear h1 h2 h3 h4 c0 c1
   go_wp2
   go_ret
   exact ⟨rfl,HB.out⟩
theorem blocks_pos {ck lg : Int} (h : blocksC ck lg ≠ 0) : 2 <= ck /\ ck <= 256 /\ 1 <= lg /\ lg <= 1024 /\ 2 * ck + 2 * lg <= 4096 /\ blocksC ck lg = 2 * ck + 2 * lg := by
 unfold blocksC at *
 split at h
 · exact absurd rfl h
 · rename_i h1
   rw [if_neg h1]
   split at h
   · exact absurd rfl h
   · rename_i h2
     rw [if_neg h2]
     omega
theorem blocks_ge (ck lg : Int) : 0 <= blocksC ck lg := by
 by_cases h : blocksC ck lg = 0
 · omega
 · have := blocks_pos h; omega
set_option maxRecDepth 10000 in
set_option maxHeartbeats 1000000 in
theorem rMayS (p : Nat) (st : St) (F : Nat -> Prop) (ck lg : Int) (w : World) (h : RD w p st F) :
   Calls Tryz.prog 60 #[.pointer (some ⟨p,0,none⟩),confV ck lg] w fun e w' => e = .returned (.bool (decide (st.mayS ck lg))) /\ Below w.heap.size w w' := by
 have hb0 := one_below w (.cells #[.int .i64 ck,.int .i64 lg] 23)
 obtain ⟨vS,vL,rfl,hR⟩ := h
 obtain ⟨a,c,rfl,_⟩ := slice_of hR.sure
 have HR := hide (fun u (hb : Below w.heap.size w u) => (hR.below hb).cell0)
 have KB := hide (fun u => rBlocks_any ck lg u)
 have HB0 := hide hb0
 have hge := blocks_ge ck lg
 clear hR hb0
 unfold confV at *
 have hcb := heap_alloc_last w (.cells #[.int .i64 ck,.int .i64 lg] 23)
 have hlt : w.heap.size < (w.alloc (.cells #[.int .i64 ck,.int .i64 lg] 23)).heap.size := by simp
 have HC : Hid (∀ z,Below (w.alloc (.cells #[.int .i64 ck,.int .i64 lg] 23)).heap.size (w.alloc (.cells #[.int .i64 ck,.int .i64 lg] 23)) z -> z.cell? ⟨w.heap.size,0,none⟩ = some (.int .i64 ck) /\ z.cell? ⟨w.heap.size,1,none⟩ = some (.int .i64 lg) /\ z.cell? ⟨p,0,none⟩ = some (.slice a st.sure.length c)) := fun z hb => by
   have hz := (hb.block _ hlt).trans hcb
   exact ⟨(cell_of_row _ _ 0 _ _ _ hz).trans rfl,(cell_of_row _ _ 1 _ _ _ hz).trans rfl,HR.out z (HB0.out.trans (hb.mono HB0.out.size))⟩
 have HB1 := hide (Below.refl (w.alloc (.cells #[.int .i64 ck,.int .i64 lg] 23)).heap.size (w.alloc (.cells #[.int .i64 ck,.int .i64 lg] 23))).drew
 clear hcb hlt HR
 by_cases h0 : 0 < blocksC ck lg
 · by_cases h1 : blocksC ck lg <= (st.sure.length : Int)
   · have hd : decide (st.mayS ck lg) = true := decide_eq_true ⟨by omega,h1⟩
     rw [hd]
     clear hd hge
     generalize blocksC ck lg = n at *
     go_enter Tryz.func60,Tryz.ntmps60
     go_wp2_with fail
     generalize w.alloc (.cells #[.int .i64 ck,.int .i64 lg] 23) = W at *
     have K := HB1.out
     go_region_held3 (fun z => z.cell? ⟨w.heap.size,0,none⟩ = some (.int .i64 ck) /\ z.cell? ⟨w.heap.size,1,none⟩ = some (.int .i64 lg) /\ z.cell? ⟨p,0,none⟩ = some (.slice a st.sure.length c))
       ((with_reducible exact HC.out _ K))
       (first
         | (go_at_call 7; refine (KB.out _).mono ?_; rintro e z0 ⟨rfl,hb0⟩; have K := bnext K hb0))
     all_goals
       have HE := hide (HB0.out.trans (K.mono HB0.out.size))
       clear K
       go_wp2
       go_ret
       exact ⟨rfl,HE.out⟩
   · have hd : decide (st.mayS ck lg) = false := decide_eq_false (fun h => h1 h.2)
     rw [hd]
     clear hd hge
     generalize blocksC ck lg = n at *
     have HD1 := hide (decide_eq_false h1)
     go_enter Tryz.func60,Tryz.ntmps60
     go_wp2_with fail
     generalize w.alloc (.cells #[.int .i64 ck,.int .i64 lg] 23) = W at *
     have K := HB1.out
     go_region_held3 (fun z => z.cell? ⟨w.heap.size,0,none⟩ = some (.int .i64 ck) /\ z.cell? ⟨w.heap.size,1,none⟩ = some (.int .i64 lg) /\ z.cell? ⟨p,0,none⟩ = some (.slice a st.sure.length c))
       ((with_reducible exact HC.out _ K))
       (first
         | (go_at_call 7; refine (KB.out _).mono ?_; rintro e z0 ⟨rfl,hb0⟩; have K := bnext K hb0))
     all_goals
       have HE := hide (HB0.out.trans (K.mono HB0.out.size))
       clear K
       go_wp2
       go_ret
       exact ⟨by show Ending.returned (.bool (decide (n <= (st.sure.length : Int)))) = _; rw [HD1.out],HE.out⟩
 · have hd : decide (st.mayS ck lg) = false := decide_eq_false (fun h => h.1 (by omega))
   rw [hd]
   have h00 : blocksC ck lg = 0 := by omega
   rw [h00] at KB
   obtain ⟨c0,c1, -⟩ := HC.out _ HB1.out
   clear hd hge h00 h0
   go_enter Tryz.func60,Tryz.ntmps60
   go_wp2_with fail
   generalize w.alloc (.cells #[.int .i64 ck,.int .i64 lg] 23) = W at *
   have HCs : Hid (∀ z,Below W.heap.size W z -> z.cell? ⟨w.heap.size,0,none⟩ = some (.int .i64 ck) /\ z.cell? ⟨w.heap.size,1,none⟩ = some (.int .i64 lg)) := fun z hb => ⟨(HC.out z hb).1,(HC.out z hb).2.1⟩
   refine wp_region_held_drew (S := fun z => z.cell? ⟨w.heap.size,0,none⟩ = some (.int .i64 ck) /\ z.cell? ⟨w.heap.size,1,none⟩ = some (.int .i64 lg)) (by kernel_rfl) (HCs.out _ HB1.out) (fun hHeld => ?_)
   refine takeAt7 0 5 (v := ?v0) rfl rfl (by kernel_rfl) (by kernel_rfl) (by kernel_rfl) (fun _ _ _ h => h) (Or.inl ⟨by rfl,?hy0⟩) (by assumption) ?rest0
   case hy0 => (intro w hSw; (try dsimp only at hSw); go_simp; first | done | with_reducible rfl)
   simp only [List.setIfInBounds_toArray,List.set_cons_succ,List.set_cons_zero]
   refine wpAnyH_ready (rs := [1]) (by kernel_rfl) (by simp) ?_
   refine AllReadyH.cons (o := { dst := some 6,op := Op.call { callee := Callee.value (Operand.func 7),args := #[Operand.tmp 5],argTypes := #[23] },type := 3,pos := "ref.go:42",after := #[{ on := 0,ground := Ground.data }],guard := none }) rfl (fun K hK => ?_) AllReadyH.nil
   go_simp
   refine (KB.out _).mono ?_
   rintro e z1 ⟨rfl,hb1⟩
   have HK1 := hide (bnext HB1.out hb1)
   clear hb1
   go_wp2_with fail
   refine hK.out _ _ (HCs.out _ HK1.out) (fun hHeld2 => ?_)
   clear hK K
   (try go_frame)
   clear hHeld
   refine takeAt7 2 7 (v := ?v2) rfl rfl (by kernel_rfl) (by kernel_rfl) (by kernel_rfl) (fun _ _ _ h => h) (Or.inl ⟨by rfl,?hy2⟩) (by assumption) ?rest2
   case hy2 => (intro w hSw; (try dsimp only at hSw); go_simp; first | done | with_reducible rfl)
   simp only [List.setIfInBounds_toArray,List.set_cons_succ,List.set_cons_zero]
   refine takeAt7 3 8 (v := ?v3) rfl rfl (by kernel_rfl) (by kernel_rfl) (by kernel_rfl) (fun _ _ _ h => h) (Or.inl ⟨by rfl,?hy3⟩) (by assumption) ?rest3
   case hy3 => (intro w hSw; (try dsimp only at hSw); go_simp; first | done | with_reducible rfl)
   simp only [List.setIfInBounds_toArray,List.set_cons_succ,List.set_cons_zero]
   refine takeAt7 4 9 (v := undef) rfl rfl (by kernel_rfl) (by kernel_rfl) (by kernel_rfl) (fun _ _ _ h => h) (Or.inr ⟨by rfl,rfl⟩) (by assumption) ?rest4
   simp only [List.setIfInBounds_toArray,List.set_cons_succ,List.set_cons_zero]
   refine takeAt7 5 10 (v := undef) rfl rfl (by kernel_rfl) (by kernel_rfl) (by kernel_rfl) (fun _ _ _ h => h) (Or.inr ⟨by rfl,rfl⟩) (by assumption) ?rest5
   simp only [List.setIfInBounds_toArray,List.set_cons_succ,List.set_cons_zero]
   refine takeAt7 6 11 (v := undef) rfl rfl (by kernel_rfl) (by kernel_rfl) (by kernel_rfl) (fun _ _ _ h => h) (Or.inr ⟨by rfl,rfl⟩) (by assumption) ?rest6
   simp only [List.setIfInBounds_toArray,List.set_cons_succ,List.set_cons_zero]
   refine takeAt7 7 12 (v := undef) rfl rfl (by kernel_rfl) (by kernel_rfl) (by kernel_rfl) (fun _ _ _ h => h) (Or.inr ⟨by rfl,rfl⟩) (by assumption) ?rest7
   simp only [List.setIfInBounds_toArray,List.set_cons_succ,List.set_cons_zero]
   refine takeAt7 8 13 (v := undef) rfl rfl (by kernel_rfl) (by kernel_rfl) (by kernel_rfl) (fun _ _ _ h => h) (Or.inr ⟨by rfl,rfl⟩) (by assumption) ?rest8
   simp only [List.setIfInBounds_toArray,List.set_cons_succ,List.set_cons_zero]
   refine takeAt7 9 14 (v := undef) rfl rfl (by kernel_rfl) (by kernel_rfl) (by kernel_rfl) (fun _ _ _ h => h) (Or.inr ⟨by rfl,rfl⟩) (by assumption) ?rest9
   simp only [List.setIfInBounds_toArray,List.set_cons_succ,List.set_cons_zero]
   refine takeAt7 10 15 (v := undef) rfl rfl (by kernel_rfl) (by kernel_rfl) (by kernel_rfl) (fun _ _ _ h => h) (Or.inr ⟨by rfl,rfl⟩) (by assumption) ?rest10
   simp only [List.setIfInBounds_toArray,List.set_cons_succ,List.set_cons_zero]
   refine takeAt7 11 16 (v := undef) rfl rfl (by kernel_rfl) (by kernel_rfl) (by kernel_rfl) (fun _ _ _ h => h) (Or.inr ⟨by rfl,rfl⟩) (by assumption) ?rest11
   simp only [List.setIfInBounds_toArray,List.set_cons_succ,List.set_cons_zero]
   refine takeAt7 12 17 (v := ?v12) rfl rfl (by kernel_rfl) (by kernel_rfl) (by kernel_rfl) (fun _ _ _ h => h) (Or.inl ⟨by rfl,?hy12⟩) (by assumption) ?rest12
   case hy12 => (intro w hSw; (try dsimp only at hSw); go_simp; first | done | with_reducible rfl)
   simp only [List.setIfInBounds_toArray,List.set_cons_succ,List.set_cons_zero]
   refine takeAt7 13 4 (v := ?v13) rfl rfl (by kernel_rfl) (by kernel_rfl) (by kernel_rfl) (fun _ _ _ h => h) (Or.inl ⟨by rfl,?hy13⟩) (by assumption) ?rest13
   case hy13 => (intro w hSw; (try dsimp only at hSw); go_simp; first | done | with_reducible rfl)
   simp only [List.setIfInBounds_toArray,List.set_cons_succ,List.set_cons_zero]
   refine wpAnyH_done (by kernel_rfl) ?_ _
   clear hHeld2
   have HE := hide (HB0.out.trans (HK1.out.mono HB0.out.size))
   clear HK1
   go_wp2
   go_ret
   exact ⟨rfl,HE.out⟩
set_option maxRecDepth 10000 in
theorem rLog_any (ck lg g : Nat) (w : World) (h1 : ck <= 256) (h2 : lg <= 1024) :
   Calls Tryz.prog 63 #[confV (ck : Int) (lg : Int),.int .u64 (g : Int)] w fun e w' => e = .returned (.int .i64 ((lo ck lg g : Nat) : Int)) /\ Below w.heap.size w w' := by
 have hb := one_below w (.cells #[.int .i64 (ck : Int),.int .i64 (lg : Int)] 23)
 have HB := hide hb
 have hcb := heap_alloc_last w (.cells #[.int .i64 (ck : Int),.int .i64 (lg : Int)] 23)
 have c0 : (w.alloc (.cells #[.int .i64 (ck : Int),.int .i64 (lg : Int)] 23)).cell? ⟨w.heap.size,0,none⟩ = some (.int .i64 (ck : Int)) := (cell_of_row _ _ 0 _ _ _ hcb).trans rfl
 have c1 : (w.alloc (.cells #[.int .i64 (ck : Int),.int .i64 (lg : Int)] 23)).cell? ⟨w.heap.size,1,none⟩ = some (.int .i64 (lg : Int)) := (cell_of_row _ _ 1 _ _ _ hcb).trans rfl
 have q1 : (g : Int) % 2 = ((g % 2 : Nat) : Int) := by omega
 have q2 : wrap64 ((g % 2 : Nat) : Int) = ((g % 2 : Nat) : Int) := by unfold wrap64; omega
 have q3 : wrap64 (2 * (ck : Int)) = 2 * (ck : Int) := by unfold wrap64; omega
 have q0 : ((lo ck lg g : Nat) : Int) = 2 * (ck : Int) + ((g % 2 : Nat) : Int) * (lg : Int) := by unfold lo; rw [Int.natCast_add,Int.natCast_mul,Int.natCast_mul]; rfl
 have q6 : 0 <= ((g % 2 : Nat) : Int) * (lg : Int) /\ ((g % 2 : Nat) : Int) * (lg : Int) <= 1024 := by
   rcases (by omega : g % 2 = 0 \/ g % 2 = 1) with e | e <;> rw [e] <;> omega
 have q4 : wrap64 (((g % 2 : Nat) : Int) * (lg : Int)) = ((g % 2 : Nat) : Int) * (lg : Int) := by
   generalize ((g % 2 : Nat) : Int) * (lg : Int) = y at *
   unfold wrap64; omega
 have q5 : wrap64 (2 * (ck : Int) + ((g % 2 : Nat) : Int) * (lg : Int)) = 2 * (ck : Int) + ((g % 2 : Nat) : Int) * (lg : Int) := by
   generalize ((g % 2 : Nat) : Int) * (lg : Int) = y at *
   unfold wrap64; omega
 rw [q0]
 generalize g % 2 = gb at *
 unfold confV
 clear hb hcb h1 h2 q6 q0
 go_enter Tryz.func63,Tryz.ntmps63
 go_wp2
 go_ret
 exact ⟨by show Ending.returned (.int .i64 (wrap64 (2 * (ck : Int) + (gb : Int) * (lg : Int)))) = _; rw [q5],HB.out⟩
theorem mayS_nat {st : St} {ck lg : Int} (h : st.mayS ck lg) : ∃ k l : Nat,ck = (k : Int) /\ lg = (l : Int) /\ 2 <= k /\ k <= 256 /\ 1 <= l /\ l <= 1024 /\ 2 * k + 2 * l <= 4096 /\ 2 * k + 2 * l <= st.sure.length := by
 have q := blocks_pos h.1
 have q2 := h.2
 exact ⟨ck.toNat,lg.toNat,by omega,by omega,by omega,by omega,by omega,by omega,by omega,by omega⟩
theorem cellB8 {u v : World} {a : Addr} {y : Value} (hb : Below u.heap.size u v) (h : u.cell? a = some y) : v.cell? a = some y := (hb.cell (World.block_lt_of_cell? u _ h)).trans h
theorem load_code8 (st : St) (o n : Int) : (st.load o n).2 <= 1000 := by
 unfold St.load
 split
 · show (_ : Nat) <= 1000; simp
 · split
   · show (_ : Nat) <= 1000; simp
   · simp only
     split
     · show (_ : Nat) <= 1000; simp
     · split <;> simp
def RSays8 (p : Nat) (F : Nat -> Prop) (u : World) (r : Nat × St) (e : Ending) (v : World) : Prop := e = .returned (.int .i64 ((r.1 : Nat) : Int)) /\ ∃ F',RD v p r.2 F' /\ Loc F F' u v
theorem cell_same8 {u v : World} {B : Nat} (h : v.heap[B]? = u.heap[B]?) (i : Nat) : v.cell? ⟨B,i,none⟩ = u.cell? ⟨B,i,none⟩ := by simp [World.cell?,h]
structure Bx (w : World) (F0 : Nat -> Prop) (B p : Nat) (k l : Int) (st : St) (F : Nat -> Prop) (u : World) : Prop where
 r : RD u p st F
 b0 : u.cell? ⟨B,0,none⟩ = some (.int .i64 k)
 b1 : u.cell? ⟨B,1,none⟩ = some (.int .i64 l)
 nB : ¬ F B
 loc : Loc F0 F w u
theorem Bx.keep {w : World} {F0 : Nat -> Prop} {B p : Nat} {k l : Int} {st : St} {F : Nat -> Prop} {u v : World} (h : Bx w F0 B p k l st F u) (hb : Below u.heap.size u v) : Bx w F0 B p k l st F v :=
 ⟨h.r.below hb,cellB8 hb h.b0,cellB8 hb h.b1,h.nB,h.loc.trans (Loc.of_below _ hb)⟩
theorem Bx.step {w : World} {F0 : Nat -> Prop} {B p : Nat} {k l : Int} {st st2 : St} {F F' : Nat -> Prop} {u v : World} (h : Bx w F0 B p k l st F u) (hr : RD v p st2 F') (hl : Loc F F' u v) : Bx w F0 B p k l st2 F' v := by
 have hlt : B < u.heap.size := World.block_lt_of_cell? u _ h.b0
 have hs := hl.block B hlt h.nB
 refine ⟨hr,(cell_same8 hs 0).trans h.b0,(cell_same8 hs 1).trans h.b1,fun hf => ?_,h.loc.trans hl⟩
 rcases hl.own B hf with h1 | h1
 · exact h.nB h1
 · omega
theorem Bx.c01 {w : World} {F0 : Nat -> Prop} {B p : Nat} {k l : Int} {st : St} {F : Nat -> Prop} {u : World} (h : Bx w F0 B p k l st F u) : u.cell? ⟨B,0,none⟩ = some (.int .i64 k) /\ u.cell? ⟨B,1,none⟩ = some (.int .i64 l) := ⟨h.b0,h.b1⟩
theorem Bx.says {w : World} {F0 : Nat -> Prop} {B p : Nat} {k l : Int} {r : Nat × St} {F : Nat -> Prop} {u : World} (h : Bx w F0 B p k l r.2 F u) : RSays8 p F0 w r (.returned (.int .i64 ((r.1 : Nat) : Int))) u := ⟨rfl,F,h.r,h.loc⟩
set_option maxRecDepth 10000 in
set_option maxHeartbeats 4000000 in
theorem rMake (p : Nat) (st : St) (F : Nat -> Prop) (ck lg : Int) (w : World) (h : RD w p st F) (hok : st.Ok) (hl : st.loose.length + 3000 <= 8000) :
   Calls Tryz.prog 33 #[.pointer (some ⟨p,0,none⟩),confV ck lg] w (RSays8 p F w (stoMake st ck lg)) := by
 have hcb := heap_alloc_last w (.cells #[.int .i64 ck,.int .i64 lg] 23)
 have hb0 := one_below w (.cells #[.int .i64 ck,.int .i64 lg] 23)
 have hlt : w.heap.size < (w.alloc (.cells #[.int .i64 ck,.int .i64 lg] 23)).heap.size := by simp
 have HC : Hid (∀ z,Below (w.alloc (.cells #[.int .i64 ck,.int .i64 lg] 23)).heap.size (w.alloc (.cells #[.int .i64 ck,.int .i64 lg] 23)) z -> z.cell? ⟨w.heap.size,0,none⟩ = some (.int .i64 ck) /\ z.cell? ⟨w.heap.size,1,none⟩ = some (.int .i64 lg)) := fun z hb => by
   have hz := (hb.block _ hlt).trans hcb
   exact ⟨(cell_of_row _ _ 0 _ _ _ hz).trans rfl,(cell_of_row _ _ 1 _ _ _ hz).trans rfl⟩
 have HR := hide (fun z (hb : Below w.heap.size w z) => h.below hb)
 have KM := hide (fun z (hb : Below w.heap.size w z) => rMayS p st F ck lg z (h.below hb))
 obtain ⟨c0,c1⟩ := HC.out _ (Below.refl _ _)
 have HB0 := hide hb0
 by_cases hm : st.mayS ck lg
 · obtain ⟨k,l,rfl,rfl,q1,q2,q3,q4,q5,q6⟩ := mayS_nat hm
   have hfew := hok.few
   have hw2 : wrap64 (2 * (k : Int)) = 2 * (k : Int) := by unfold wrap64; omega
   have KL := hide (fun z (hb : Below w.heap.size w z) => rLoad_any p 0 (2 * (k : Int)) st F z (h.below hb) hok (by omega) hfew (by omega))
   have hm0 : stoMake st (k : Int) (l : Int) = (if (st.load 0 (2 * (k : Int))).2 = 0 then (7,st) else if (st.load 0 (2 * (k : Int))).2 ≠ 5 then ((st.load 0 (2 * (k : Int))).2,st) else andT (walClear st (lo k l 1) l) (fun s => s.save 0 (2 * (k : Int)) 1 noText)) := by
     unfold stoMake
     rw [if_neg (fun x => x hm),Int.toNat_natCast,Int.toNat_natCast]
   rw [hm0]
   rw [decide_eq_true hm] at KM
   have hcode := load_code8 st 0 (2 * (k : Int))
   have HLo : Hid (∀ z,Calls Tryz.prog 63 #[confV (k : Int) (l : Int),.int .u64 1] z fun e w' => e = .returned (.int .i64 ((lo k l 1 : Nat) : Int)) /\ Below z.heap.size z w') := fun z => rLog_any k l 1 z q2 q4
   have HCl := hide (fun z (hr : RD z p st F) => rClear p (lo k l 1) l st F z hr hok (by omega) (by unfold lo; omega) q3)
   have hcl := clear_cases (lo k l 1) l st (by unfold lo; omega)
   have hokC := clear_ok hok (lo k l 1) l
   have hlooC : (walClear st (lo k l 1) l).1 = 0 -> (walClear st (lo k l 1) l).2.loose = [] := fun h0 => by
     rcases hcl with ⟨W,c,e,_⟩ | ⟨c,e⟩
     · rw [e] at h0; exact absurd h0 (show ¬ (50 : Nat) = 0 by decide)
     · rw [e]
   generalize walClear st (lo k l 1) l = X at *
   generalize st.load 0 (2 * (k : Int)) = Y at *
   obtain ⟨⟨yg,yt⟩,y⟩ := Y
   obtain ⟨R,hR⟩ : ∃ R,R = (if y = 0 then (7,st) else if y ≠ 5 then (y,st) else andT X (fun s => s.save 0 (2 * (k : Int)) 1 noText)) := ⟨_,rfl⟩
   have HRr := hide hR
   show Calls _ _ _ w (RSays8 p F w (if y = 0 then (7,st) else if y ≠ 5 then (y,st) else andT X (fun s => s.save 0 (2 * (k : Int)) 1 noText)))
   rw [<- hR]
   clear hm0 hR hcb hb0 hlt hm hfew hcl
   unfold confV at *
   go_enter Tryz.func33,Tryz.ntmps33
   go_wp2_with fail
   generalize w.alloc (.cells #[.int .i64 (k : Int),.int .i64 (l : Int)] 23) = W at *
   refine (KM.out _ HB0.out).mono ?_
   rintro e w1 ⟨rfl,hb1⟩
   obtain ⟨d0,d1⟩ := HC.out _ hb1
   have HB1 := hide (bnext HB0.out hb1)
   clear hb1 c0 c1 KM
   go_wp2_with fail
   refine (KL.out _ HB1.out).mono ?_
   rintro e w2 ⟨rfl,hb2⟩
   have hB2 := bnext HB1.out hb2
   obtain ⟨c0,c1⟩ : w2.cell? ⟨w.heap.size,0,none⟩ = some (.int .i64 (k : Int)) /\ w2.cell? ⟨w.heap.size,1,none⟩ = some (.int .i64 (l : Int)) := ⟨cellB8 hb2 d0,cellB8 hb2 d1⟩
   have HB2 := hide hB2
   clear hb2 hB2 d0 d1 KL HC HB0 HB1
   have hcode : y <= 1000 := hcode
   by_cases y0 : y = 0
   · subst y0
     have HX : Hid (R = (7,st)) := by show _ = _; rw [HRr.out,if_pos rfl]
     clear HRr
     go_wp2
     go_ret
     rw [HX.out]
     exact ⟨rfl,F,HR.out _ HB2.out,Loc.of_below _ HB2.out⟩
   by_cases y5 : y = 5
   · subst y5
     have HX : Hid (R = andT X (fun s => s.save 0 (2 * (k : Int)) 1 noText)) := by show _ = _; rw [HRr.out,if_neg y0,if_neg (fun x => x rfl)]
     clear HRr
     have hBx : Bx w F w.heap.size p (k : Int) (l : Int) st F w2 := ⟨HR.out _ HB2.out,c0,c1,fun hf => Nat.lt_irrefl _ (h.lt _ hf),Loc.of_below _ HB2.out⟩
     have HBx := hide hBx
     have HC2 : Hid (∀ z F1,RD z p st F1 -> F1 = F -> Below w.heap.size w z -> True) := fun _ _ _ _ _ => trivial
     clear hBx HC2 HB2 HR
     go_wp2_with fail
     have K := HBx.out.keep ((Below.refl _ _).drew)
     clear HBx
     go_region_held3 (fun z => z.cell? ⟨w.heap.size,0,none⟩ = some (.int .i64 (k : Int)) /\ z.cell? ⟨w.heap.size,1,none⟩ = some (.int .i64 (l : Int)))
       ((with_reducible exact Bx.c01 K))
       (first
         | (go_at_call 63; refine (HLo.out _).mono ?_; rintro e z1 ⟨rfl,hb1⟩; have K := Bx.keep K hb1)
         | (go_at_call 64; refine (HCl.out _ K.r).mono ?_; rintro e z2 ⟨rfl,F2,hr2,hl2⟩; have K := Bx.step K hr2 hl2))
     all_goals
       have HK := hide K
       clear K
       by_cases x0 : X.1 = 0
       · have KS : Hid (∀ z F2,RD z p X.2 F2 -> Calls Tryz.prog 65 #[.pointer (some ⟨p,0,none⟩),.int .i64 0,.int .i64 (2 * (k : Int)),.int .u64 1,.string ⟨#[]⟩] z (RSays p F2 z (X.2.save 0 (2 * (k : Int)) 1 noText))) := fun z F2 hr => rSave_any p 0 (2 * (k : Int)) 1 noText X.2 F2 z hr hokC (by rw [hlooC x0]; decide) hokC.few (by omega) (by decide) (by decide)
         have HX2 : Hid (R = X.2.save 0 (2 * (k : Int)) 1 noText) := by show _ = _; rw [HX.out,andT_go _ x0]
         have xz : ((X.1 : Nat) : Int) = 0 := by omega
         generalize X.2.save 0 (2 * (k : Int)) 1 noText = Y at *
         obtain ⟨c0,c1⟩ := HK.out.c01
         clear HX x0 hlooC hokC
         go_wp2_with fail
         refine (KS.out _ _ HK.out.r).mono ?_
         rintro e z3 ⟨rfl,F3,hr3,hl3⟩
         have HK3 := hide (HK.out.step hr3 hl3)
         clear hr3 hl3 HK KS c0 c1
         go_wp2
         go_ret
         rw [HX2.out]
         exact HK3.out.says
       · have xz : ¬ (((X.1 : Nat) : Int) = 0) := by omega
         have HX2 : Hid (R = X) := by show _ = _; rw [HX.out,andT_stop _ x0]
         clear HX hlooC hokC x0
         go_wp2
         go_ret
         rw [HX2.out]
         exact HK.out.says
   · have z0 : ¬ ((y : Int) = 0) := by omega
     have z5 : ¬ ((y : Int) = 5) := by omega
     have HX : Hid (R = (y,st)) := by show _ = _; rw [HRr.out,if_neg y0,if_pos y5]
     clear HRr
     go_wp2
     go_ret
     rw [HX.out]
     exact ⟨rfl,F,HR.out _ HB2.out,Loc.of_below _ HB2.out⟩
 · have hs : stoMake st ck lg = (2,st) := by unfold stoMake; rw [if_pos hm]
   rw [hs]
   rw [decide_eq_false hm] at KM
   clear h hok hl hcb hb0 hlt hm hs
   unfold confV at *
   go_enter Tryz.func33,Tryz.ntmps33
   go_wp2_with fail
   generalize w.alloc (.cells #[.int .i64 ck,.int .i64 lg] 23) = W at *
   refine (KM.out _ HB0.out).mono ?_
   rintro e w1 ⟨rfl,hb1⟩
   have HB1 := hide (bnext HB0.out hb1)
   clear hb1
   go_wp2
   go_ret
   exact ⟨rfl,F,HR.out _ HB1.out,Loc.of_below _ HB1.out⟩
structure RS0 (u : World) (p q l : Nat) (b : Bool) (ck lg : Nat) (s : Sto) (st : St) (G : Nat -> Prop) : Prop where
 d : RD u q st G
 c : u.heap[p]? = some (.cells #[.pointer (some ⟨q,0,none⟩),.int .i64 (ck : Int),.int .i64 (lg : Int),.int .u64 (s.gen : Int),.pointer (some ⟨l,0,none⟩),.bool s.broken] 54 (0,0))
 log : RLAt u l q (lo ck lg s.gen) lg s.str b
 np : ¬ G p
 nl : ¬ G l
 pl : p ≠ l
 sz : s.str.size <= lg * 255
def RS (u : World) (p q ck lg : Nat) (s : Sto) (st : St) (A : Nat -> Prop) : Prop := ∃ l b G,RS0 u p q l b ck lg s st G /\ (s.broken = false -> b = false) /\ A = fun k => G k \/ k = l \/ k = p
theorem RS0.plt {u : World} {p q l : Nat} {b : Bool} {ck lg : Nat} {s : Sto} {st : St} {G : Nat -> Prop} (h : RS0 u p q l b ck lg s st G) : p < u.heap.size := (Array.getElem?_eq_some_iff.1 h.c).1
theorem RS.lt {u : World} {p q ck lg : Nat} {s : Sto} {st : St} {A : Nat -> Prop} (h : RS u p q ck lg s st A) : ∀ k,A k -> k < u.heap.size := by
 obtain ⟨l,b,G,h,_,rfl⟩ := h
 rintro k (h1 | rfl | rfl)
 · exact h.d.lt k h1
 · exact h.log.lt
 · exact h.plt
theorem RS.same {u v : World} {p q ck lg : Nat} {s : Sto} {st : St} {A : Nat -> Prop} (h : RS u p q ck lg s st A) (hs : ∀ k,A k -> v.heap[k]? = u.heap[k]?) : RS v p q ck lg s st A := by
 obtain ⟨l,b,G,h,hb,rfl⟩ := h
 exact ⟨l,b,G,⟨h.d.same (fun k hk => hs k (Or.inl hk)),(hs p (Or.inr (Or.inr rfl))).trans h.c,h.log.same (hs l (Or.inr (Or.inl rfl))),h.np,h.nl,h.pl,h.sz⟩,hb,rfl⟩
theorem RS.below {u v : World} {p q ck lg : Nat} {s : Sto} {st : St} {A : Nat -> Prop} (h : RS u p q ck lg s st A) (hb : Below u.heap.size u v) : RS v p q ck lg s st A := h.same (fun k hk => hb.block k (h.lt k hk))
theorem RS.disk {u : World} {p q ck lg : Nat} {s : Sto} {st : St} {A : Nat -> Prop} (h : RS u p q ck lg s st A) : ∃ G,RD u q st G /\ ∀ k,G k -> A k := by
 obtain ⟨l,b,G,h,_,rfl⟩ := h
 exact ⟨G,h.d,fun k hk => Or.inl hk⟩
def RNo8 (q : Nat) (st : St) (F : Nat -> Prop) (w : World) (x : Int) (e : Ending) (w' : World) : Prop := e = .returned (.tuple #[.pointer none,.agg #[.int .u64 0,.string ⟨#[]⟩,.slice none 0 0],.int .i64 x]) /\ ∃ F',RD w' q st F' /\ Loc F F' w w'
def RHas8 (q ck lg gen : Nat) (text str : ByteArray) (recs : List ByteArray) (st : St) (F : Nat -> Prop) (w : World) (e : Ending) (w' : World) : Prop :=
 ∃ p a c A,e = .returned (.tuple #[.pointer (some ⟨p,0,none⟩),.agg #[.int .u64 (gen : Int),.string text,.slice a recs.length c],.int .i64 0]) /\ RS w' p q ck lg ⟨gen,str,false⟩ st A /\ Loc F A w w' /\ StrsAt w' a recs /\ ∀ b off,a = some ⟨b,off,none⟩ -> w.heap.size <= b
def ROpened8 (q : Nat) (ck lg : Int) (r : (Nat × Nat × ByteArray × ByteArray × List ByteArray) × St) (F : Nat -> Prop) (w : World) (e : Ending) (w' : World) : Prop :=
 (r.1.1 = 0 /\ RHas8 q ck.toNat lg.toNat r.1.2.1 r.1.2.2.1 r.1.2.2.2.1 r.1.2.2.2.2 r.2 F w e w') \/ (r.1.1 ≠ 0 /\ RNo8 q r.2 F w ((r.1.1 : Nat) : Int) e w')
theorem load_gen (st : St) (o n : Int) : (st.load o n).1.1 <= 4611686018427387904 := by
 have hw : ∀ l odd,(wholeT l odd).1 <= 4611686018427387904 := fun l odd => by
   unfold wholeT
   simp only
   split
   · exact Nat.zero_le _
   · rename_i h
     split
     · show numL _ <= _; omega
     · exact Nat.zero_le _
 unfold St.load
 split
 · exact Nat.zero_le _
 · split
   · exact Nat.zero_le _
   · simp only
     split
     · exact Nat.zero_le _
     · split
       · exact hw _ _
       · exact hw _ _
structure By (w : World) (F0 : Nat -> Prop) (B p : Nat) (k l : Int) (st : St) (F : Nat -> Prop) (u : World) : Prop where
 bx : Bx w F0 B p k l st F u
 kp : u.heap[B + 1]? = some (.cells #[.int .u64 0,.string ⟨#[]⟩,.slice none 0 0] 61 (0,0))
 nK : ¬ F (B + 1)
theorem By.start {w : World} {F0 : Nat -> Prop} {p : Nat} {k l : Int} {st : St} {F : Nat -> Prop} {u : World} {B : Nat} (h : Bx w F0 B p k l st F u) (hB : u.heap.size = B + 1) : By w F0 B p k l st F (u.alloc (.cells #[.int .u64 0,.string ⟨#[]⟩,.slice none 0 0] 61)) :=
 ⟨h.keep ((Below.refl _ _).alloc (Nat.le_refl _) _),by rw [<- hB]; exact heap_alloc_last u _,fun hf => by have := h.r.lt _ hf; omega⟩
theorem By.keep {w : World} {F0 : Nat -> Prop} {B p : Nat} {k l : Int} {st : St} {F : Nat -> Prop} {u v : World} (h : By w F0 B p k l st F u) (hb : Below u.heap.size u v) : By w F0 B p k l st F v :=
 ⟨h.bx.keep hb,(hb.block _ (Array.getElem?_eq_some_iff.1 h.kp).1).trans h.kp,h.nK⟩
theorem By.step {w : World} {F0 : Nat -> Prop} {B p : Nat} {k l : Int} {st st2 : St} {F F' : Nat -> Prop} {u v : World} (h : By w F0 B p k l st F u) (hr : RD v p st2 F') (hl : Loc F F' u v) : By w F0 B p k l st2 F' v := by
 have hlt : B + 1 < u.heap.size := (Array.getElem?_eq_some_iff.1 h.kp).1
 refine ⟨h.bx.step hr hl,(hl.block _ hlt h.nK).trans h.kp,fun hf => ?_⟩
 rcases hl.own _ hf with h1 | h1
 · exact h.nK h1
 · omega
theorem By.cells {w : World} {F0 : Nat -> Prop} {B p : Nat} {k l : Int} {st : St} {F : Nat -> Prop} {u : World} (h : By w F0 B p k l st F u) :
   (u.cell? ⟨B + 1,0,none⟩ = some (.int .u64 0) /\ u.cell? ⟨B + 1,1,none⟩ = some (.string ⟨#[]⟩) /\ u.cell? ⟨B + 1,2,none⟩ = some (.slice none 0 0)) /\ ∀ i,u.frozen? ⟨B + 1,i,none⟩ = false := by
 have e := h.kp
 refine ⟨⟨?_,?_,?_⟩,fun i => by simp [World.frozen?,e]⟩ <;> simp [World.cell?,e]
theorem Loc.set_new {F0 F : Nat -> Prop} {w u : World} (h : Loc F0 F w u) (b i : Nat) (v : Value) (hb : w.heap.size <= b) : Loc F0 F w (u.setCell ⟨b,i,none⟩ v) :=
 ⟨h.os,h.tape,h.output,by rw [show (u.setCell ⟨b,i,none⟩ v).heap.size = u.heap.size from by simp [World.setCell]]; exact h.size,fun k hk hf => (Below.heap_setCell u ⟨b,i,none⟩ v k (fun e => by have : k = b := e; omega)).trans (h.block k hk hf),h.own⟩
theorem results_tct {P : Program} {fn : Func} {t c u : Tmp} {ty : TypeId} (h : fn.results = #[.tmp t,.cell c ty,.tmp u]) (tmps : Array Value) (w : World) (g : Nat) (tt : TypeId) (cs : Array Value) (fr : Nat × Nat) (d : TypeDesc)
   (hp : tmps.getD c undef = .pointer (some ⟨g,0,none⟩)) (hg : w.heap[g]? = some (.cells cs tt fr))
   (hu : P.underlying ty = some d) (hd : (match d with | .struct _ | .array _ _ => true | _ => false) = true) (hi : (P.info? ty).map (·.size) = some cs.size) :
   (results fn tmps).run P w = .ok (.tuple #[tmps.getD t undef,.agg cs,tmps.getD u undef]) w := by
 have hp' : tmps[c]?.getD undef = .pointer (some ⟨g,0,none⟩) := by simpa using hp
 simp [results,h,hp',asAddr,run_loadVar_row w g tt ty cs fr d hg hu hd hi]
theorem info61 : (Tryz.prog.info? 61).map (·.size) = some 3 := by kernel_rfl
theorem By.row {w : World} {F0 : Nat -> Prop} {B p : Nat} {k l : Int} {st : St} {F : Nat -> Prop} {u : World} (h : By w F0 B p k l st F u) (v0 v1 v2 : Value) :
   (((u.setCell ⟨B + 1,0,none⟩ v0).setCell ⟨B + 1,1,none⟩ v1).setCell ⟨B + 1,2,none⟩ v2).heap[B + 1]? = some (.cells #[v0,v1,v2] 61 (0,0)) :=
 heap_set3 (i := 2) (heap_set3 (i := 1) (heap_set3 (i := 0) h.kp v0) v1) v2
theorem By.fin {w : World} {F0 : Nat -> Prop} {B p : Nat} {k l : Int} {st : St} {F : Nat -> Prop} {u : World} (h : By w F0 B p k l st F u) (hB : w.heap.size <= B) (v0 v1 v2 : Value) :
   RD (((u.setCell ⟨B + 1,0,none⟩ v0).setCell ⟨B + 1,1,none⟩ v1).setCell ⟨B + 1,2,none⟩ v2) p st F /\ Loc F0 F w (((u.setCell ⟨B + 1,0,none⟩ v0).setCell ⟨B + 1,1,none⟩ v1).setCell ⟨B + 1,2,none⟩ v2) := by
 have hne : ∀ k,F k -> k ≠ B + 1 := fun k hk e => h.nK (e ▸ hk)
 refine ⟨h.bx.r.same (fun k hk => ?_),((h.bx.loc.set_new _ _ _ (by omega)).set_new _ _ _ (by omega)).set_new _ _ _ (by omega)⟩
 rw [Below.heap_setCell _ ⟨B + 1,2,none⟩ v2 k (hne k hk),Below.heap_setCell _ ⟨B + 1,1,none⟩ v1 k (hne k hk),Below.heap_setCell _ ⟨B + 1,0,none⟩ v0 k (hne k hk)]
theorem strs_set8 {u : World} {B i : Nat} {v : Value} {a : Option Addr} {l : List ByteArray} (h : StrsAt u a l) (hn : ∀ b off,a = some ⟨b,off,none⟩ -> b ≠ B) : StrsAt (u.setCell ⟨B,i,none⟩ v) a l := by
 rcases h with rfl | ⟨b,off,rfl,hx⟩
 · exact Or.inl rfl
 · exact Or.inr ⟨b,off,rfl,fun j hj => (World.cell?_setCell_other u ⟨B,i,none⟩ ⟨b,off + j,none⟩ v (fun e => hn b off rfl (congrArg Addr.block e).symm)).trans (hx j hj)⟩
theorem ropen_end {w z2 : World} {F F2 : Nat -> Prop} {p k l g pl n : Nat} {st2 : St} {str t : ByteArray} {recs : List ByteArray} {a : Option Addr} {c : Nat} (hK : By w F w.heap.size p (k : Int) (l : Int) st2 F2 z2) (hn : w.heap.size + 1 < n) (hL : RLAt z2 pl p (lo k l g) l str false) (hpl : n <= pl) (hst : StrsAt z2 a recs) (hnp : ¬ F2 pl) (ha : ∀ b off,a = some ⟨b,off,none⟩ -> n <= b) (hsz : str.size <= l * 255) (v0 v1 v2 : Value) :
   RHas8 p k l g t str recs st2 F w (.returned (.tuple #[.pointer (some ⟨z2.heap.size,0,none⟩),.agg #[.int .u64 (g : Int),.string t,.slice a recs.length c],.int .i64 0])) ((((z2.alloc (.cells #[.pointer (some ⟨p,0,none⟩),.int .i64 (k : Int),.int .i64 (l : Int),.int .u64 (g : Int),.pointer (some ⟨pl,0,none⟩),.bool false] 54)).setCell ⟨w.heap.size + 1,0,none⟩ v0).setCell ⟨w.heap.size + 1,1,none⟩ v1).setCell ⟨w.heap.size + 1,2,none⟩ v2) := by
 have hb3 := one_below z2 (.cells #[.pointer (some ⟨p,0,none⟩),.int .i64 (k : Int),.int .i64 (l : Int),.int .u64 (g : Int),.pointer (some ⟨pl,0,none⟩),.bool false] 54)
 have hK3 := hK.keep hb3
 obtain ⟨hr,hl⟩ := hK3.fin (Nat.le_refl _) v0 v1 v2
 have hplt := hL.lt
 have same : ∀ j,j ≠ w.heap.size + 1 -> ((((z2.alloc (.cells #[.pointer (some ⟨p,0,none⟩),.int .i64 (k : Int),.int .i64 (l : Int),.int .u64 (g : Int),.pointer (some ⟨pl,0,none⟩),.bool false] 54)).setCell ⟨w.heap.size + 1,0,none⟩ v0).setCell ⟨w.heap.size + 1,1,none⟩ v1).setCell ⟨w.heap.size + 1,2,none⟩ v2).heap[j]? = (z2.alloc (.cells #[.pointer (some ⟨p,0,none⟩),.int .i64 (k : Int),.int .i64 (l : Int),.int .u64 (g : Int),.pointer (some ⟨pl,0,none⟩),.bool false] 54)).heap[j]? := fun j hj => by
   rw [Below.heap_setCell _ ⟨w.heap.size + 1,2,none⟩ v2 j hj,Below.heap_setCell _ ⟨w.heap.size + 1,1,none⟩ v1 j hj,Below.heap_setCell _ ⟨w.heap.size + 1,0,none⟩ v0 j hj]
 have hk2 := (Array.getElem?_eq_some_iff.1 hK.kp).1
 have hne : ∀ b off,a = some ⟨b,off,none⟩ -> b ≠ w.heap.size + 1 := fun b off e => by have := ha b off e; omega
 refine ⟨z2.heap.size,a,c,fun j => F2 j \/ j = pl \/ j = z2.heap.size,rfl,⟨pl,false,F2,⟨hr,(same _ (by omega)).trans (heap_alloc_last z2 _),hL.same ((same pl (by omega)).trans (hb3.block pl hplt)),fun hf => ?_,hnp,by omega,hsz⟩,fun _ => rfl,rfl⟩,⟨hl.os,hl.tape,hl.output,hl.size,hl.block,fun j hj => ?_⟩,strs_set8 (strs_set8 (strs_set8 (hst.below hb3) hne) hne) hne,fun b off e => by have := ha b off e; omega⟩
 · have := hK.bx.r.lt _ hf; omega
 · rcases hj with h1 | rfl | rfl
   · exact hl.own j h1
   · exact Or.inr (by omega)
   · exact Or.inr (by omega)
set_option maxRecDepth 10000 in
set_option maxHeartbeats 4000000 in
theorem rOpen8 (p : Nat) (st : St) (F : Nat -> Prop) (ck lg : Int) (w : World) (h : RD w p st F) (hok : st.Ok) (hl : st.loose.length <= 8000) (hS : st.sure.length <= 400) :
   Calls Tryz.prog 29 #[.pointer (some ⟨p,0,none⟩),confV ck lg] w (ROpened8 p ck lg (stoOpen st ck lg) F w) := by
 have hcb := heap_alloc_last w (.cells #[.int .i64 ck,.int .i64 lg] 23)
 have hb0 := one_below w (.cells #[.int .i64 ck,.int .i64 lg] 23)
 have hlt : w.heap.size < (w.alloc (.cells #[.int .i64 ck,.int .i64 lg] 23)).heap.size := by simp
 have hbx : Bx w F w.heap.size p ck lg st F (w.alloc (.cells #[.int .i64 ck,.int .i64 lg] 23)) := ⟨h.below hb0,(cell_of_row _ _ 0 _ _ _ hcb).trans rfl,(cell_of_row _ _ 1 _ _ _ hcb).trans rfl,fun hf => Nat.lt_irrefl _ (h.lt _ hf),Loc.of_below _ hb0⟩
 have HBy := hide (By.start hbx (by simp))
 have HBx := hide HBy.out.bx
 have KM := hide (fun z (hr : RD z p st F) => rMayS p st F ck lg z hr)
 obtain ⟨c0,c1⟩ := HBx.out.c01
 have hsz := h.lt
 by_cases hm : st.mayS ck lg
 · obtain ⟨k,l,rfl,rfl,q1,q2,q3,q4,q5,q6⟩ := mayS_nat hm
   have hw2 : wrap64 (2 * (k : Int)) = 2 * (k : Int) := by unfold wrap64; omega
   have KL := hide (fun z (hr : RD z p st F) => rLoad_any p 0 (2 * (k : Int)) st F z hr hok (by omega) (by omega) (by omega))
   have hm0 : stoOpen st (k : Int) (l : Int) = (if (st.load 0 (2 * (k : Int))).2 ≠ 0 then (((st.load 0 (2 * (k : Int))).2,0,noText,noText,[]),st) else if (walOpen st (lo k l (st.load 0 (2 * (k : Int))).1.1) l).1.1 ≠ 0 then (((walOpen st (lo k l (st.load 0 (2 * (k : Int))).1.1) l).1.1,0,noText,noText,[]),(walOpen st (lo k l (st.load 0 (2 * (k : Int))).1.1) l).2) else ((0,(st.load 0 (2 * (k : Int))).1.1,(st.load 0 (2 * (k : Int))).1.2,(walOpen st (lo k l (st.load 0 (2 * (k : Int))).1.1) l).1.2.1,(walOpen st (lo k l (st.load 0 (2 * (k : Int))).1.1) l).1.2.2),(walOpen st (lo k l (st.load 0 (2 * (k : Int))).1.1) l).2)) := by
     unfold stoOpen
     rw [if_neg (fun x => x hm),Int.toNat_natCast,Int.toNat_natCast]
   rw [hm0]
   rw [decide_eq_true hm] at KM
   have hgen := load_gen st 0 (2 * (k : Int))
   have hcode := load_code8 st 0 (2 * (k : Int))
   generalize st.load 0 (2 * (k : Int)) = Y at *
   obtain ⟨⟨g,t⟩,y⟩ := Y
   have hgen : g <= 4611686018427387904 := hgen
   have hcode : y <= 1000 := hcode
   have HLo := hide (fun z => rLog_any k l g z q2 q4)
   have hfit : lo k l g + l <= st.sure.length := by unfold lo; rcases (by omega : g % 2 = 0 \/ g % 2 = 1) with e | e <;> rw [e] <;> omega
   have HOp := hide (fun z (hr : RD z p st F) => pROpen p (lo k l g) l st F z hr hok (by omega) hfit q3 (by omega))
   have hos := open_size hok (lo k l g) l hfit
   generalize walOpen st (lo k l g) l = O at *
   obtain ⟨R,hR⟩ : ∃ R,R = (if y ≠ 0 then ((y,0,noText,noText,[]),st) else if O.1.1 ≠ 0 then ((O.1.1,0,noText,noText,[]),O.2) else ((0,g,t,O.1.2.1,O.1.2.2),O.2)) := ⟨_,rfl⟩
   have HRr := hide hR
   show Calls _ _ _ w (ROpened8 p (k : Int) (l : Int) (if y ≠ 0 then ((y,0,noText,noText,[]),st) else if O.1.1 ≠ 0 then ((O.1.1,0,noText,noText,[]),O.2) else ((0,g,t,O.1.2.1,O.1.2.2),O.2)) F w)
   rw [<- hR]
   have hne : ∀ (z : World) (x : Nat) (s2 : St) (F2 : Nat -> Prop),x ≠ 0 -> R = ((x,0,noText,noText,[]),s2) -> RD z p s2 F2 -> Loc F F2 w z -> ROpened8 p (k : Int) (l : Int) R F w (.returned (.tuple #[.pointer none,.agg #[.int .u64 0,.string ⟨#[]⟩,.slice none 0 0],.int .i64 (x : Int)])) z := fun z x s2 F2 hx e hr hl => by
     rw [e]
     exact Or.inr ⟨hx,rfl,F2,hr,hl⟩
   have HE := hide hne
   clear hm0 hcb hb0 hlt hm hR hbx hS hne h hl hok c0 c1 hfit hgen HBx
   unfold confV at *
   go_enter Tryz.func29,Tryz.ntmps29
   go_wp2_with fail
   generalize (w.alloc (.cells #[.int .i64 (k : Int),.int .i64 (l : Int)] 23)).alloc (.cells #[.int .u64 0,.string ⟨#[]⟩,.slice none 0 0] 61) = W at *
   refine (KM.out _ HBy.out.bx.r).mono ?_
   rintro e w1 ⟨rfl,hb1⟩
   have HB1 := hide (HBy.out.keep hb1)
   obtain ⟨c0,c1⟩ := HB1.out.bx.c01
   clear hb1 HBy KM
   go_wp2_with fail
   refine (KL.out _ HB1.out.bx.r).mono ?_
   rintro e w2 ⟨rfl,hb2⟩
   have HB2 := hide (HB1.out.keep hb2)
   clear hb2 HB1 KL c0 c1
   obtain ⟨c0,c1⟩ := HB2.out.bx.c01
   by_cases y0 : y = 0
   · subst y0
     have HX : Hid (R = (if O.1.1 ≠ 0 then ((O.1.1,0,noText,noText,[]),O.2) else ((0,g,t,O.1.2.1,O.1.2.2),O.2))) := by show _ = _; rw [HRr.out,if_neg (fun x => x rfl)]
     clear HRr
     go_wp2_with fail
     have K := HB2.out.keep ((Below.refl _ _).drew)
     clear HB2 c0 c1
     by_cases o0 : O.1.1 = 0
     · have HO : Hid (∀ z,RD z p st F -> Calls Tryz.prog 62 #[.pointer (some ⟨p,0,none⟩),.int .i64 ((lo k l g : Nat) : Int),.int .i64 (l : Int)] z (RHas p (lo k l g) l O.1.2.1 O.1.2.2 O.2 F z)) := fun z hr => (HOp.out z hr).mono (by
         rintro e v (⟨_,hh⟩ | ⟨hh,_⟩)
         · exact hh
         · exact absurd o0 hh)
       have HX2 : Hid (R = ((0,g,t,O.1.2.1,O.1.2.2),O.2)) := by show _ = _; rw [HX.out,if_neg (fun x => x o0)]
       clear HX HOp o0 HE
       go_region_held3 (fun z => z.cell? ⟨w.heap.size,0,none⟩ = some (.int .i64 (k : Int)) /\ z.cell? ⟨w.heap.size,1,none⟩ = some (.int .i64 (l : Int)))
         ((with_reducible exact Bx.c01 K.bx))
         (first
           | (go_at_call 63; refine (HLo.out _).mono ?_; rintro e z1 ⟨rfl,hb1⟩; have K := By.keep K hb1)
           | (go_at_call 62; refine (HO.out _ K.bx.r).mono ?_; rintro e z2 ⟨pl,a,c,F2,rfl,hL2,hpl2,hst2,hr2,hl2,hnp2,ha2⟩; have hz1 := (Array.getElem?_eq_some_iff.1 K.kp).1; have K := By.step K hr2 hl2))
       all_goals
         have HK := hide K
         have HL2 := hide hL2
         have HSt2 := hide hst2
         have HPl := hide (And.intro hpl2 hnp2)
         have HA2 := hide ha2
         have HZ1 := hide hz1
         have HB3 := hide (one_below z2 (.cells #[.pointer (some ⟨p,0,none⟩),.int .i64 (k : Int),.int .i64 (l : Int),.int .u64 (g : Int),.pointer (some ⟨pl,0,none⟩),.bool false] 54))
         have HN3 := hide (heap_alloc_last z2 (.cells #[.pointer (some ⟨p,0,none⟩),.int .i64 (k : Int),.int .i64 (l : Int),.int .u64 (g : Int),.pointer (some ⟨pl,0,none⟩),.bool false] 54))
         have HK3 := hide (HK.out.keep HB3.out)
         obtain ⟨⟨k0,k1,k2⟩,kf⟩ := HK3.out.cells
         obtain ⟨c0,c1⟩ := HK.out.bx.c01
         have f0 := kf 0
         have f1 := kf 1
         have f2 := kf 2
         clear K hL2 hst2 hpl2 hr2 hl2 hnp2 ha2 hz1 kf
         go_wp2_with fail
         rw [HX2.out]
         exact bodyPost_ret (results_tct Tryz.results29 _ _ (w.heap.size + 1) 61 _ (0,0) _ rfl (HK3.out.row _ _ _) Tryz.underlying61 rfl info61) rfl (Or.inl ⟨rfl,by
           rw [Int.toNat_natCast,Int.toNat_natCast]
           exact ropen_end HK.out HZ1.out HL2.out HPl.out.1 HSt2.out HPl.out.2 HA2.out hos _ _ _⟩)
     · have HO : Hid (∀ z,RD z p st F -> Calls Tryz.prog 62 #[.pointer (some ⟨p,0,none⟩),.int .i64 ((lo k l g : Nat) : Int),.int .i64 (l : Int)] z (RNo p O.2 F z ((O.1.1 : Nat) : Int))) := fun z hr => (HOp.out z hr).mono (by
         rintro e v (⟨hh,_⟩ | ⟨_,hh⟩)
         · exact absurd hh o0
         · exact hh)
       have HX2 : Hid (R = ((O.1.1,0,noText,noText,[]),O.2)) := by show _ = _; rw [HX.out,if_pos o0]
       have Ho0 := hide o0
       have oz : ¬ (((O.1.1 : Nat) : Int) = 0) := by omega
       clear HX HOp o0
       go_region_held3 (fun z => z.cell? ⟨w.heap.size,0,none⟩ = some (.int .i64 (k : Int)) /\ z.cell? ⟨w.heap.size,1,none⟩ = some (.int .i64 (l : Int)))
         ((with_reducible exact Bx.c01 K.bx))
         (first
           | (go_at_call 63; refine (HLo.out _).mono ?_; rintro e z1 ⟨rfl,hb1⟩; have K := By.keep K hb1)
           | (go_at_call 62; refine (HO.out _ K.bx.r).mono ?_; rintro e z2 ⟨rfl,F2,hr2,hl2⟩; have K := By.step K hr2 hl2))
       all_goals
         have HK := hide K
         obtain ⟨⟨k0,k1,k2⟩,kf⟩ := HK.out.cells
         have f0 := kf 0
         have f1 := kf 1
         have f2 := kf 2
         clear K hr2 hl2 kf
         go_wp2
         exact bodyPost_ret (results_tct Tryz.results29 _ _ (w.heap.size + 1) 61 _ (0,0) _ rfl (HK.out.row _ _ _) Tryz.underlying61 rfl info61) rfl (HE.out _ O.1.1 O.2 F2 Ho0.out HX2.out (HK.out.fin (Nat.le_refl _) _ _ _).1 (HK.out.fin (Nat.le_refl _) _ _ _).2)
   · have yz : ¬ ((y : Int) = 0) := by omega
     have HX : Hid (R = ((y,0,noText,noText,[]),st)) := by show _ = _; rw [HRr.out,if_pos y0]
     have Hy0 := hide y0
     obtain ⟨⟨k0,k1,k2⟩,kf⟩ := HB2.out.cells
     have f0 := kf 0
     have f1 := kf 1
     have f2 := kf 2
     clear HRr kf y0
     go_wp2
     exact bodyPost_ret (results_tct Tryz.results29 _ _ (w.heap.size + 1) 61 _ (0,0) _ rfl (HB2.out.row _ _ _) Tryz.underlying61 rfl info61) rfl (HE.out _ y st F Hy0.out HX.out (HB2.out.fin (Nat.le_refl _) _ _ _).1 (HB2.out.fin (Nat.le_refl _) _ _ _).2)
 · have hs : stoOpen st ck lg = ((2,0,noText,noText,[]),st) := by unfold stoOpen; rw [if_pos hm]
   rw [hs]
   rw [decide_eq_false hm] at KM
   have HE : Hid (∀ z,RD z p st F /\ Loc F F w z -> ROpened8 p ck lg ((2,0,noText,noText,[]),st) F w (.returned (.tuple #[.pointer none,.agg #[.int .u64 0,.string ⟨#[]⟩,.slice none 0 0],.int .i64 2])) z) := fun z hz => Or.inr ⟨by show (2 : Nat) ≠ 0; decide,rfl,F,hz.1,hz.2⟩
   generalize ROpened8 p ck lg ((2,0,noText,noText,[]),st) F w = Post at *
   clear h hok hl hcb hb0 hlt hm hs hbx hS hsz
   unfold confV at *
   go_enter Tryz.func29,Tryz.ntmps29
   go_wp2_with fail
   generalize (w.alloc (.cells #[.int .i64 ck,.int .i64 lg] 23)).alloc (.cells #[.int .u64 0,.string ⟨#[]⟩,.slice none 0 0] 61) = W at *
   refine (KM.out _ HBx.out.r).mono ?_
   rintro e w1 ⟨rfl,hb1⟩
   have HB1 := hide (HBy.out.keep hb1)
   obtain ⟨⟨k0,k1,k2⟩,kf⟩ := HB1.out.cells
   have f0 := kf 0
   have f1 := kf 1
   have f2 := kf 2
   clear hb1 kf
   go_wp2
   exact bodyPost_ret (results_tct Tryz.results29 _ _ (w.heap.size + 1) 61 _ (0,0) _ rfl (HB1.out.row _ _ _) Tryz.underlying61 rfl info61) rfl (HE.out _ (HB1.out.fin (Nat.le_refl _) _ _ _))
theorem RS0.cells {u : World} {p q l : Nat} {b : Bool} {ck lg : Nat} {s : Sto} {st : St} {G : Nat -> Prop} (h : RS0 u p q l b ck lg s st G) :
   (u.cell? ⟨p,0,none⟩ = some (.pointer (some ⟨q,0,none⟩)) /\ u.cell? ⟨p,1,none⟩ = some (.int .i64 (ck : Int)) /\ u.cell? ⟨p,2,none⟩ = some (.int .i64 (lg : Int)) /\ u.cell? ⟨p,3,none⟩ = some (.int .u64 (s.gen : Int)) /\ u.cell? ⟨p,4,none⟩ = some (.pointer (some ⟨l,0,none⟩)) /\ u.cell? ⟨p,5,none⟩ = some (.bool s.broken)) /\ ∀ i,u.frozen? ⟨p,i,none⟩ = false := by
 have e := h.c
 refine ⟨⟨?_,?_,?_,?_,?_,?_⟩,fun i => by simp [World.frozen?,e]⟩ <;> simp [World.cell?,e]
theorem RS0.below {u v : World} {p q l : Nat} {b : Bool} {ck lg : Nat} {s : Sto} {st : St} {G : Nat -> Prop} (h : RS0 u p q l b ck lg s st G) (hb : Below u.heap.size u v) : RS0 v p q l b ck lg s st G :=
 ⟨h.d.below hb,(hb.block p h.plt).trans h.c,h.log.same (hb.block l h.log.lt),h.np,h.nl,h.pl,h.sz⟩
theorem RS0.disk {u v : World} {p q l : Nat} {b : Bool} {ck lg : Nat} {s : Sto} {st st2 : St} {G G2 : Nat -> Prop} (h : RS0 u p q l b ck lg s st G) (hr : RD v q st2 G2) (hl : Loc G G2 u v) : RS0 v p q l b ck lg s st2 G2 := by
 have old : ∀ j,j < u.heap.size -> ¬ G j -> ¬ G2 j := fun j hj hn hf => by
   rcases hl.own j hf with h1 | h1
   · exact hn h1
   · omega
 exact ⟨hr,(hl.block p h.plt h.np).trans h.c,h.log.same (hl.block l h.log.lt h.nl),old p h.plt h.np,old l h.log.lt h.nl,h.pl,h.sz⟩
theorem RS0.log_on {u v : World} {p q l : Nat} {b b2 : Bool} {ck lg g : Nat} {str str2 : ByteArray} {br : Bool} {st st2 : St} {G G2 : Nat -> Prop} (h : RS0 u p q l b ck lg ⟨g,str,br⟩ st G) (hL : RLAt v l q (lo ck lg g) lg str2 b2) (hr : RD v q st2 G2) (hl : Loc (fun k => G k \/ k = l) (fun k => G2 k \/ k = l) u v) (hn : ¬ G2 l) (hsz : str2.size <= lg * 255) : RS0 v p q l b2 ck lg ⟨g,str2,br⟩ st2 G2 := by
 have hp : ¬ (G p \/ p = l) := fun h1 => h1.elim h.np h.pl
 refine ⟨hr,(hl.block p h.plt hp).trans h.c,hL,fun hf => ?_,hn,h.pl,hsz⟩
 rcases hl.own p (Or.inl hf) with h1 | h1
 · exact hp h1
 · have := h.plt; omega
theorem Loc.wide {F F2 : Nat -> Prop} {X : Nat -> Prop} {u v : World} (h : Loc F F2 u v) : Loc (fun k => F k \/ X k) (fun k => F2 k \/ X k) u v :=
 ⟨h.os,h.tape,h.output,h.size,fun k hk hf => h.block k hk (fun h1 => hf (Or.inl h1)),fun k hk => hk.elim (fun h1 => (h.own k h1).elim (fun h2 => Or.inl (Or.inl h2)) Or.inr) (fun h1 => Or.inl (Or.inr h1))⟩
theorem Loc.three {G G2 : Nat -> Prop} {l p : Nat} {u v : World} (h : Loc (fun k => G k \/ k = l) (fun k => G2 k \/ k = l) u v) : Loc (fun k => G k \/ k = l \/ k = p) (fun k => G2 k \/ k = l \/ k = p) u v :=
 ⟨h.os,h.tape,h.output,h.size,fun k hk hf => h.block k hk (fun h1 => hf (h1.elim Or.inl (fun h2 => Or.inr (Or.inl h2)))),fun k hk => by
   rcases hk with h1 | h1 | h1
   · exact (h.own k (Or.inl h1)).elim (fun h2 => Or.inl (h2.elim Or.inl (fun h3 => Or.inr (Or.inl h3)))) Or.inr
   · exact Or.inl (Or.inr (Or.inl h1))
   · exact Or.inl (Or.inr (Or.inr h1))⟩
theorem RS0.break {u : World} {p q l : Nat} {b : Bool} {ck lg g : Nat} {str : ByteArray} {br : Bool} {st : St} {G : Nat -> Prop} (h : RS0 u p q l b ck lg ⟨g,str,br⟩ st G) : RS0 (u.setCell ⟨p,5,none⟩ (.bool true)) p q l b ck lg ⟨g,str,true⟩ st G /\ Loc (fun k => G k \/ k = l \/ k = p) (fun k => G k \/ k = l \/ k = p) u (u.setCell ⟨p,5,none⟩ (.bool true)) :=
 ⟨⟨h.d.same (fun k hk => Below.heap_setCell u ⟨p,5,none⟩ _ k (fun e => h.np (by rw [show k = p from e] at hk; exact hk))),heap_set3 (i := 5) h.c _,h.log.same (Below.heap_setCell u ⟨p,5,none⟩ _ l (fun e => h.pl (show l = p from e).symm)),h.np,h.nl,h.pl,h.sz⟩,Loc.setCell u _ _ (Or.inr (Or.inr rfl))⟩
theorem rTold {u : World} {p q l : Nat} {b : Bool} {ck lg g : Nat} {str : ByteArray} {br : Bool} {st : St} {G : Nat -> Prop} (h : RS0 u p q l b ck lg ⟨g,str,br⟩ st G) (e : Nat) :
   Calls Tryz.prog 101 #[.pointer (some ⟨p,0,none⟩),.int .i64 (e : Int)] u fun x v => x = .returned (.int .i64 (e : Int)) /\ RS0 v p q l b ck lg ⟨g,str,br || e == 50⟩ st G /\ Loc (fun k => G k \/ k = l \/ k = p) (fun k => G k \/ k = l \/ k = p) u v := by
 obtain ⟨⟨c0,c1,c2,c3,c4,c5⟩,kf⟩ := h.cells
 have f5 := kf 5
 have H := hide h
 clear h kf
 by_cases h50 : e = 50
 · subst h50
   have HB := hide H.out.break
   rw [show (br || (50 : Nat) == 50) = true from by simp]
   go_enter Tryz.func101,Tryz.ntmps101
   go_wp2
   go_ret
   exact ⟨rfl,HB.out.1,HB.out.2⟩
 · have ez : ¬ ((e : Int) = 50) := by omega
   have hb : (br || e == 50) = br := by simp [h50]
   rw [hb]
   clear h50 hb
   go_enter Tryz.func101,Tryz.ntmps101
   go_wp2
   go_ret
   exact ⟨rfl,H.out,Loc.refl _ _⟩
def RSSays (p q ck lg : Nat) (A : Nat -> Prop) (u : World) (r : Nat × Sto × St) (e : Ending) (v : World) : Prop := e = .returned (.int .i64 ((r.1 : Nat) : Int)) /\ ∃ A',RS v p q ck lg r.2.1 r.2.2 A' /\ Loc A A' u v
theorem append_code (st : St) (o n : Nat) (s t : ByteArray) (hN : o + n <= st.sure.length) : (walAppend st o n s t).1 <= 1000 /\ (brk st o n s t = true -> (walAppend st o n s t).1 = 50) := by
 have hp := puts_some o (prs n (blkOf s) (blkOf (s ++ frm t))) 0 st (by rw [prs_length]; exact hN) (prs_full fun k _ => blkOf_size _ _)
 obtain ⟨W,c,_,_,h3,_⟩ := hp
 have hcode : (puts o (prs n (blkOf s) (blkOf (s ++ frm t))) 0 st).1 = 0 \/ (puts o (prs n (blkOf s) (blkOf (s ++ frm t))) 0 st).1 = 50 := h3.elim (fun h => Or.inl h.1) Or.inr
 unfold walAppend brk
 constructor
 · split
   · show (4 : Nat) <= 1000; decide
   · split
     · show (6 : Nat) <= 1000; decide
     · split
       · show (puts _ _ _ _).1 <= 1000; omega
       · show (0 : Nat) <= 1000; decide
 · intro h
   have h := of_decide_eq_true h
   rw [if_neg (by omega),if_neg (by omega),if_pos h.2.2]
   show (puts _ _ _ _).1 = 50
   omega
theorem append_small (st : St) (o n : Nat) (s t : ByteArray) (hs : s.size <= n * 255) : (walAppend st o n s t).2.1.size <= n * 255 := by
 unfold walAppend
 split
 · exact hs
 · split
   · exact hs
   · split
     · exact hs
     · show (s ++ frm t).size <= _
       rw [ByteArray.size_append,frm_size]
       omega
set_option maxRecDepth 10000 in
set_option maxHeartbeats 2000000 in
theorem rsAppend (p q ck lg : Nat) (s : Sto) (t : ByteArray) (st : St) (A : Nat -> Prop) (u : World) (h : RS u p q ck lg s st A) (hok : st.Ok) (hlo : st.loose.length + lg <= 10000) (hc : Conf ck lg st.sure.length) (hn : lg <= 200) (ht : t.size <= 65536) :
   Calls Tryz.prog 71 #[.pointer (some ⟨p,0,none⟩),.string t] u (RSSays p q ck lg A u (stoAppend st ck lg s t)) := by
 obtain ⟨l,b,G,h,hbr,rfl⟩ := h
 obtain ⟨g,str,br⟩ := s
 obtain ⟨⟨c0,c1,c2,c3,c4,c5⟩,kf⟩ := h.cells
 have H := hide h
 cases br with
 | true =>
   have HE : Hid (RSSays p q ck lg (fun k => G k \/ k = l \/ k = p) u (stoAppend st ck lg ⟨g,str,true⟩ t) (.returned (.int .i64 3)) u) := ⟨rfl,_,⟨l,b,G,h,fun x => (Bool.noConfusion x),rfl⟩,Loc.refl _ _⟩
   generalize stoAppend st ck lg ⟨g,str,true⟩ t = R at *
   clear h hok hlo hc hn ht hbr kf
   go_enter Tryz.func71,Tryz.ntmps71
   go_wp2
   go_ret
   exact HE.out
 | false =>
   have hb : b = false := hbr rfl
   subst hb
   have hfit := lo_fit hc g
   have K1 := hide (pRAppend l q (lo ck lg g) lg str t st G u h.log h.d h.nl hok hlo (by have := hok.few; omega) hn h.sz ht)
   have hcode := append_code st (lo ck lg g) lg str t (by omega)
   have hsm := append_small st (lo ck lg g) lg str t h.sz
   have hR : stoAppend st ck lg ⟨g,str,false⟩ t = ((walAppend st (lo ck lg g) lg str t).1,Sto.told ⟨g,(walAppend st (lo ck lg g) lg str t).2.1,false⟩ (walAppend st (lo ck lg g) lg str t).1,(walAppend st (lo ck lg g) lg str t).2.2) := by unfold stoAppend; rw [if_neg (by simp)]
   rw [hR]
   generalize walAppend st (lo ck lg g) lg str t = X at *
   generalize brk st (lo ck lg g) lg str t = bk at *
   have HCd := hide hcode
   have HSm := hide hsm
   clear h hok hlo hc hn ht hbr kf hfit hR hcode hsm
   go_enter Tryz.func71,Tryz.ntmps71
   go_wp2_with fail
   refine K1.out.mono ?_
   rintro e v1 ⟨rfl,hL,G2,hr,hl,hn2⟩
   have h1 := H.out.log_on hL hr hl hn2 HSm.out
   have KT := hide (rTold h1 X.1)
   have HL1 : Hid (Loc (fun k => G k \/ k = l \/ k = p) (fun k => G2 k \/ k = l \/ k = p) u v1) := hl.three
   clear hL hr hl hn2 h1
   go_wp2_with fail
   refine KT.out.mono ?_
   rintro e v2 ⟨rfl,h2,hl2⟩
   have HE : Hid (RSSays p q ck lg (fun k => G k \/ k = l \/ k = p) u (X.1,Sto.told ⟨g,X.2.1,false⟩ X.1,X.2.2) (.returned (.int .i64 ((X.1 : Nat) : Int))) v2) := ⟨rfl,_,⟨l,bk,G2,h2,fun x => by
     cases hbk : bk with
     | false => rfl
     | true =>
       exfalso
       have := HCd.out.2 hbk
       have x : (false || X.1 == 50) = false := x
       rw [this] at x
       exact Bool.noConfusion x,rfl⟩,HL1.out.trans hl2⟩
   clear h2 hl2
   go_wp2
   go_ret
   exact HE.out
set_option maxRecDepth 10000 in
set_option maxHeartbeats 2000000 in
theorem rsSync (p q ck lg : Nat) (s : Sto) (st : St) (A : Nat -> Prop) (u : World) (h : RS u p q ck lg s st A) (hok : st.Ok) (hlo : st.loose.length <= 10000) :
   Calls Tryz.prog 72 #[.pointer (some ⟨p,0,none⟩)] u (RSSays p q ck lg A u (stoSync st s)) := by
 obtain ⟨l,b,G,h,hbr,rfl⟩ := h
 obtain ⟨g,str,br⟩ := s
 obtain ⟨⟨c0,c1,c2,c3,c4,c5⟩,kf⟩ := h.cells
 have H := hide h
 cases br with
 | true =>
   have HE : Hid (RSSays p q ck lg (fun k => G k \/ k = l \/ k = p) u (stoSync st ⟨g,str,true⟩) (.returned (.int .i64 3)) u) := ⟨rfl,_,⟨l,b,G,h,fun x => (Bool.noConfusion x),rfl⟩,Loc.refl _ _⟩
   generalize stoSync st ⟨g,str,true⟩ = R at *
   clear h hok hlo hbr kf
   go_enter Tryz.func72,Tryz.ntmps72
   go_wp2
   go_ret
   exact HE.out
 | false =>
   have hb : b = false := hbr rfl
   subst hb
   have K1 := hide (rd_sync q st G u h.d hok (by omega))
   have hR : stoSync st ⟨g,str,false⟩ = (st.sync.1,Sto.told ⟨g,str,false⟩ st.sync.1,st.sync.2) := by unfold stoSync; rw [if_neg (by simp)]
   rw [hR]
   generalize st.sync = X at *
   clear h hok hlo hbr kf hR
   go_enter Tryz.func72,Tryz.ntmps72
   go_wp2_with fail
   refine K1.out.mono ?_
   rintro e v1 ⟨rfl,G2,hr,hl⟩
   have h1 := H.out.disk hr hl
   have KT := hide (rTold h1 X.1)
   have HL1 : Hid (Loc (fun k => G k \/ k = l \/ k = p) (fun k => G2 k \/ k = l \/ k = p) u v1) := hl.wide
   clear hr hl h1
   go_wp2_with fail
   refine KT.out.mono ?_
   rintro e v2 ⟨rfl,h2,hl2⟩
   have HE : Hid (RSSays p q ck lg (fun k => G k \/ k = l \/ k = p) u (X.1,Sto.told ⟨g,str,false⟩ X.1,X.2) (.returned (.int .i64 ((X.1 : Nat) : Int))) v2) := ⟨rfl,_,⟨l,false,G2,h2,fun _ => rfl,rfl⟩,HL1.out.trans hl2⟩
   clear h2 hl2
   go_wp2
   go_ret
   exact HE.out
theorem write_long8 (st : St) (b : Int) (d : ByteArray) : (st.write b d).2.sure.length = st.sure.length := by
 unfold St.write
 split
 · rfl
 · split
   · rfl
   · split <;> rfl
theorem sync_long8 (st : St) : st.sync.2.sure.length = st.sure.length := by
 unfold St.sync
 split
 · rfl
 · exact laid_length _ _
theorem andT_long {L : Nat} {r : Nat × St} {f : St -> Nat × St} (h : r.2.sure.length = L) (hf : ∀ s,s.sure.length = L -> (f s).2.sure.length = L) : (andT r f).2.sure.length = L := by
 unfold andT
 split
 · exact hf _ h
 · exact h
theorem putsT_long (o : Nat) (t : ByteArray) : ∀ (n i : Nat) (st : St),(putsT o t n i st).2.sure.length = st.sure.length
 | 0,_,_ => rfl
 | n + 1,i,st => andT_long (L := st.sure.length) (write_long8 _ _ _) (fun s hs => by rw [putsT_long o t n (i + 1) s]; exact hs)
theorem saveAt_long (a g : Nat) (t : ByteArray) (st : St) : (saveAt a g t st).2.sure.length = st.sure.length := by
 unfold saveAt
 exact andT_long (andT_long (andT_long (andT_long (andT_long (write_long8 _ _ _) (fun s hs => by rw [sync_long8]; exact hs)) (fun s hs => by rw [putsT_long]; exact hs)) (fun s hs => by rw [sync_long8]; exact hs)) (fun s hs => by rw [write_long8]; exact hs)) (fun s hs => by rw [sync_long8]; exact hs)
theorem save_long (st : St) (o n : Int) (g : Nat) (t : ByteArray) : (st.save o n g t).2.sure.length = st.sure.length := by
 unfold St.save
 split
 · rfl
 · split
   · rfl
   · split
     · rfl
     · exact saveAt_long _ _ _ _
theorem save_ok8 {st : St} (h : st.Ok) (o n : Int) (g : Nat) (t : ByteArray) : (st.save o n g t).2.Ok := by
 unfold St.save
 split
 · exact h
 · split
   · exact h
   · split
     · exact h
     · exact saveAt_ok h _ _ _
theorem save_bare (st : St) (o n : Int) (g : Nat) (t : ByteArray) (h : (st.save o n g t).1 = 0) : (st.save o n g t).2.loose = [] := by
 have key : ∀ r : Nat × St,(andT r St.sync).1 = 0 -> (andT r St.sync).2.loose = [] := fun r h => by
   unfold andT at *
   by_cases h0 : r.1 = 0
   · rw [if_pos h0] at h ⊢
     unfold St.sync at *
     by_cases h1 : r.2.left = 0
     · rw [if_pos h1] at h; exact absurd h (show ¬ (50 : Nat) = 0 by decide)
     · rw [if_neg h1]
   · rw [if_neg h0] at h; exact absurd h h0
 unfold St.save at *
 split at h
 · exact absurd h (show ¬ (2 : Nat) = 0 by decide)
 · rename_i h1
   split at h
   · exact absurd h (show ¬ (2 : Nat) = 0 by decide)
   · rename_i h2
     split at h
     · exact absurd h (show ¬ (4 : Nat) = 0 by decide)
     · rename_i h3
       rw [if_neg h1,if_neg h2,if_neg h3]
       exact key _ h
theorem clear_long (o n : Nat) (st : St) (hl : o + n <= st.sure.length) : (walClear st o n).2.sure.length = st.sure.length /\ ((walClear st o n).1 = 0 -> (walClear st o n).2.loose = []) := by
 rcases clear_cases o n st hl with ⟨W,c,e,_⟩ | ⟨c,e⟩
 · rw [e]; exact ⟨rfl,fun h => absurd h (show ¬ (50 : Nat) = 0 by decide)⟩
 · rw [e]; exact ⟨by show (laid _ _).length = _; rw [laid_length,laid_length],fun _ => rfl⟩
theorem RS0.turn {u : World} {p q l l2 : Nat} {b : Bool} {ck lg g g1 : Nat} {str str2 : ByteArray} {br : Bool} {st : St} {G : Nat -> Prop} (h : RS0 u p q l b ck lg ⟨g,str,br⟩ st G) (hL : RLAt u l2 q (lo ck lg g1) lg str2 false) (hn : ¬ G l2) (hp : p ≠ l2) (hsz : str2.size <= lg * 255) :
   RS0 ((u.setCell ⟨p,4,none⟩ (.pointer (some ⟨l2,0,none⟩))).setCell ⟨p,3,none⟩ (.int .u64 (g1 : Int))) p q l2 false ck lg ⟨g1,str2,br⟩ st G := by
 have hs : ∀ k,k ≠ p -> ((u.setCell ⟨p,4,none⟩ (.pointer (some ⟨l2,0,none⟩))).setCell ⟨p,3,none⟩ (.int .u64 (g1 : Int))).heap[k]? = u.heap[k]? := fun k hk => (Below.heap_setCell _ ⟨p,3,none⟩ _ k hk).trans (Below.heap_setCell u ⟨p,4,none⟩ _ k hk)
 exact ⟨h.d.same (fun k hk => hs k (fun e => h.np (e ▸ hk))),heap_set3 (i := 3) (heap_set3 (i := 4) h.c _) _,hL.same (hs l2 (fun e => hp e.symm)),h.np,hn,hp,hsz⟩
structure RT (u0 : World) (A0 : Nat -> Prop) (p q l : Nat) (b : Bool) (ck lg : Nat) (s : Sto) (st : St) (G : Nat -> Prop) (z : World) : Prop where
 s : RS0 z p q l b ck lg s st G
 loc : Loc A0 (fun k => G k \/ k = l \/ k = p) u0 z
theorem RT.below {u0 : World} {A0 : Nat -> Prop} {p q l : Nat} {b : Bool} {ck lg : Nat} {s : Sto} {st : St} {G : Nat -> Prop} {z v : World} (h : RT u0 A0 p q l b ck lg s st G z) (hb : Below z.heap.size z v) : RT u0 A0 p q l b ck lg s st G v := ⟨h.s.below hb,h.loc.trans (Loc.of_below _ hb)⟩
theorem RT.disk {u0 : World} {A0 : Nat -> Prop} {p q l : Nat} {b : Bool} {ck lg : Nat} {s : Sto} {st st2 : St} {G G2 : Nat -> Prop} {z v : World} (h : RT u0 A0 p q l b ck lg s st G z) (hr : RD v q st2 G2) (hl : Loc G G2 z v) : RT u0 A0 p q l b ck lg s st2 G2 v := ⟨h.s.disk hr hl,h.loc.trans hl.wide⟩
theorem RT.told {u0 : World} {A0 : Nat -> Prop} {p q l : Nat} {b : Bool} {ck lg g : Nat} {str : ByteArray} {br : Bool} {st : St} {G : Nat -> Prop} {z : World} (h : RT u0 A0 p q l b ck lg ⟨g,str,br⟩ st G z) (e : Nat) :
   Calls Tryz.prog 101 #[.pointer (some ⟨p,0,none⟩),.int .i64 (e : Int)] z fun x v => x = .returned (.int .i64 (e : Int)) /\ RT u0 A0 p q l b ck lg ⟨g,str,br || e == 50⟩ st G v :=
 (rTold h.s e).mono (by rintro x v ⟨he,h2,hl⟩; exact ⟨he,h2,h.loc.trans hl⟩)
theorem RT.c03 {u0 : World} {A0 : Nat -> Prop} {p q l : Nat} {b : Bool} {ck lg g : Nat} {str : ByteArray} {br : Bool} {st : St} {G : Nat -> Prop} {z : World} (h : RT u0 A0 p q l b ck lg ⟨g,str,br⟩ st G z) :
   z.cell? ⟨p,0,none⟩ = some (.pointer (some ⟨q,0,none⟩)) /\ z.cell? ⟨p,1,none⟩ = some (.int .i64 (ck : Int)) /\ z.cell? ⟨p,2,none⟩ = some (.int .i64 (lg : Int)) /\ z.cell? ⟨p,3,none⟩ = some (.int .u64 (g : Int)) := ⟨h.s.cells.1.1,h.s.cells.1.2.1,h.s.cells.1.2.2.1,h.s.cells.1.2.2.2.1⟩
theorem RT.says {u0 : World} {A0 : Nat -> Prop} {p q l : Nat} {ck lg : Nat} {s : Sto} {st : St} {G : Nat -> Prop} {z : World} (h : RT u0 A0 p q l false ck lg s st G z) (c : Nat) : RSSays p q ck lg A0 u0 (c,s,st) (.returned (.int .i64 (c : Int))) z := ⟨rfl,_,⟨l,false,G,h.s,fun _ => rfl,rfl⟩,h.loc⟩
theorem RT.turn {u0 : World} {A0 : Nat -> Prop} {p q l l2 : Nat} {b : Bool} {ck lg g g1 : Nat} {str str2 : ByteArray} {br : Bool} {st : St} {G : Nat -> Prop} {z : World} (h : RT u0 A0 p q l b ck lg ⟨g,str,br⟩ st G z) (hL : RLAt z l2 q (lo ck lg g1) lg str2 false) (hn : ¬ G l2) (hp : p ≠ l2) (hnew : u0.heap.size <= l2) (hsz : str2.size <= lg * 255) :
   RT u0 A0 p q l2 false ck lg ⟨g1,str2,br⟩ st G ((z.setCell ⟨p,4,none⟩ (.pointer (some ⟨l2,0,none⟩))).setCell ⟨p,3,none⟩ (.int .u64 (g1 : Int))) := by
 have hl := (h.loc.trans (Loc.setCell z ⟨p,4,none⟩ (.pointer (some ⟨l2,0,none⟩)) (Or.inr (Or.inr rfl)))).trans (Loc.setCell _ ⟨p,3,none⟩ (.int .u64 (g1 : Int)) (Or.inr (Or.inr rfl)))
 refine ⟨h.s.turn hL hn hp hsz,⟨hl.os,hl.tape,hl.output,hl.size,hl.block,fun k hk => ?_⟩⟩
 rcases hk with h1 | rfl | h1
 · exact hl.own k (Or.inl h1)
 · exact Or.inr hnew
 · exact hl.own k (Or.inr (Or.inr h1))
set_option maxRecDepth 10000 in
set_option maxHeartbeats 4000000 in
theorem rsTrim (p q ck lg : Nat) (s : Sto) (t : ByteArray) (st : St) (A : Nat -> Prop) (u : World) (h : RS u p q ck lg s st A) (hok : st.Ok) (hlo : st.loose.length + lg <= 10000) (hc : Conf ck lg st.sure.length) (hn : lg <= 200) (ht : t.size <= 100000) (hg : s.gen < 18446744073709551616) :
   Calls Tryz.prog 73 #[.pointer (some ⟨p,0,none⟩),.string t] u (RSSays p q ck lg A u (stoTrim st ck lg s t)) := by
 obtain ⟨l,b,G,h,hbr,rfl⟩ := h
 obtain ⟨g,str,br⟩ := s
 have hg : g < 18446744073709551616 := hg
 obtain ⟨⟨c0,c1,c2,c3,c4,c5⟩,kf⟩ := h.cells
 have H := hide h
 cases br with
 | true =>
   have HE : Hid (RSSays p q ck lg (fun k => G k \/ k = l \/ k = p) u (stoTrim st ck lg ⟨g,str,true⟩ t) (.returned (.int .i64 3)) u) := ⟨rfl,_,⟨l,b,G,h,fun x => (Bool.noConfusion x),rfl⟩,Loc.refl _ _⟩
   generalize stoTrim st ck lg ⟨g,str,true⟩ t = R at *
   clear h hok hlo hc hn ht hbr kf hg
   go_enter Tryz.func73,Tryz.ntmps73
   go_wp2
   go_ret
   exact HE.out
 | false =>
   have hb : b = false := hbr rfl
   subst hb
   obtain ⟨R,hR⟩ : ∃ R,R = stoTrim st ck lg ⟨g,str,false⟩ t := ⟨_,rfl⟩
   rw [<- hR]
   obtain ⟨A0,hA0⟩ : ∃ A0 : Nat -> Prop,A0 = (fun k => G k \/ k = l \/ k = p) := ⟨_,rfl⟩
   rw [<- hA0]
   have HT0 : Hid (RT u A0 p q l false ck lg ⟨g,str,false⟩ st G u) := ⟨h,by rw [hA0]; exact Loc.refl _ _⟩
   have HRef : Hid (∀ c,R = (c,⟨g,str,false⟩,st) -> RSSays p q ck lg A0 u R (.returned (.int .i64 (c : Int))) u) := fun c e => by
     rw [e,hA0]
     exact ⟨rfl,_,⟨l,false,G,h,fun _ => rfl,rfl⟩,Loc.refl _ _⟩
   by_cases hgm : 4611686018427387904 <= g
   · have hz : (4611686018427387904 : Int) <= (g : Int) := by omega
     have HE := hide (HRef.out 2 (by rw [hR]; unfold stoTrim; rw [if_neg (by simp),if_pos hgm]))
     clear h hok hlo hc hn ht hbr kf hR HRef hgm hg hA0
     go_enter Tryz.func73,Tryz.ntmps73
     go_wp2
     go_ret
     exact HE.out
   have hgz : ¬ ((4611686018427387904 : Int) <= (g : Int)) := by omega
   have hck := hc.ck256
   have hck2 := hc.ck2
   have hw2 : wrap64 (2 * (ck : Int)) = 2 * (ck : Int) := by unfold wrap64; omega
   have KR := hide (fun z => rRoom_any (2 * (ck : Int)) z (by omega))
   by_cases hlong : room (2 * (ck : Int)) < (t.size : Int)
   · have HE := hide (HRef.out 4 (by rw [hR]; unfold stoTrim; rw [if_neg (by simp),if_neg hgm,if_pos hlong]))
     generalize room (2 * (ck : Int)) = rm at *
     clear h hok hlo hc hn ht hbr kf hR HRef hgm hg hA0
     go_enter Tryz.func73,Tryz.ntmps73
     go_wp2_with fail
     refine (KR.out _).mono ?_
     rintro e v1 ⟨rfl,hv1⟩
     obtain rfl := hv1.symm
     go_wp2
     go_ret
     exact HE.out
   have hw1 : ((g : Int) + 1) % 18446744073709551616 = ((g + 1 : Nat) : Int) := by omega
   have hwu : IntKind.u64.wrap ((g : Int) + 1) = ((g + 1 : Nat) : Int) := by rw [IntKind.wrap_u64]; omega
   have hwi : IntKind.i64.wrap (2 * (ck : Int)) = 2 * (ck : Int) := by rw [IntKind.wrap_i64]; omega
   have hlgz := hc.lg1024
   have HLo := hide (fun z => rLog_any ck lg (g + 1) z hck hlgz)
   have hfit := lo_fit hc (g + 1)
   have hlg1 := hc.lg1
   have HCl := hide (fun z G1 (hr : RD z q st G1) => rClear q (lo ck lg (g + 1)) lg st G1 z hr hok hlo (by omega) hlg1)
   have hcl := clear_long (lo ck lg (g + 1)) lg st (by omega)
   have hokC := clear_ok hok (lo ck lg (g + 1)) lg
   have hRC : (walClear st (lo ck lg (g + 1)) lg).1 ≠ 0 -> R = ((walClear st (lo ck lg (g + 1)) lg).1,Sto.told ⟨g,str,false⟩ (walClear st (lo ck lg (g + 1)) lg).1,(walClear st (lo ck lg (g + 1)) lg).2) := fun h0 => by
     rw [hR]; unfold stoTrim; rw [if_neg (by simp),if_neg hgm,if_neg hlong,if_pos h0]
   have hRV : (walClear st (lo ck lg (g + 1)) lg).1 = 0 -> ((walClear st (lo ck lg (g + 1)) lg).2.save 0 (2 * (ck : Int)) (g + 1) t).1 ≠ 0 -> R = (((walClear st (lo ck lg (g + 1)) lg).2.save 0 (2 * (ck : Int)) (g + 1) t).1,Sto.told ⟨g,str,false⟩ ((walClear st (lo ck lg (g + 1)) lg).2.save 0 (2 * (ck : Int)) (g + 1) t).1,((walClear st (lo ck lg (g + 1)) lg).2.save 0 (2 * (ck : Int)) (g + 1) t).2) := fun h0 h1 => by
     rw [hR]; unfold stoTrim; rw [if_neg (by simp),if_neg hgm,if_neg hlong,if_neg (fun x => x h0),if_pos h1]
   have hRO : (walClear st (lo ck lg (g + 1)) lg).1 = 0 -> ((walClear st (lo ck lg (g + 1)) lg).2.save 0 (2 * (ck : Int)) (g + 1) t).1 = 0 -> R = (if (walOpen ((walClear st (lo ck lg (g + 1)) lg).2.save 0 (2 * (ck : Int)) (g + 1) t).2 (lo ck lg (g + 1)) lg).1.1 ≠ 0 then
       ((walOpen ((walClear st (lo ck lg (g + 1)) lg).2.save 0 (2 * (ck : Int)) (g + 1) t).2 (lo ck lg (g + 1)) lg).1.1,Sto.told ⟨g,str,false⟩ (walOpen ((walClear st (lo ck lg (g + 1)) lg).2.save 0 (2 * (ck : Int)) (g + 1) t).2 (lo ck lg (g + 1)) lg).1.1,(walOpen ((walClear st (lo ck lg (g + 1)) lg).2.save 0 (2 * (ck : Int)) (g + 1) t).2 (lo ck lg (g + 1)) lg).2)
     else (0,⟨g + 1,(walOpen ((walClear st (lo ck lg (g + 1)) lg).2.save 0 (2 * (ck : Int)) (g + 1) t).2 (lo ck lg (g + 1)) lg).1.2.1,false⟩,(walOpen ((walClear st (lo ck lg (g + 1)) lg).2.save 0 (2 * (ck : Int)) (g + 1) t).2 (lo ck lg (g + 1)) lg).2)) := fun h0 h1 => by
     rw [hR]; unfold stoTrim; rw [if_neg (by simp),if_neg hgm,if_neg hlong,if_neg (fun x => x h0),if_neg (fun x => x h1)]
   generalize walClear st (lo ck lg (g + 1)) lg = C at *
   have hsl := save_long C.2 0 (2 * (ck : Int)) (g + 1) t
   have hsk := save_ok8 hokC 0 (2 * (ck : Int)) (g + 1) t
   have hsb := save_bare C.2 0 (2 * (ck : Int)) (g + 1) t
   have HSv : Hid (C.1 = 0 -> ∀ z G1,RD z q C.2 G1 -> Calls Tryz.prog 65 #[.pointer (some ⟨q,0,none⟩),.int .i64 0,.int .i64 (2 * (ck : Int)),.int .u64 ((g + 1 : Nat) : Int),.string t] z (RSays q G1 z (C.2.save 0 (2 * (ck : Int)) (g + 1) t))) := fun h0 z G1 hr => rSave_any q 0 (2 * (ck : Int)) (g + 1) t C.2 G1 z hr hokC (by rw [hcl.2 h0]; decide) hokC.few (by omega) ht (by omega)
   generalize C.2.save 0 (2 * (ck : Int)) (g + 1) t = V at *
   have hfit2 : lo ck lg (g + 1) + lg <= V.2.sure.length := by rw [hsl,hcl.1]; omega
   have HOp : Hid (V.1 = 0 -> ∀ z G1,RD z q V.2 G1 -> Calls Tryz.prog 62 #[.pointer (some ⟨q,0,none⟩),.int .i64 ((lo ck lg (g + 1) : Nat) : Int),.int .i64 (lg : Int)] z (ROpened q (lo ck lg (g + 1)) lg (walOpen V.2 (lo ck lg (g + 1)) lg) G1 z)) := fun h0 z G1 hr => pROpen q (lo ck lg (g + 1)) lg V.2 G1 z hr hsk (by rw [hsb h0]; simp; omega) hfit2 hlg1 hn
   have hos := open_size hsk (lo ck lg (g + 1)) lg hfit2
   generalize walOpen V.2 (lo ck lg (g + 1)) lg = O at *
   have HRC := hide hRC
   have HRV := hide hRV
   have HRO := hide hRO
   have HOs := hide hos
   generalize room (2 * (ck : Int)) = rm at *
   generalize hat : lo ck lg (g + 1) = at1 at *
   have HAt := hide hat.symm
   clear hat
   unfold confV at HLo
   have hg1 : ((g : Int) + 1) = ((g + 1 : Nat) : Int) := by omega
   have HG1 := hide hg1
   clear hg1
   generalize g + 1 = g1 at *
   clear h hok hlo hc hn ht hbr kf hR HRef hgm hg hA0 hRC hRV hRO hos hfit hfit2 hsl hsk hsb hcl hokC hck hck2 hlgz hlg1
   go_enter Tryz.func73,Tryz.ntmps73
   go_wp2_with fail
   refine (KR.out _).mono ?_
   rintro e v1 ⟨rfl,hv1⟩
   obtain rfl := hv1.symm
   have HW1 := hide (And.intro hw1 hwu)
   have HW2 := hide (And.intro hw2 hwi)
   clear hv1 KR hw1 hg hw2 hgz hwu hwi
   go_upto_region 7 with fail
   clear hlong
   obtain ⟨hw1,hwu⟩ := HW1.out
   go_wp2_with fail
   clear H c0 c1 c2 c3 c4 c5
   have K := HT0.out.below ((Below.refl _ _).drew)
   clear HT0
   go_region_held3 (fun z => z.cell? ⟨p,0,none⟩ = some (.pointer (some ⟨q,0,none⟩)) /\ z.cell? ⟨p,1,none⟩ = some (.int .i64 (ck : Int)) /\ z.cell? ⟨p,2,none⟩ = some (.int .i64 (lg : Int)) /\ z.cell? ⟨p,3,none⟩ = some (.int .u64 (g : Int)))
     ((with_reducible exact RT.c03 K))
     (first
       | (go_at_call 63; refine (HLo.out _).mono ?_; rintro e z1 ⟨rfl,hb1⟩; have K := RT.below K hb1))
   all_goals
     have HK1 := hide K
     clear K hw1 hwu
     go_wp2_with fail
     have K := HK1.out.below ((Below.refl _ _).drew)
     clear HK1
     go_region_held3 (fun z => z.cell? ⟨p,0,none⟩ = some (.pointer (some ⟨q,0,none⟩)) /\ z.cell? ⟨p,1,none⟩ = some (.int .i64 (ck : Int)) /\ z.cell? ⟨p,2,none⟩ = some (.int .i64 (lg : Int)) /\ z.cell? ⟨p,3,none⟩ = some (.int .u64 (g : Int)))
       ((with_reducible exact RT.c03 K))
       (first
         | (go_at_call 64; refine (HCl.out _ _ K.s.d).mono ?_; rintro e z2 ⟨rfl,G2,hr2,hl2⟩; have K := RT.disk K hr2 hl2)
         | (go_at_call 101; refine (RT.told K C.1).mono ?_; rintro e z3 ⟨rfl,K⟩))
     all_goals
       have HK2 := hide K
       clear K
       by_cases x0 : C.1 = 0
       · have xz : ((C.1 : Nat) : Int) = 0 := by omega
         have KS := hide (HSv.out x0)
         have HRV2 := hide (HRV.out x0)
         have HRO2 := hide (HRO.out x0)
         have HK3 : Hid (RT u A0 p q l false ck lg ⟨g,str,false⟩ C.2 G2 z3) := by
           have := HK2.out
           rw [x0] at this
           exact this
         obtain ⟨hw1,hwu⟩ := HW1.out
         obtain ⟨hw2,hwi⟩ := HW2.out
         clear HRC HRV HRO HSv x0 HK2
         go_wp2_with fail
         have K := HK3.out.below ((Below.refl _ _).drew)
         clear HK3
         go_region_held3 (fun z => z.cell? ⟨p,0,none⟩ = some (.pointer (some ⟨q,0,none⟩)) /\ z.cell? ⟨p,1,none⟩ = some (.int .i64 (ck : Int)) /\ z.cell? ⟨p,2,none⟩ = some (.int .i64 (lg : Int)) /\ z.cell? ⟨p,3,none⟩ = some (.int .u64 (g : Int)))
           ((with_reducible exact RT.c03 K))
           (first
             | (go_at_call 65; refine (KS.out _ _ K.s.d).mono ?_; rintro e z4 ⟨rfl,G3,hr3,hl3⟩; have K := RT.disk K hr3 hl3)
             | (go_at_call 101; refine (RT.told K V.1).mono ?_; rintro e z5 ⟨rfl,K⟩))
         all_goals
           have HK4 := hide K
           clear K hw1 hwu hw2 hwi
           by_cases y0 : V.1 = 0
           · have yz : ((V.1 : Nat) : Int) = 0 := by omega
             have KO := hide (HOp.out y0)
             have HRO3 := hide (HRO2.out y0)
             have HK5 : Hid (RT u A0 p q l false ck lg ⟨g,str,false⟩ V.2 G3 z5) := by
               have := HK4.out
               rw [y0] at this
               exact this
             clear HRV2 HRO2 HOp y0 HK4
             by_cases o0 : O.1.1 = 0
             · have HO : Hid (∀ z G1,RD z q V.2 G1 -> Calls Tryz.prog 62 #[.pointer (some ⟨q,0,none⟩),.int .i64 (at1 : Int),.int .i64 (lg : Int)] z (RHas q at1 lg O.1.2.1 O.1.2.2 O.2 G1 z)) := fun z G1 hr => (KO.out z G1 hr).mono (by
                 rintro e v (⟨_,hh⟩ | ⟨hh,_⟩)
                 · exact hh
                 · exact absurd o0 hh)
               have HX : Hid (R = (0,⟨g1,O.1.2.1,false⟩,O.2)) := by show _ = _; rw [HRO3.out,if_neg (fun x => x o0)]
               clear HRO3 KO o0
               go_wp2_with fail
               have K := HK5.out.below ((Below.refl _ _).drew)
               clear HK5
               go_region_held3 (fun z => z.cell? ⟨p,0,none⟩ = some (.pointer (some ⟨q,0,none⟩)) /\ z.cell? ⟨p,1,none⟩ = some (.int .i64 (ck : Int)) /\ z.cell? ⟨p,2,none⟩ = some (.int .i64 (lg : Int)) /\ z.cell? ⟨p,3,none⟩ = some (.int .u64 (g : Int)))
                 ((with_reducible exact RT.c03 K))
                 (first
                   | (go_at_call 62; refine (HO.out _ _ K.s.d).mono ?_; rintro e z6 ⟨pl,a,c,G4,rfl,hL6,hpl6, -,hr6,hl6,hn6, -⟩; have hzs := K.loc.size; have hpz := K.s.plt; have K := RT.disk K hr6 hl6))
               all_goals
                 have HK6 := hide K
                 have HT6 := hide (RT.turn (g1 := g1) K (by have e := HAt.out; subst e; exact hL6) hn6 (by omega) (by omega) HOs.out)
                 obtain ⟨⟨c0,c1,c2,c3,c4,c5⟩,kf⟩ := K.s.cells
                 have f3 := kf 3
                 have f4 := kf 4
                 obtain ⟨hw1,hwu⟩ := HW1.out
                 clear K hL6 hpl6 hr6 hl6 hn6 hzs hpz kf
                 go_wp2
                 go_ret
                 rw [HX.out]
                 exact HT6.out.says 0
             · have HO : Hid (∀ z G1,RD z q V.2 G1 -> Calls Tryz.prog 62 #[.pointer (some ⟨q,0,none⟩),.int .i64 (at1 : Int),.int .i64 (lg : Int)] z (RNo q O.2 G1 z ((O.1.1 : Nat) : Int))) := fun z G1 hr => (KO.out z G1 hr).mono (by
                 rintro e v (⟨hh,_⟩ | ⟨_,hh⟩)
                 · exact absurd hh o0
                 · exact hh)
               have HX : Hid (R = (O.1.1,Sto.told ⟨g,str,false⟩ O.1.1,O.2)) := by show _ = _; rw [HRO3.out,if_pos o0]
               have oz : ¬ (((O.1.1 : Nat) : Int) = 0) := by omega
               clear HRO3 KO o0
               go_wp2_with fail
               have K := HK5.out.below ((Below.refl _ _).drew)
               clear HK5
               go_region_held3 (fun z => z.cell? ⟨p,0,none⟩ = some (.pointer (some ⟨q,0,none⟩)) /\ z.cell? ⟨p,1,none⟩ = some (.int .i64 (ck : Int)) /\ z.cell? ⟨p,2,none⟩ = some (.int .i64 (lg : Int)) /\ z.cell? ⟨p,3,none⟩ = some (.int .u64 (g : Int)))
                 ((with_reducible exact RT.c03 K))
                 (first
                   | (go_at_call 62; refine (HO.out _ _ K.s.d).mono ?_; rintro e z6 ⟨rfl,G4,hr6,hl6⟩; have K := RT.disk K hr6 hl6))
               all_goals
                 have HK6 := hide K
                 have KT := hide (RT.told K O.1.1)
                 clear K hr6 hl6
                 go_wp2_with fail
                 refine KT.out.mono ?_
                 rintro e z7 ⟨rfl,h7⟩
                 have HK7 := hide h7
                 clear h7 KT
                 go_wp2
                 go_ret
                 rw [HX.out]
                 exact HK7.out.says O.1.1
           · have yz : ¬ (((V.1 : Nat) : Int) = 0) := by omega
             have HX := hide (HRV2.out y0)
             clear HRV2 HRO2 HOp y0
             go_wp2
             go_ret
             rw [HX.out]
             exact HK4.out.says V.1
       · have xz : ¬ (((C.1 : Nat) : Int) = 0) := by omega
         have HX := hide (HRC.out x0)
         clear HRC HRV HRO HSv x0
         go_wp2
         go_ret
         rw [HX.out]
         exact HK2.out.says C.1
def PNo8 (q : Nat) (st : St) (F : Nat -> Prop) (w : World) (x : Int) (e : Ending) (w' : World) : Prop := e = .returned (.tuple #[.pointer none,.agg #[.int .u64 0,.string ⟨#[]⟩,.slice none 0 0],.int .i64 x]) /\ ∃ F',DAt w' q st F' /\ Loc F F' w w'
def PHas8 (PS : World -> Nat -> Nat -> Nat -> Nat -> Sto -> St -> (Nat -> Prop) -> Prop) (q ck lg gen : Nat) (text str : ByteArray) (recs : List ByteArray) (st : St) (F : Nat -> Prop) (w : World) (e : Ending) (w' : World) : Prop :=
 ∃ p a c A,e = .returned (.tuple #[.pointer (some ⟨p,0,none⟩),.agg #[.int .u64 (gen : Int),.string text,.slice a recs.length c],.int .i64 0]) /\ PS w' p q ck lg ⟨gen,str,false⟩ st A /\ Loc F A w w' /\ StrsAt w' a recs /\ ∀ b off,a = some ⟨b,off,none⟩ -> w.heap.size <= b
def POpened8 (PS : World -> Nat -> Nat -> Nat -> Nat -> Sto -> St -> (Nat -> Prop) -> Prop) (q : Nat) (ck lg : Int) (r : (Nat × Nat × ByteArray × ByteArray × List ByteArray) × St) (F : Nat -> Prop) (w : World) (e : Ending) (w' : World) : Prop :=
 (r.1.1 = 0 /\ PHas8 PS q ck.toNat lg.toNat r.1.2.1 r.1.2.2.1 r.1.2.2.2.1 r.1.2.2.2.2 r.2 F w e w') \/ (r.1.1 ≠ 0 /\ PNo8 q r.2 F w ((r.1.1 : Nat) : Int) e w')
def PSSays (PS : World -> Nat -> Nat -> Nat -> Nat -> Sto -> St -> (Nat -> Prop) -> Prop) (p q ck lg : Nat) (A : Nat -> Prop) (u : World) (r : Nat × Sto × St) (e : Ending) (v : World) : Prop := e = .returned (.int .i64 ((r.1 : Nat) : Int)) /\ ∃ A',PS v p q ck lg r.2.1 r.2.2 A' /\ Loc A A' u v
abbrev I64 (n : Int) : Prop := -9223372036854775808 <= n /\ n <= 9223372036854775807
structure SCon (PS : World -> Nat -> Nat -> Nat -> Nat -> Sto -> St -> (Nat -> Prop) -> Prop) : Prop where
 lt : ∀ {u : World} {p q ck lg : Nat} {s : Sto} {st : St} {A : Nat -> Prop},PS u p q ck lg s st A -> ∀ k,A k -> k < u.heap.size
 same : ∀ {u v : World} {p q ck lg : Nat} {s : Sto} {st : St} {A : Nat -> Prop},PS u p q ck lg s st A -> (∀ k,A k -> v.heap[k]? = u.heap[k]?) -> PS v p q ck lg s st A
 disk : ∀ {u : World} {p q ck lg : Nat} {s : Sto} {st : St} {A : Nat -> Prop},PS u p q ck lg s st A -> ∃ G,DAt u q st G /\ (∀ k,G k -> A k) /\ ∀ v st2 G2,DAt v q st2 G2 -> Loc G G2 u v -> ∃ A2,PS v p q ck lg s st2 A2 /\ Loc A A2 u v
 blocks : ∀ (ck lg : Int) (u : World),I64 ck -> I64 lg -> Calls Tryz.prog 6 #[confV ck lg] u fun e v => e = .returned (.int .i64 (blocksC ck lg)) /\ Below u.heap.size u v
 make : ∀ (q : Nat) (st : St) (F : Nat -> Prop) (ck lg : Int) (u : World),DAt u q st F -> st.Ok -> st.loose.length + 3000 <= 8000 -> st.sure.length <= 400 -> I64 ck -> I64 lg ->
   Calls Tryz.prog 19 #[.pointer (some ⟨q,0,none⟩),confV ck lg] u fun e v => e = .returned (.int .i64 (((stoMake st ck lg).1 : Nat) : Int)) /\ ∃ F',DAt v q (stoMake st ck lg).2 F' /\ Loc F F' u v
 opens : ∀ (q : Nat) (st : St) (F : Nat -> Prop) (ck lg : Int) (u : World),DAt u q st F -> st.Ok -> st.loose.length + 3000 <= 8000 -> st.sure.length <= 400 -> I64 ck -> I64 lg ->
   Calls Tryz.prog 20 #[.pointer (some ⟨q,0,none⟩),confV ck lg] u (POpened8 PS q ck lg (stoOpen st ck lg) F u)
 append : ∀ (p q ck lg : Nat) (s : Sto) (t : ByteArray) (st : St) (A : Nat -> Prop) (u : World),PS u p q ck lg s st A -> st.Ok -> st.loose.length + 3000 <= 8000 -> Conf ck lg st.sure.length -> lg <= 200 -> t.size <= 65536 ->
   Calls Tryz.prog 22 #[.pointer (some ⟨p,0,none⟩),.string t] u (PSSays PS p q ck lg A u (stoAppend st ck lg s t))
 sync : ∀ (p q ck lg : Nat) (s : Sto) (st : St) (A : Nat -> Prop) (u : World),PS u p q ck lg s st A -> st.Ok -> st.loose.length + 3000 <= 8000 ->
   Calls Tryz.prog 23 #[.pointer (some ⟨p,0,none⟩)] u (PSSays PS p q ck lg A u (stoSync st s))
 trim : ∀ (p q ck lg : Nat) (s : Sto) (t : ByteArray) (st : St) (A : Nat -> Prop) (u : World),PS u p q ck lg s st A -> st.Ok -> st.loose.length + 3000 <= 8000 -> Conf ck lg st.sure.length -> lg <= 200 -> t.size <= 65536 -> s.gen < 18446744073709551616 ->
   Calls Tryz.prog 24 #[.pointer (some ⟨p,0,none⟩),.string t] u (PSSays PS p q ck lg A u (stoTrim st ck lg s t))
 gen : ∀ (p q ck lg : Nat) (s : Sto) (st : St) (A : Nat -> Prop) (u : World),PS u p q ck lg s st A -> Calls Tryz.prog 17 #[.pointer (some ⟨p,0,none⟩)] u fun e v => e = .returned (.int .u64 (s.gen : Int)) /\ Below u.heap.size u v
 room : ∀ (p q ck lg : Nat) (s : Sto) (st : St) (A : Nat -> Prop) (u : World),PS u p q ck lg s st A -> Calls Tryz.prog 18 #[.pointer (some ⟨p,0,none⟩)] u fun e v => e = .returned (.int .i64 ((lg : Int) * 255 - (s.str.size : Int))) /\ Below u.heap.size u v
theorem SCon.below {PS : World -> Nat -> Nat -> Nat -> Nat -> Sto -> St -> (Nat -> Prop) -> Prop} (C : SCon PS) {u v : World} {p q ck lg : Nat} {s : Sto} {st : St} {A : Nat -> Prop} (h : PS u p q ck lg s st A) (hb : Below u.heap.size u v) : PS v p q ck lg s st A := C.same h (fun k hk => hb.block k (C.lt h k hk))
structure Al8 (w : World) (q : Nat) (st : St) (F : Nat -> Prop) (u : World) : Prop where
 disk : DAt u q st F
 below : Below w.heap.size w u
 new : ∀ k,F k -> w.heap.size <= k
theorem Al8.step {w : World} {q : Nat} {st st' : St} {F F' : Nat -> Prop} {u v : World} (h : Al8 w q st F u) (hd : DAt v q st' F') (hl : Loc F F' u v) : Al8 w q st' F' v :=
 ⟨hd,h.below.trans (hl.below h.new h.below.size),hl.beyond h.new h.below.size⟩
theorem Al8.keep {w : World} {q : Nat} {st : St} {F : Nat -> Prop} {u v : World} (h : Al8 w q st F u) (hb : Below u.heap.size u v) : Al8 w q st F v := ⟨con.below h.disk hb,bnext h.below hb,h.new⟩
structure Sl8 (PS : World -> Nat -> Nat -> Nat -> Nat -> Sto -> St -> (Nat -> Prop) -> Prop) (w : World) (p q ck lg : Nat) (s : Sto) (st : St) (A : Nat -> Prop) (u : World) : Prop where
 sto : PS u p q ck lg s st A
 below : Below w.heap.size w u
 new : ∀ k,A k -> w.heap.size <= k
theorem Sl8.step {PS : World -> Nat -> Nat -> Nat -> Nat -> Sto -> St -> (Nat -> Prop) -> Prop} {w : World} {p q ck lg : Nat} {s s' : Sto} {st st' : St} {A A' : Nat -> Prop} {u v : World} (h : Sl8 PS w p q ck lg s st A u) (hd : PS v p q ck lg s' st' A') (hl : Loc A A' u v) : Sl8 PS w p q ck lg s' st' A' v :=
 ⟨hd,h.below.trans (hl.below h.new h.below.size),hl.beyond h.new h.below.size⟩
theorem Sl8.disk {PS : World -> Nat -> Nat -> Nat -> Nat -> Sto -> St -> (Nat -> Prop) -> Prop} (C : SCon PS) {w : World} {p q ck lg : Nat} {s : Sto} {st : St} {A : Nat -> Prop} {u : World} (h : Sl8 PS w p q ck lg s st A u) : ∃ G,Al8 w q st G u := by
 obtain ⟨G,h1,h2,_⟩ := C.disk h.sto
 exact ⟨G,h1,h.below,fun k hk => h.new k (h2 k hk)⟩
theorem Al8.opened {PS : World -> Nat -> Nat -> Nat -> Nat -> Sto -> St -> (Nat -> Prop) -> Prop} {w : World} {p q ck lg : Nat} {s : Sto} {st st' : St} {F A : Nat -> Prop} {u v : World} (h : Al8 w q st F u) (hd : PS v p q ck lg s st' A) (hl : Loc F A u v) : Sl8 PS w p q ck lg s st' A v :=
 ⟨hd,h.below.trans (hl.below h.new h.below.size),hl.beyond h.new h.below.size⟩
end Go.Proofs.YtchhojkhfdkhfaaGreatDoor
