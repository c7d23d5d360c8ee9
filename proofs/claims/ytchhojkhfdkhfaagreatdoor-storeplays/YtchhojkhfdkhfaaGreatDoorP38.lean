/- Joined texts. -/
import Derived.Test.YtchhojkhfdkhfaaGreatDoorP37
import Derived.Test.YtchhojkhfdkhfaaGreatDoorP03
namespace Go.Proofs.YtchhojkhfdkhfaaGreatDoor
open Go Go.RowKit Frm
set_option maxHeartbeats 1000000 in
theorem blocks8_any (ck lg : Int) (w : World) : Calls Tryz.prog 6 #[confV ck lg] w fun e w' => e = .returned (.int .i64 (blocksC ck lg)) /\ Below w.heap.size w w' := by
 have hb := one_below w (.cells #[.int .i64 ck,.int .i64 lg] 23)
 have HB := hide hb
 have hcb := heap_alloc_last w (.cells #[.int .i64 ck,.int .i64 lg] 23)
 have c0 : (w.alloc (.cells #[.int .i64 ck,.int .i64 lg] 23)).cell? ⟨w.heap.size,0,none⟩ = some (.int .i64 ck) := (cell_of_row _ _ 0 _ _ _ hcb).trans rfl
 have c1 : (w.alloc (.cells #[.int .i64 ck,.int .i64 lg] 23)).cell? ⟨w.heap.size,1,none⟩ = some (.int .i64 lg) := (cell_of_row _ _ 1 _ _ _ hcb).trans rfl
 clear hb hcb
 unfold confV
 by_cases h1 : ck < 2
 · have hr : blocksC ck lg = 0 := by unfold blocksC; rw [if_pos (Or.inl h1)]
   rw [hr]
   clear hr
   go_enter Tryz.func6,Tryz.ntmps6
   go_wp2
   go_ret
   exact ⟨rfl,HB.out⟩
 by_cases h2 : 256 < ck
 · have hr : blocksC ck lg = 0 := by unfold blocksC; rw [if_pos (Or.inr (Or.inl h2))]
   rw [hr]
   clear hr
   go_enter Tryz.func6,Tryz.ntmps6
   go_wp2
   go_ret
   exact ⟨rfl,HB.out⟩
 by_cases h3 : lg < 1
 · have hr : blocksC ck lg = 0 := by unfold blocksC; rw [if_pos (Or.inr (Or.inr (Or.inl h3)))]
   rw [hr]
   clear hr
   go_enter Tryz.func6,Tryz.ntmps6
   go_wp2
   go_ret
   exact ⟨rfl,HB.out⟩
 by_cases h4 : 1024 < lg
 · have hr : blocksC ck lg = 0 := by unfold blocksC; rw [if_pos (Or.inr (Or.inr (Or.inr h4)))]
   rw [hr]
   clear hr
   go_enter Tryz.func6,Tryz.ntmps6
   go_wp2
   go_ret
   exact ⟨rfl,HB.out⟩
 have hw1 : wrap64 (2 * ck) = 2 * ck := by unfold wrap64; omega
 have hw2 : wrap64 (2 * lg) = 2 * lg := by unfold wrap64; omega
 have hw3 : wrap64 (2 * ck + 2 * lg) = 2 * ck + 2 * lg := by unfold wrap64; omega
 by_cases h5 : 4096 < 2 * ck + 2 * lg
 · have hr : blocksC ck lg = 0 := by unfold blocksC; rw [if_neg (by omega),if_pos (by omega)]
   rw [hr]
   clear hr
   have H5 := hide h5
   clear h5
   go_enter Tryz.func6,Tryz.ntmps6
   go_upto_region 4 with fail
   have h5 := H5.out
   clear h1 h2 h3 h4 c0 c1
   go_wp2
   go_ret
   exact ⟨rfl,HB.out⟩
 · have hr : blocksC ck lg = 2 * ck + 2 * lg := by unfold blocksC; rw [if_neg (by omega),if_neg (by omega)]
   rw [hr]
   clear hr
   have H5 := hide h5
   clear h5
   go_enter Tryz.func6,Tryz.ntmps6
   go_upto_region 4 with fail
   have h5 := H5.out
   clear h1 h2 h3 h4 c0 c1
   go_wp2
   go_ret
   exact ⟨rfl,HB.out⟩
def areaV (pd : Option Addr) (ck lg : Int) : Value := .agg #[.pointer pd,.int .i64 ck,.int .i64 lg]
theorem area_cells (w : World) (pd : Option Addr) (ck lg : Int) (z : World) (hb : Below (w.alloc (.cells #[.pointer pd,.int .i64 ck,.int .i64 lg] 102)).heap.size (w.alloc (.cells #[.pointer pd,.int .i64 ck,.int .i64 lg] 102)) z) :
   z.cell? ⟨w.heap.size,0,none⟩ = some (.pointer pd) /\ z.cell? ⟨w.heap.size,1,none⟩ = some (.int .i64 ck) /\ z.cell? ⟨w.heap.size,2,none⟩ = some (.int .i64 lg) := by
 have hz := (hb.block w.heap.size (by simp)).trans (heap_alloc_last w (.cells #[.pointer pd,.int .i64 ck,.int .i64 lg] 102))
 exact ⟨(cell_of_row _ _ 0 _ _ _ hz).trans rfl,(cell_of_row _ _ 1 _ _ _ hz).trans rfl,(cell_of_row _ _ 2 _ _ _ hz).trans rfl⟩
set_option maxHeartbeats 1000000 in
theorem ckb_any (pd : Option Addr) (ck lg : Int) (w : World) (h : -4611686018427387904 <= ck /\ ck < 4611686018427387904) :
   Calls Tryz.prog 48 #[areaV pd ck lg] w fun e w' => e = .returned (.int .i64 (2 * ck)) /\ Below w.heap.size w w' := by
 have HB := hide (one_below w (.cells #[.pointer pd,.int .i64 ck,.int .i64 lg] 102))
 obtain ⟨c0,c1,c2⟩ := area_cells w pd ck lg _ (Below.refl _ _)
 have hw : wrap64 (2 * ck) = 2 * ck := by unfold wrap64; omega
 unfold areaV
 clear h
 go_enter Tryz.func48,Tryz.ntmps48
 go_wp2
 go_ret
 exact ⟨by show Ending.returned (.int .i64 (wrap64 (2 * ck))) = _; rw [hw],HB.out⟩
set_option maxHeartbeats 1000000 in
theorem fault8_any (pd : Option Addr) (ck lg : Int) (n b : Int) (w : World) (r : Int) (hS : ∀ u,Below w.heap.size w u -> Calls Tryz.prog 58 #[.pointer pd] u fun e v => e = .returned (.int .i64 n) /\ Below u.heap.size u v)
   (hBl : ∀ u,Calls Tryz.prog 6 #[confV ck lg] u fun e v => e = .returned (.int .i64 b) /\ Below u.heap.size u v) (hr : r = if n = 0 then 1 else if b = 0 \/ n < b then 2 else 0) :
   Calls Tryz.prog 42 #[areaV pd ck lg] w fun e w' => e = .returned (.int .i64 r) /\ Below w.heap.size w w' := by
 have HB := hide (one_below w (.cells #[.pointer pd,.int .i64 ck,.int .i64 lg] 102))
 have HC : Hid (∀ z,Below (w.alloc (.cells #[.pointer pd,.int .i64 ck,.int .i64 lg] 102)).heap.size (w.alloc (.cells #[.pointer pd,.int .i64 ck,.int .i64 lg] 102)) z -> _) := area_cells w pd ck lg
 have HS := hide hS
 have HBl := hide hBl
 have HR := hide hr
 have HB1 := hide (Below.refl (w.alloc (.cells #[.pointer pd,.int .i64 ck,.int .i64 lg] 102)).heap.size (w.alloc (.cells #[.pointer pd,.int .i64 ck,.int .i64 lg] 102))).drew
 unfold areaV confV at *
 clear hS hBl hr
 go_enter Tryz.func42,Tryz.ntmps42
 go_wp2_with fail
 generalize w.alloc (.cells #[.pointer pd,.int .i64 ck,.int .i64 lg] 102) = W at *
 have K := HB1.out
 go_region_held3 (fun z => z.cell? ⟨w.heap.size,0,none⟩ = some (.pointer pd) /\ z.cell? ⟨w.heap.size,1,none⟩ = some (.int .i64 ck) /\ z.cell? ⟨w.heap.size,2,none⟩ = some (.int .i64 lg))
   ((with_reducible exact HC.out _ K))
   (first
     | (go_at_call 58; refine (HS.out _ (HB.out.trans (K.mono HB.out.size))).mono ?_; rintro e z0 ⟨rfl,hb0⟩; have K := bnext K hb0)
     | (go_at_call 6; refine (HBl.out _).mono ?_; rintro e z0 ⟨rfl,hb0⟩; have K := bnext K hb0))
 all_goals
   have HE := hide (HB.out.trans (K.mono HB.out.size))
   clear K
   by_cases h1 : n = 0
   · have hr : r = 1 := by rw [HR.out,if_pos h1]
     subst hr
     go_wp2
     go_ret
     exact ⟨rfl,HE.out⟩
   · by_cases h2 : b = 0
     · have hr : r = 2 := by rw [HR.out,if_neg h1,if_pos (Or.inl h2)]
       subst hr
       go_wp2
       go_ret
       exact ⟨rfl,HE.out⟩
     · by_cases h3 : n < b
       · have hr : r = 2 := by rw [HR.out,if_neg h1,if_pos (Or.inr h3)]
         subst hr
         go_wp2
         go_ret
         exact ⟨rfl,HE.out⟩
       · have hr : r = 0 := by rw [HR.out,if_neg h1,if_neg (by omega)]
         subst hr
         go_wp2
         go_ret
         exact ⟨rfl,HE.out⟩
def StAt (u : World) (p pl q ck lg : Nat) (g : Nat) (b : Bool) : Prop :=
 u.heap[p]? = some (.cells #[.iface 143 (.pointer (some ⟨pl,0,none⟩)),.int .u64 (g : Int),.pointer (some ⟨q,0,none⟩),.int .i64 (ck : Int),.int .i64 (lg : Int),.bool b] 104 (0,0))
theorem StAt.lt {u : World} {p pl q ck lg g : Nat} {b : Bool} (h : StAt u p pl q ck lg g b) : p < u.heap.size := (Array.getElem?_eq_some_iff.1 h).1
theorem StAt.same {u v : World} {p pl q ck lg g : Nat} {b : Bool} (h : StAt u p pl q ck lg g b) (hv : v.heap[p]? = u.heap[p]?) : StAt v p pl q ck lg g b := hv.trans h
theorem StAt.c {u : World} {p pl q ck lg g : Nat} {b : Bool} (h : StAt u p pl q ck lg g b) :
   u.cell? ⟨p,0,none⟩ = some (.iface 143 (.pointer (some ⟨pl,0,none⟩))) /\ u.cell? ⟨p,1,none⟩ = some (.int .u64 (g : Int)) /\ u.cell? ⟨p,2,none⟩ = some (.pointer (some ⟨q,0,none⟩)) /\ u.cell? ⟨p,3,none⟩ = some (.int .i64 (ck : Int)) /\ u.cell? ⟨p,4,none⟩ = some (.int .i64 (lg : Int)) /\ u.cell? ⟨p,5,none⟩ = some (.bool b) := by
 have hh : u.heap[p]? = _ := h
 refine ⟨?_,?_,?_,?_,?_,?_⟩ <;> simp [World.cell?,hh]
theorem StAt.free {u : World} {p pl q ck lg g : Nat} {b : Bool} (h : StAt u p pl q ck lg g b) (i : Nat) : u.frozen? ⟨p,i,none⟩ = false := by simp [World.frozen?,show u.heap[p]? = _ from h]
set_option maxHeartbeats 400000 in
theorem gen_any (p pl q ck lg g : Nat) (b : Bool) (w : World) (h : StAt w p pl q ck lg g b) : Calls Tryz.prog 17 #[.pointer (some ⟨p,0,none⟩)] w fun e v => e = .returned (.int .u64 (g : Int)) /\ v = w := by
 obtain ⟨-,c1, -⟩ := h.c
 clear h
 go_enter Tryz.func17,Tryz.ntmps17
 go_wp2
 go_ret
 exact ⟨rfl,rfl⟩
set_option maxHeartbeats 400000 in
theorem sfault_any (p pl q ck lg g : Nat) (b : Bool) (w : World) (h : StAt w p pl q ck lg g b) : Calls Tryz.prog 40 #[.pointer (some ⟨p,0,none⟩)] w fun e v => e = .returned (.int .i64 (if b then 3 else 0)) /\ v = w := by
 obtain ⟨c0, -, -, -, -,c5⟩ := h.c
 clear h
 cases b with
 | true =>
   go_enter Tryz.func40,Tryz.ntmps40
   go_wp2
   go_ret
   exact ⟨rfl,rfl⟩
 | false =>
   go_enter Tryz.func40,Tryz.ntmps40
   go_wp2
   go_ret
   exact ⟨rfl,rfl⟩
set_option maxRecDepth 10000 in
theorem logOf_any (pd : Option Addr) (ck lg g : Nat) (w : World) (h1 : ck <= 256) (h2 : lg <= 1024) :
   Calls Tryz.prog 78 #[areaV pd (ck : Int) (lg : Int),.int .u64 (g : Int)] w fun e w' => e = .returned (.int .i64 ((lo ck lg g : Nat) : Int)) /\ Below w.heap.size w w' := by
 have HB := hide (one_below w (.cells #[.pointer pd,.int .i64 (ck : Int),.int .i64 (lg : Int)] 102))
 have HC : Hid (∀ z,Below (w.alloc (.cells #[.pointer pd,.int .i64 (ck : Int),.int .i64 (lg : Int)] 102)).heap.size (w.alloc (.cells #[.pointer pd,.int .i64 (ck : Int),.int .i64 (lg : Int)] 102)) z -> _) := area_cells w pd ck lg
 have HK := hide (fun u => ckb_any pd (ck : Int) (lg : Int) u (by omega))
 have HB1 := hide (Below.refl (w.alloc (.cells #[.pointer pd,.int .i64 (ck : Int),.int .i64 (lg : Int)] 102)).heap.size (w.alloc (.cells #[.pointer pd,.int .i64 (ck : Int),.int .i64 (lg : Int)] 102))).drew
 have q1 : (g : Int) % 2 = ((g % 2 : Nat) : Int) := by omega
 have q2 : IntKind.i64.wrap ((g % 2 : Nat) : Int) = ((g % 2 : Nat) : Int) := by rw [IntKind.wrap_i64]; omega
 have q0 : ((lo ck lg g : Nat) : Int) = 2 * (ck : Int) + ((g % 2 : Nat) : Int) * (lg : Int) := by unfold lo; rw [Int.natCast_add,Int.natCast_mul,Int.natCast_mul]; rfl
 have q6 : 0 <= ((g % 2 : Nat) : Int) * (lg : Int) /\ ((g % 2 : Nat) : Int) * (lg : Int) <= 1024 := by
   rcases (by omega : g % 2 = 0 \/ g % 2 = 1) with e | e <;> rw [e] <;> omega
 have q4 : IntKind.i64.wrap (((g % 2 : Nat) : Int) * (lg : Int)) = ((g % 2 : Nat) : Int) * (lg : Int) := by
   generalize ((g % 2 : Nat) : Int) * (lg : Int) = y at *
   rw [IntKind.wrap_i64]; omega
 have q5 : IntKind.i64.wrap (2 * (ck : Int) + ((g % 2 : Nat) : Int) * (lg : Int)) = 2 * (ck : Int) + ((g % 2 : Nat) : Int) * (lg : Int) := by
   generalize ((g % 2 : Nat) : Int) * (lg : Int) = y at *
   rw [IntKind.wrap_i64]; omega
 have hres : Hid (IntKind.i64.wrap (2 * (ck : Int) + IntKind.i64.wrap (IntKind.i64.wrap ((g : Int).tmod 2) * (lg : Int))) = ((lo ck lg g : Nat) : Int)) := by
   show _ = _
   rw [Int.tmod_eq_emod_of_nonneg (by omega),q1,q2,q4,q5,q0]
 unfold areaV at *
 clear h1 h2 q6 q0 q1 q2 q4 q5
 go_enter Tryz.func78,Tryz.ntmps78
 go_wp2_with fail
 generalize w.alloc (.cells #[.pointer pd,.int .i64 (ck : Int),.int .i64 (lg : Int)] 102) = W at *
 have K := HB1.out
 go_region_held3 (fun z => z.cell? ⟨w.heap.size,0,none⟩ = some (.pointer pd) /\ z.cell? ⟨w.heap.size,1,none⟩ = some (.int .i64 (ck : Int)) /\ z.cell? ⟨w.heap.size,2,none⟩ = some (.int .i64 (lg : Int)))
   ((with_reducible exact HC.out _ K))
   (first
     | (go_at_call 48; refine (HK.out _).mono ?_; rintro e z0 ⟨rfl,hb0⟩; have K := bnext K hb0))
 all_goals
   have HE := hide (HB.out.trans (K.mono HB.out.size))
   clear K
   go_wp2
   go_ret
   exact ⟨congrArg (fun x => Ending.returned (.int .i64 x)) hres.out,HE.out⟩

theorem room_ahead (n : Nat) (a : Addr) (w : World) : (nilAhead (n + 1) 143 (.pointer (some a)) "Room").run Tryz.prog w = .ok (some false) w := by kernel_rfl
theorem room_is (n : Nat) (a : Addr) (w : World) : (method (n + 1) 143 (.pointer (some a)) "Room").run Tryz.prog w = .ok (194,.pointer (some a)) w := by kernel_rfl
set_option maxHeartbeats 400000 in
theorem sroom_any (p pl q ck lg g : Nat) (b : Bool) (w : World) (r : Int) (h : StAt w p pl q ck lg g b) (hF : Calls Tryz.prog 40 #[.pointer (some ⟨p,0,none⟩)] w fun e v => e = .returned (.int .i64 (if b then 3 else 0)) /\ v = w)
  (hR : ∀ u,Below w.heap.size w u -> Calls Tryz.prog 194 #[.pointer (some ⟨pl,0,none⟩)] u fun e v => e = .returned (.int .i64 r) /\ Below u.heap.size u v) :
  Calls Tryz.prog 18 #[.pointer (some ⟨p,0,none⟩)] w fun e v => e = .returned (.int .i64 r) /\ Below w.heap.size w v := by
 obtain ⟨c0, -⟩ := h.c
 have HR := hide (hR w (Below.refl _ _))
 clear h hR
 cases b
 all_goals
   have hm := fun n (w : World) => room_is n ⟨pl,0,none⟩ w
   have ha := fun n (w : World) => room_ahead n ⟨pl,0,none⟩ w
   go_enter Tryz.func18,Tryz.ntmps18
   go_wp2_with fail
   refine hF.mono ?_
   rintro e w1 ⟨rfl,rfl⟩
   go_wp2_with fail
   refine HR.out.mono ?_
   rintro e w2 ⟨rfl,hb2⟩
   have HB := hide hb2
   clear hb2
   go_wp2
   go_ret
   exact ⟨rfl,HB.out⟩
def fnOf8 : Value -> Option (Nat × Array Value)
 | .func (.func n) r c => some (n,r ++ c)
 | _ => none
def Does8 (v : Value) (w : World) (P : Ending -> World -> Prop) : Prop := ∀ n a,fnOf8 v = some (n,a) -> Calls Tryz.prog n a w P
def GForm (v : Value) : Prop := (∃ a b,v = .func (.func 52) #[] #[a,b]) \/ (∃ a,v = .func (.func 53) #[] #[a]) \/ (∃ a b,v = .func (.func 55) #[] #[a,b])
theorem guarded_down (p : Nat) (v : Value) (w : World) (hF : Calls Tryz.prog 40 #[.pointer (some ⟨p,0,none⟩)] w fun e v => e = .returned (.int .i64 3) /\ v = w) : Calls Tryz.prog 51 #[.pointer (some ⟨p,0,none⟩),v] w fun e v => e = .returned (.int .i64 3) /\ v = w := by
 go_enter Tryz.func51,Tryz.ntmps51
 go_wp2_with fail
 refine hF.mono ?_
 rintro e w1 ⟨rfl,rfl⟩
 go_wp2
 go_ret
 exact ⟨rfl,rfl⟩
theorem guarded_any (p : Nat) (v : Value) (w : World) (Q : Int -> World -> Prop) (hv : GForm v) (hF : Calls Tryz.prog 40 #[.pointer (some ⟨p,0,none⟩)] w fun e v => e = .returned (.int .i64 0) /\ v = w)
   (hdo : Does8 v w fun e w' => ∃ x : Int,e = .returned (.int .i64 x) /\ Q x w') (hc : ∀ x w',Q x w' -> (∃ y,w'.cell? ⟨p,5,none⟩ = some y) /\ w'.frozen? ⟨p,5,none⟩ = false) :
   Calls Tryz.prog 51 #[.pointer (some ⟨p,0,none⟩),v] w fun e w' => ∃ x w0,e = .returned (.int .i64 x) /\ Q x w0 /\ w' = w0.setCell ⟨p,5,none⟩ (.bool (x == 50)) := by
 have HD := hide hdo
 have HC := hide hc
 clear hdo hc
 rcases hv with ⟨a,b,rfl⟩ | ⟨a,rfl⟩ | ⟨a,b,rfl⟩
 · have KC := hide (HD.out 52 #[a,b] rfl)
   clear HD
   go_enter Tryz.func51,Tryz.ntmps51
   go_wp2_with fail
   refine hF.mono ?_
   rintro e w1 ⟨rfl,rfl⟩
   go_wp2_with fail
   refine KC.out.mono ?_
   rintro e w2 ⟨x,rfl,hq⟩
   obtain ⟨⟨y,hy⟩,hfr⟩ := HC.out x w2 hq
   have HQ := hide hq
   clear hq
   go_wp2
   go_ret
   exact ⟨x,w2,rfl,HQ.out,rfl⟩
 · have KC := hide (HD.out 53 #[a] rfl)
   clear HD
   go_enter Tryz.func51,Tryz.ntmps51
   go_wp2_with fail
   refine hF.mono ?_
   rintro e w1 ⟨rfl,rfl⟩
   go_wp2_with fail
   refine KC.out.mono ?_
   rintro e w2 ⟨x,rfl,hq⟩
   obtain ⟨⟨y,hy⟩,hfr⟩ := HC.out x w2 hq
   have HQ := hide hq
   clear hq
   go_wp2
   go_ret
   exact ⟨x,w2,rfl,HQ.out,rfl⟩
 · have KC := hide (HD.out 55 #[a,b] rfl)
   clear HD
   go_enter Tryz.func51,Tryz.ntmps51
   go_wp2_with fail
   refine hF.mono ?_
   rintro e w1 ⟨rfl,rfl⟩
   go_wp2_with fail
   refine KC.out.mono ?_
   rintro e w2 ⟨x,rfl,hq⟩
   obtain ⟨⟨y,hy⟩,hfr⟩ := HC.out x w2 hq
   have HQ := hide hq
   clear hq
   go_wp2
   go_ret
   exact ⟨x,w2,rfl,HQ.out,rfl⟩
theorem append_ahead (n : Nat) (a : Addr) (w : World) : (nilAhead (n + 1) 143 (.pointer (some a)) "Append").run Tryz.prog w = .ok (some false) w := by kernel_rfl
theorem append_is (n : Nat) (a : Addr) (w : World) : (method (n + 1) 143 (.pointer (some a)) "Append").run Tryz.prog w = .ok (192,.pointer (some a)) w := by kernel_rfl
theorem StAt.below {u v : World} {p pl q ck lg g : Nat} {b : Bool} (h : StAt u p pl q ck lg g b) (hb : Below u.heap.size u v) : StAt v p pl q ck lg g b := h.same (hb.block p h.lt)
theorem cellB9 {u v : World} {a : Addr} {y : Value} (hb : Below u.heap.size u v) (h : u.cell? a = some y) : v.cell? a = some y := (hb.cell (World.block_lt_of_cell? u _ h)).trans h
set_option maxHeartbeats 1000000 in
theorem append1_any (B1 B2 p pl q ck lg g : Nat) (bb : Bool) (t : ByteArray) (u : World) (P : Ending -> World -> Prop) (h1 : u.cell? ⟨B1,0,none⟩ = some (.pointer (some ⟨p,0,none⟩))) (h2 : u.cell? ⟨B2,0,none⟩ = some (.string t))
   (hs : StAt u p pl q ck lg g bb) (hP : ∀ e w',P e w' -> ∃ x,e = .returned x /\ w'.cell? ⟨B1,0,none⟩ = some (.pointer (some ⟨p,0,none⟩)) /\ w'.cell? ⟨B2,0,none⟩ = some (.string t) /\ w'.cell? ⟨p,0,none⟩ = some (.iface 143 (.pointer (some ⟨pl,0,none⟩)))) (hA : ∀ v,Below u.heap.size u v -> Calls Tryz.prog 192 #[.pointer (some ⟨pl,0,none⟩),.string t] v P) :
   Calls Tryz.prog 52 #[.pointer (some ⟨B1,0,none⟩),.pointer (some ⟨B2,0,none⟩)] u P := by
 have HC : Hid (∀ v,Below u.heap.size u v -> v.cell? ⟨B1,0,none⟩ = some (.pointer (some ⟨p,0,none⟩)) /\ v.cell? ⟨B2,0,none⟩ = some (.string t) /\ v.cell? ⟨p,0,none⟩ = some (.iface 143 (.pointer (some ⟨pl,0,none⟩)))) := fun v hb => ⟨cellB9 hb h1,cellB9 hb h2,cellB9 hb hs.c.1⟩
 have HA := hide hA
 have HP := hide hP
 have K : Below u.heap.size u u.drew := (Below.refl _ u).drew
 have hm := fun n (w : World) => append_is n ⟨pl,0,none⟩ w
 have ha := fun n (w : World) => append_ahead n ⟨pl,0,none⟩ w
 clear h1 h2 hs hA hP
 go_enter Tryz.func52,Tryz.ntmps52
 go_wp2_with fail
 go_region_held3 (fun z => z.cell? ⟨B1,0,none⟩ = some (.pointer (some ⟨p,0,none⟩)) /\ z.cell? ⟨B2,0,none⟩ = some (.string t) /\ z.cell? ⟨p,0,none⟩ = some (.iface 143 (.pointer (some ⟨pl,0,none⟩))))
   ((first | (with_reducible exact HC.out _ K) | (with_reducible exact K.2)))
   (first
     | (go_at_call 192; refine (HA.out _ K).mono ?_; rintro e z0 hz; obtain ⟨x,rfl,hcs⟩ := HP.out _ _ hz; have K := And.intro hz hcs))
 all_goals
   have HK := hide K.1
   clear K
   go_wp2
   exact HK.out

set_option maxHeartbeats 1000000 in
theorem sync1_any (B1 p pl q ck lg g : Nat) (bb : Bool) (u : World) (P : Ending -> World -> Prop) (h1 : u.cell? ⟨B1,0,none⟩ = some (.pointer (some ⟨p,0,none⟩)))
   (hs : StAt u p pl q ck lg g bb) (hP : ∀ e w',P e w' -> ∃ x,e = .returned x) (hA : Calls Tryz.prog 54 #[.pointer (some ⟨q,0,none⟩)] u P) :
   Calls Tryz.prog 53 #[.pointer (some ⟨B1,0,none⟩)] u P := by
 obtain ⟨-, -,c2, -, -, -⟩ := hs.c
 have HP := hide hP
 have HA := hide hA
 clear hs hA hP
 go_enter Tryz.func53,Tryz.ntmps53
 go_wp2_with fail
 refine HA.out.mono ?_
 rintro e z0 hz
 obtain ⟨x,rfl⟩ := HP.out _ _ hz
 have HZ := hide hz
 clear hz
 go_wp2
 exact HZ.out
set_option maxHeartbeats 1000000 in
theorem aroom_any (pd : Option Addr) (ck : Int) (lg r : Int) (w : World) (hK : ∀ u,Calls Tryz.prog 48 #[areaV pd ck lg] u fun e w' => e = .returned (.int .i64 (2 * ck)) /\ Below u.heap.size u w') (hR : ∀ u,Calls Tryz.prog 87 #[.int .i64 (2 * ck)] u fun e v => e = .returned (.int .i64 r) /\ v = u) :
   Calls Tryz.prog 56 #[areaV pd ck lg] w fun e w' => e = .returned (.int .i64 r) /\ Below w.heap.size w w' := by
 have HB := hide (one_below w (.cells #[.pointer pd,.int .i64 ck,.int .i64 lg] 102))
 obtain ⟨c0,c1,c2⟩ := area_cells w pd ck lg _ (Below.refl _ _)
 have HK := hide hK
 have HR := hide hR
 unfold areaV at *
 clear hK hR
 go_enter Tryz.func56,Tryz.ntmps56
 go_wp2_with fail
 generalize w.alloc (.cells #[.pointer pd,.int .i64 ck,.int .i64 lg] 102) = W at *
 refine (HK.out _).mono ?_
 rintro e w1 ⟨rfl,hb1⟩
 have HB1 := hide (bnext HB.out hb1)
 clear hb1 c0 c1 c2
 go_wp2_with fail
 refine (HR.out _).mono ?_
 rintro e w2 ⟨rfl,rfl⟩
 go_wp2
 go_ret
 exact ⟨rfl,HB1.out⟩
theorem trim_gen (B1 B2 p pl q ck lg g : Nat) (bb : Bool) (u : World) (h1 : u.cell? ⟨B1,0,none⟩ = some (.pointer (some ⟨p,0,none⟩))) (hs : StAt u p pl q ck lg g bb) (hg : g = 4611686018427387904) :
   Calls Tryz.prog 55 #[.pointer (some ⟨B1,0,none⟩),.pointer (some ⟨B2,0,none⟩)] u fun e v => e = .returned (.int .i64 2) /\ v = u := by
 obtain ⟨-,c1, -, -, -, -⟩ := hs.c
 subst hg
 clear hs
 go_enter Tryz.func55,Tryz.ntmps55
 go_wp2
 go_ret
 exact ⟨rfl,rfl⟩
def SForm (v : Value) : Prop := (∃ a,v = .func (.func 42) #[a] #[]) \/ (∃ a,v = .func (.func 43) #[a] #[]) \/ (∃ a b,v = .func (.func 76) #[] #[a,b]) \/ (∃ a b c,v = .func (.func 79) #[] #[a,b,c]) \/ (∃ a b c,v = .func (.func 46) #[] #[a,b,c]) \/ (∃ a b,v = .func (.func 49) #[] #[a,b]) \/ (∃ a b c,v = .func (.func 88) #[] #[a,b,c])
set_option maxRecDepth 10000 in
set_option maxHeartbeats 2000000 in
theorem inOrder8 (b off c : Nat) (vs : List Value) (R : Nat -> World -> Prop) (Q : Int -> World -> Prop) (w : World) (hn : vs.length <= 5000)
   (hcells : ∀ k (hk : k < vs.length) u,R k u -> u.cell? ⟨b,off + k,none⟩ = some vs[k]) (hform : ∀ k (hk : k < vs.length),SForm vs[k])
   (hstep : ∀ k (hk : k < vs.length) u,R k u -> Does8 vs[k] u fun e v => ∃ x : Int,e = .returned (.int .i64 x) /\ ((x = 0 /\ R (k + 1) v) \/ (x ≠ 0 /\ Q x v))) (h0 : R 0 w) :
   Calls Tryz.prog 41 #[.slice (some ⟨b,off,none⟩) vs.length c] w fun e v => ∃ x : Int,e = .returned (.int .i64 x) /\ ((x = 0 /\ R vs.length v) \/ (x ≠ 0 /\ Q x v)) := by
 have HC := hide hcells
 have HF := hide hform
 have HS := hide hstep
 have HN := hide hn
 have H0 := hide h0
 clear hcells hform hstep hn h0
 go_enter Tryz.func41,Tryz.ntmps41
 go_wp2_with fail
 go_loopw [4,5,8] (fun d e i wr => ∃ (k : Nat),k <= vs.length /\ i = .int .i64 (k : Int) /\ R k wr) (fun _ _ i _ => vs.length - (intOf i).toNat)
 case atStart => exact ⟨0,Nat.zero_le _,rfl,H0.out⟩
 case round =>
   obtain ⟨k,hk,rfl,hU⟩ := hrel
   have HU := hide hU
   clear hU
   by_cases hlt : k < vs.length
   · have hcell := HC.out k hlt wr HU.out
     have hform := HF.out k hlt
     have hn := HN.out
     have HSt := hide (HS.out k hlt wr HU.out)
     generalize vs[k] = x at *
     rcases hform with ⟨a,rfl⟩ | ⟨a,rfl⟩ | ⟨a,b,rfl⟩ | ⟨a,b,c,rfl⟩ | ⟨a,b,c,rfl⟩ | ⟨a,b,rfl⟩ | ⟨a,b,c,rfl⟩
     · have KC := hide (HSt.out 42 #[a] rfl)
       clear HSt
       go_wp2_with fail
       refine KC.out.mono ?_
       clear KC
       rintro e w1 ⟨x,rfl,hx⟩
       rcases hx with ⟨rfl,hr⟩ | ⟨hx,hq⟩
       · have HR1 := hide hr
         clear hr
         go_wp2
         go_roundw
         case rel => exact ⟨k + 1,hlt,by go_num,HR1.out⟩
         case measure => simp [intOf]; omega
       · have HQ := hide hq
         clear hq
         go_wp2
         go_ret
         exact ⟨x,rfl,Or.inr ⟨hx,HQ.out⟩⟩
     · have KC := hide (HSt.out 43 #[a] rfl)
       clear HSt
       go_wp2_with fail
       refine KC.out.mono ?_
       clear KC
       rintro e w1 ⟨x,rfl,hx⟩
       rcases hx with ⟨rfl,hr⟩ | ⟨hx,hq⟩
       · have HR1 := hide hr
         clear hr
         go_wp2
         go_roundw
         case rel => exact ⟨k + 1,hlt,by go_num,HR1.out⟩
         case measure => simp [intOf]; omega
       · have HQ := hide hq
         clear hq
         go_wp2
         go_ret
         exact ⟨x,rfl,Or.inr ⟨hx,HQ.out⟩⟩
     · have KC := hide (HSt.out 76 #[a,b] rfl)
       clear HSt
       go_wp2_with fail
       refine KC.out.mono ?_
       clear KC
       rintro e w1 ⟨x,rfl,hx⟩
       rcases hx with ⟨rfl,hr⟩ | ⟨hx,hq⟩
       · have HR1 := hide hr
         clear hr
         go_wp2
         go_roundw
         case rel => exact ⟨k + 1,hlt,by go_num,HR1.out⟩
         case measure => simp [intOf]; omega
       · have HQ := hide hq
         clear hq
         go_wp2
         go_ret
         exact ⟨x,rfl,Or.inr ⟨hx,HQ.out⟩⟩
     · have KC := hide (HSt.out 79 #[a,b,c] rfl)
       clear HSt
       go_wp2_with fail
       refine KC.out.mono ?_
       clear KC
       rintro e w1 ⟨x,rfl,hx⟩
       rcases hx with ⟨rfl,hr⟩ | ⟨hx,hq⟩
       · have HR1 := hide hr
         clear hr
         go_wp2
         go_roundw
         case rel => exact ⟨k + 1,hlt,by go_num,HR1.out⟩
         case measure => simp [intOf]; omega
       · have HQ := hide hq
         clear hq
         go_wp2
         go_ret
         exact ⟨x,rfl,Or.inr ⟨hx,HQ.out⟩⟩
     · have KC := hide (HSt.out 46 #[a,b,c] rfl)
       clear HSt
       go_wp2_with fail
       refine KC.out.mono ?_
       clear KC
       rintro e w1 ⟨x,rfl,hx⟩
       rcases hx with ⟨rfl,hr⟩ | ⟨hx,hq⟩
       · have HR1 := hide hr
         clear hr
         go_wp2
         go_roundw
         case rel => exact ⟨k + 1,hlt,by go_num,HR1.out⟩
         case measure => simp [intOf]; omega
       · have HQ := hide hq
         clear hq
         go_wp2
         go_ret
         exact ⟨x,rfl,Or.inr ⟨hx,HQ.out⟩⟩
     · have KC := hide (HSt.out 49 #[a,b] rfl)
       clear HSt
       go_wp2_with fail
       refine KC.out.mono ?_
       clear KC
       rintro e w1 ⟨x,rfl,hx⟩
       rcases hx with ⟨rfl,hr⟩ | ⟨hx,hq⟩
       · have HR1 := hide hr
         clear hr
         go_wp2
         go_roundw
         case rel => exact ⟨k + 1,hlt,by go_num,HR1.out⟩
         case measure => simp [intOf]; omega
       · have HQ := hide hq
         clear hq
         go_wp2
         go_ret
         exact ⟨x,rfl,Or.inr ⟨hx,HQ.out⟩⟩
     · have KC := hide (HSt.out 88 #[a,b,c] rfl)
       clear HSt
       go_wp2_with fail
       refine KC.out.mono ?_
       clear KC
       rintro e w1 ⟨x,rfl,hx⟩
       rcases hx with ⟨rfl,hr⟩ | ⟨hx,hq⟩
       · have HR1 := hide hr
         clear hr
         go_wp2
         go_roundw
         case rel => exact ⟨k + 1,hlt,by go_num,HR1.out⟩
         case measure => simp [intOf]; omega
       · have HQ := hide hq
         clear hq
         go_wp2
         go_ret
         exact ⟨x,rfl,Or.inr ⟨hx,HQ.out⟩⟩
   · have hke : k = vs.length := by omega
     subst hke
     have hz : ¬ ((vs.length : Int) < (vs.length : Int)) := by omega
     go_wp2
     go_ret
     exact ⟨0,rfl,Or.inl ⟨rfl,HU.out⟩⟩
set_option maxHeartbeats 400000 in
theorem clearing_any (pd : Option Addr) (ck lg : Int) (g : Int) (w : World) : Calls Tryz.prog 44 #[areaV pd ck lg,.int .u64 g] w fun e v => e = .returned (.func (.func 76) #[] #[.pointer (some ⟨w.heap.size,0,none⟩),.pointer (some ⟨w.heap.size + 1,0,none⟩)]) /\ v = (w.alloc (.cells #[.pointer pd,.int .i64 ck,.int .i64 lg] 102)).alloc (.cells #[.int .u64 g] 50) := by
 unfold areaV
 go_enter Tryz.func44,Tryz.ntmps44
 go_wp2
 go_ret
 exact ⟨rfl,rfl⟩
set_option maxHeartbeats 400000 in
theorem saving_any (pd : Option Addr) (ck lg : Int) (g : Int) (t : ByteArray) (w : World) : Calls Tryz.prog 45 #[areaV pd ck lg,.int .u64 g,.string t] w fun e v => e = .returned (.func (.func 79) #[] #[.pointer (some ⟨w.heap.size,0,none⟩),.pointer (some ⟨w.heap.size + 1,0,none⟩),.pointer (some ⟨w.heap.size + 1 + 1,0,none⟩)]) /\ v = ((w.alloc (.cells #[.pointer pd,.int .i64 ck,.int .i64 lg] 102)).alloc (.cells #[.int .u64 g] 50)).alloc (.cells #[.string t] 9) := by
 unfold areaV
 go_enter Tryz.func45,Tryz.ntmps45
 go_wp2
 go_ret
 exact ⟨rfl,rfl⟩
def ABox (B1 B2 q : Nat) (ck lg : Int) (g : Int) (u : World) : Prop := u.cell? ⟨B1,0,none⟩ = some (.pointer (some ⟨q,0,none⟩)) /\ u.cell? ⟨B1,1,none⟩ = some (.int .i64 ck) /\ u.cell? ⟨B1,2,none⟩ = some (.int .i64 lg) /\ u.cell? ⟨B2,0,none⟩ = some (.int .u64 g)
theorem ABox.below {B1 B2 q : Nat} {ck lg g : Int} {u v : World} (h : ABox B1 B2 q ck lg g u) (hb : Below u.heap.size u v) : ABox B1 B2 q ck lg g v := ⟨cellB9 hb h.1,cellB9 hb h.2.1,cellB9 hb h.2.2.1,cellB9 hb h.2.2.2⟩
set_option maxHeartbeats 1000000 in
theorem clear1_any (B1 B2 q : Nat) (ck lg : Int) (g o : Int) (u : World) (P : Ending -> World -> Prop) (h : ABox B1 B2 q ck lg g u) (hP : ∀ e w',P e w' -> ∃ x,e = .returned x /\ ABox B1 B2 q ck lg g w')
   (hL : ∀ v,Calls Tryz.prog 78 #[areaV (some ⟨q,0,none⟩) ck lg,.int .u64 g] v fun e w' => e = .returned (.int .i64 o) /\ Below v.heap.size v w')
   (hA : ∀ v,Below u.heap.size u v -> Calls Tryz.prog 77 #[.pointer (some ⟨q,0,none⟩),.int .i64 o,.int .i64 lg] v P) :
   Calls Tryz.prog 76 #[.pointer (some ⟨B1,0,none⟩),.pointer (some ⟨B2,0,none⟩)] u P := by
 have HC : Hid (∀ v,Below u.heap.size u v -> ABox B1 B2 q ck lg g v) := fun v hb => h.below hb
 have HA := hide hA
 have HP := hide hP
 have HL := hide hL
 have K : Below u.heap.size u u.drew := (Below.refl _ u).drew
 unfold areaV ABox at *
 clear h hA hP hL
 go_enter Tryz.func76,Tryz.ntmps76
 go_wp2_with fail
 go_region_held3 (fun z => z.cell? ⟨B1,0,none⟩ = some (.pointer (some ⟨q,0,none⟩)) /\ z.cell? ⟨B1,1,none⟩ = some (.int .i64 ck) /\ z.cell? ⟨B1,2,none⟩ = some (.int .i64 lg) /\ z.cell? ⟨B2,0,none⟩ = some (.int .u64 g))
   ((first | (with_reducible exact HC.out _ K) | (with_reducible exact K.2)))
   (first
     | (go_at_call 78; refine (HL.out _).mono ?_; rintro e z0 ⟨rfl,hb0⟩; have K := bnext K hb0)
     | (go_at_call 77; refine (HA.out _ K).mono ?_; rintro e z0 hz; obtain ⟨x,rfl,hcs⟩ := HP.out _ _ hz; have K := And.intro hz hcs))
 all_goals
   have HK := hide K.1
   clear K
   go_wp2
   exact HK.out
set_option maxHeartbeats 1000000 in
theorem save1_any (B1 B2 B3 q : Nat) (ck lg : Int) (g n : Int) (t : ByteArray) (u : World) (P : Ending -> World -> Prop) (h : ABox B1 B2 q ck lg g u) (h3 : u.cell? ⟨B3,0,none⟩ = some (.string t)) (hP : ∀ e w',P e w' -> ∃ x,e = .returned x /\ ABox B1 B2 q ck lg g w' /\ w'.cell? ⟨B3,0,none⟩ = some (.string t))
   (hL : ∀ v,Calls Tryz.prog 48 #[areaV (some ⟨q,0,none⟩) ck lg] v fun e w' => e = .returned (.int .i64 n) /\ Below v.heap.size v w')
   (hA : ∀ v,Below u.heap.size u v -> Calls Tryz.prog 80 #[.pointer (some ⟨q,0,none⟩),.int .i64 0,.int .i64 n,.int .u64 g,.string t] v P) :
   Calls Tryz.prog 79 #[.pointer (some ⟨B1,0,none⟩),.pointer (some ⟨B2,0,none⟩),.pointer (some ⟨B3,0,none⟩)] u P := by
 have HC : Hid (∀ v,Below u.heap.size u v -> ABox B1 B2 q ck lg g v /\ v.cell? ⟨B3,0,none⟩ = some (.string t)) := fun v hb => ⟨h.below hb,cellB9 hb h3⟩
 have HA := hide hA
 have HP := hide hP
 have HL := hide hL
 have K : Below u.heap.size u u.drew := (Below.refl _ u).drew
 unfold areaV ABox at *
 clear h h3 hA hP hL
 go_enter Tryz.func79,Tryz.ntmps79
 go_wp2_with fail
 go_region_held3 (fun z => (z.cell? ⟨B1,0,none⟩ = some (.pointer (some ⟨q,0,none⟩)) /\ z.cell? ⟨B1,1,none⟩ = some (.int .i64 ck) /\ z.cell? ⟨B1,2,none⟩ = some (.int .i64 lg) /\ z.cell? ⟨B2,0,none⟩ = some (.int .u64 g)) /\ z.cell? ⟨B3,0,none⟩ = some (.string t))
   ((first | (with_reducible exact HC.out _ K) | (with_reducible exact K.2)))
   (first
     | (go_at_call 48; refine (HL.out _).mono ?_; rintro e z0 ⟨rfl,hb0⟩; have K := bnext K hb0)
     | (go_at_call 80; refine (HA.out _ K).mono ?_; rintro e z0 hz; obtain ⟨x,rfl,hcs⟩ := HP.out _ _ hz; have K := And.intro hz hcs))
 all_goals
   have HK := hide K.1
   clear K
   go_wp2
   exact HK.out
def AHas (q o N g : Nat) (s : ByteArray) (recs : List ByteArray) (st : St) (F : Nat -> Prop) (w : World) (e : Ending) (w' : World) : Prop :=
 ∃ pl vR F',e = .returned (.tuple #[.agg #[.iface 143 (.pointer (some ⟨pl,0,none⟩)),.int .u64 (g : Int)],vR,.int .i64 0]) /\ LAt w' pl q o N s false /\ w.heap.size <= pl /\ OwnL w' w.heap.size vR recs /\ DAt w' q st F' /\ Loc F F' w w' /\ ¬ F' pl /\ (∀ k,F' k -> ¬ OB vR k) /\ ¬ OB vR pl
def ANo (q : Nat) (st : St) (F : Nat -> Prop) (w : World) (x : Int) (e : Ending) (w' : World) : Prop := e = .returned (.tuple #[.agg #[.nilIface,.int .u64 0],.slice none 0 0,.int .i64 x]) /\ ∃ F',DAt w' q st F' /\ Loc F F' w w'
theorem results_ctt {P : Program} {fn : Func} {t c u : Tmp} {ty : TypeId} (h : fn.results = #[.cell c ty,.tmp t,.tmp u]) (tmps : Array Value) (w : World) (g : Nat) (tt : TypeId) (cs : Array Value) (fr : Nat × Nat) (d : TypeDesc)
   (hp : tmps.getD c undef = .pointer (some ⟨g,0,none⟩)) (hg : w.heap[g]? = some (.cells cs tt fr))
   (hu : P.underlying ty = some d) (hd : (match d with | .struct _ | .array _ _ => true | _ => false) = true) (hi : (P.info? ty).map (·.size) = some cs.size) :
   (results fn tmps).run P w = .ok (.tuple #[.agg cs,tmps.getD t undef,tmps.getD u undef]) w := by
 have hp' : tmps[c]?.getD undef = .pointer (some ⟨g,0,none⟩) := by simpa using hp
 simp [results,h,hp',asAddr,run_loadVar_row w g tt ty cs fr d hg hu hd hi]
theorem info100 : (Tryz.prog.info? 100).map (·.size) = some 2 := by kernel_rfl
theorem row_cells2 {u : World} {B : Nat} {x y : Value} {T : TypeId} (h : u.heap[B]? = some (.cells #[x,y] T (0,0))) : u.cell? ⟨B,0,none⟩ = some x /\ u.cell? ⟨B,1,none⟩ = some y /\ u.frozen? ⟨B,0,none⟩ = false /\ u.frozen? ⟨B,1,none⟩ = false := by
 refine ⟨?_,?_,?_,?_⟩ <;> simp [World.cell?,World.frozen?,h]
theorem row_set2 {u : World} {B : Nat} {x y : Value} {T : TypeId} (h : u.heap[B]? = some (.cells #[x,y] T (0,0))) (a b : Value) : ((u.setCell ⟨B,0,none⟩ a).setCell ⟨B,1,none⟩ b).heap[B]? = some (.cells #[a,b] T (0,0)) :=
 heap_set3 (i := 1) (heap_set3 (i := 0) h a) b
theorem set2_other (u : World) (B : Nat) (a b : Value) (k : Nat) (hk : k ≠ B) : ((u.setCell ⟨B,0,none⟩ a).setCell ⟨B,1,none⟩ b).heap[k]? = u.heap[k]? := by
 rw [Below.heap_setCell _ ⟨B,1,none⟩ b k hk,Below.heap_setCell _ ⟨B,0,none⟩ a k hk]
theorem loc_boxed {F F' : Nat -> Prop} {w v z : World} {B : Nat} (hb : Below w.heap.size w v) (hB : w.heap.size <= B) (hl : Loc F F' v z) (a b : Value) : Loc F F' w ((z.setCell ⟨B,0,none⟩ a).setCell ⟨B,1,none⟩ b) :=
 (((Loc.of_below F hb).trans hl).set_new B 0 a hB).set_new B 1 b hB
theorem disk_set2 {z : World} {q B : Nat} {st : St} {F' : Nat -> Prop} (hd : DAt z q st F') (hn : ¬ F' B) (a b : Value) : DAt ((z.setCell ⟨B,0,none⟩ a).setCell ⟨B,1,none⟩ b) q st F' :=
 con.same hd (fun k hk => set2_other z B a b k (fun e => hn (e ▸ hk)))
theorem own_new {F F' : Nat -> Prop} {v z : World} (hl : Loc F F' v z) {B : Nat} (hF : ¬ F B) (hB : B < v.heap.size) : ¬ F' B := fun hf => by
 rcases hl.own B hf with h | h
 · exact hF h
 · omega
theorem HasLog.boxed {q o N g : Nat} {s : ByteArray} {recs : List ByteArray} {st : St} {F F' : Nat -> Prop} {w v z : World} {pl B : Nat} {vR : Value} (hb : Below w.heap.size w v) (hB : w.heap.size <= B) (hBv : B < v.heap.size) (hFB : ¬ F B)
   (h : LAt z pl q o N s false /\ v.heap.size <= pl /\ OwnL z v.heap.size vR recs /\ DAt z q st F' /\ Loc F F' v z /\ ¬ F' pl /\ (∀ k,F' k -> ¬ OB vR k) /\ ¬ OB vR pl) (a b : Value) :
   AHas q o N g s recs st F w (.returned (.tuple #[.agg #[.iface 143 (.pointer (some ⟨pl,0,none⟩)),.int .u64 (g : Int)],vR,.int .i64 0])) ((z.setCell ⟨B,0,none⟩ a).setCell ⟨B,1,none⟩ b) := by
 obtain ⟨h1,h2,h3,h4,h5,h6,h7,h8⟩ := h
 have hbs := hb.size
 refine ⟨pl,vR,F',rfl,h1.same (set2_other z B a b pl (by omega)),by omega,?_,disk_set2 h4 (own_new h5 hFB hBv) a b,loc_boxed hb hB h5 a b,h6,h7,h8⟩
 exact own_up (own_kept h3 (fun k hk => set2_other z B a b k (by have := own_ge h3 hk; omega))) (fun k hk => by have := own_ge h3 hk; omega)
structure ABx (w : World) (q : Nat) (ck lg : Int) (u : World) : Prop where
 below : Below w.heap.size w u
 c0 : u.cell? ⟨w.heap.size,0,none⟩ = some (.pointer (some ⟨q,0,none⟩))
 c1 : u.cell? ⟨w.heap.size,1,none⟩ = some (.int .i64 ck)
 c2 : u.cell? ⟨w.heap.size,2,none⟩ = some (.int .i64 lg)
 res : u.heap[w.heap.size + 1]? = some (.cells #[.nilIface,.int .u64 0] 100 (0,0))
theorem ABx.start (w : World) (q : Nat) (ck lg : Int) : ABx w q ck lg ((w.alloc (.cells #[.pointer (some ⟨q,0,none⟩),.int .i64 ck,.int .i64 lg] 102)).alloc (.cells #[.nilIface,.int .u64 0] 100)) := by
 obtain ⟨c0,c1,c2⟩ := area_cells w (some ⟨q,0,none⟩) ck lg _ (one_below (w.alloc (.cells #[.pointer (some ⟨q,0,none⟩),.int .i64 ck,.int .i64 lg] 102)) (.cells #[.nilIface,.int .u64 0] 100))
 refine ⟨grow2 w _ _,c0,c1,c2,?_⟩
 have := heap_alloc_last (w.alloc (.cells #[.pointer (some ⟨q,0,none⟩),.int .i64 ck,.int .i64 lg] 102)) (.cells #[.nilIface,.int .u64 0] 100)
 rw [show (w.alloc (.cells #[.pointer (some ⟨q,0,none⟩),.int .i64 ck,.int .i64 lg] 102)).heap.size = w.heap.size + 1 from by simp] at this
 exact this
theorem ABx.keep {w : World} {q : Nat} {ck lg : Int} {u v : World} (h : ABx w q ck lg u) (hb : Below u.heap.size u v) : ABx w q ck lg v :=
 ⟨bnext h.below hb,cellB9 hb h.c0,cellB9 hb h.c1,cellB9 hb h.c2,(hb.block _ (Array.getElem?_eq_some_iff.1 h.res).1).trans h.res⟩
theorem ABx.cells {w : World} {q : Nat} {ck lg : Int} {u : World} (h : ABx w q ck lg u) : u.cell? ⟨w.heap.size,0,none⟩ = some (.pointer (some ⟨q,0,none⟩)) /\ u.cell? ⟨w.heap.size,1,none⟩ = some (.int .i64 ck) /\ u.cell? ⟨w.heap.size,2,none⟩ = some (.int .i64 lg) := ⟨h.c0,h.c1,h.c2⟩
theorem ABx.loc {w : World} {q : Nat} {ck lg : Int} {u v : World} {F F' : Nat -> Prop} (h : ABx w q ck lg u) (hl : Loc F F' u v) (hF : ∀ k,F k -> k < w.heap.size) :
   (v.cell? ⟨w.heap.size,0,none⟩ = some (.pointer (some ⟨q,0,none⟩)) /\ v.cell? ⟨w.heap.size,1,none⟩ = some (.int .i64 ck) /\ v.cell? ⟨w.heap.size,2,none⟩ = some (.int .i64 lg)) /\ v.heap[w.heap.size + 1]? = some (.cells #[.nilIface,.int .u64 0] 100 (0,0)) := by
 have hlt := World.block_lt_of_cell? u _ h.c0
 have hs := hl.block w.heap.size hlt (fun hf => Nat.lt_irrefl _ (hF _ hf))
 have hr := hl.block (w.heap.size + 1) (Array.getElem?_eq_some_iff.1 h.res).1 (fun hf => by have := hF _ hf; omega)
 exact ⟨⟨(cell_same8 hs 0).trans h.c0,(cell_same8 hs 1).trans h.c1,(cell_same8 hs 2).trans h.c2⟩,hr.trans h.res⟩
set_option maxRecDepth 10000 in
set_option maxHeartbeats 2000000 in
theorem aopen_ok (q o g : Nat) (ck : Int) (lg : Nat) (s : ByteArray) (recs : List ByteArray) (st' : St) (F : Nat -> Prop) (w : World) (hF : ∀ k,F k -> k < w.heap.size)
   (hL : ∀ v,Calls Tryz.prog 78 #[areaV (some ⟨q,0,none⟩) ck (lg : Int),.int .u64 (g : Int)] v fun e w' => e = .returned (.int .i64 (o : Int)) /\ Below v.heap.size v w')
   (hA : ∀ v,Below w.heap.size w v -> Calls Tryz.prog 85 #[.pointer (some ⟨q,0,none⟩),.int .i64 (o : Int),.int .i64 (lg : Int)] v (HasLog q o lg s recs st' F v)) :
   Calls Tryz.prog 50 #[areaV (some ⟨q,0,none⟩) ck (lg : Int),.int .u64 (g : Int)] w (AHas q o lg g s recs st' F w) := by
 have HA := hide hA
 have HL := hide hL
 have HF := hide hF
 have K := (ABx.start w q ck (lg : Int)).keep ((Below.refl _ _).drew)
 unfold areaV at *
 clear hA hL hF
 go_enter Tryz.func50,Tryz.ntmps50
 go_wp2_with fail
 generalize (w.alloc (.cells #[.pointer (some ⟨q,0,none⟩),.int .i64 ck,.int .i64 (lg : Int)] 102)).alloc (.cells #[.nilIface,.int .u64 0] 100) = W at *
 go_region_held3 (fun z => z.cell? ⟨w.heap.size,0,none⟩ = some (.pointer (some ⟨q,0,none⟩)) /\ z.cell? ⟨w.heap.size,1,none⟩ = some (.int .i64 ck) /\ z.cell? ⟨w.heap.size,2,none⟩ = some (.int .i64 (lg : Int)))
   ((first | (with_reducible exact ABx.cells K) | (with_reducible exact K.1.1)))
   (first
     | (go_at_call 78; refine (HL.out _).mono ?_; rintro e z0 ⟨rfl,hb0⟩; have K := ABx.keep K hb0)
     | (go_at_call 85; refine (HA.out _ K.below).mono ?_; rintro e z0 ⟨pl,vR,F',rfl,hz⟩; have K := And.intro (K.loc hz.2.2.2.2.1 HF.out) (And.intro K hz)))
 all_goals
   obtain ⟨⟨-,hrow⟩,hbx,hz⟩ := K
   have HZ := hide (And.intro hbx hz)
   obtain ⟨r0,r1,f0,f1⟩ := row_cells2 hrow
   have HRow := hide hrow
   clear hrow hbx hz
   go_wp2
   exact bodyPost_ret (results_ctt Tryz.results50 _ _ (w.heap.size + 1) 100 _ (0,0) _ rfl (row_set2 HRow.out _ _) Tryz.underlying100 rfl info100) rfl (HasLog.boxed HZ.out.1.below (Nat.le_succ _) (Array.getElem?_eq_some_iff.1 HZ.out.1.res).1 (fun hf => by have := HF.out _ hf; omega) HZ.out.2 _ _)
set_option maxRecDepth 10000 in
set_option maxHeartbeats 2000000 in
theorem aopen_no (q o g : Nat) (ck : Int) (lg : Nat) (x : Int) (hx : x ≠ 0) (st' : St) (F : Nat -> Prop) (w : World) (hF : ∀ k,F k -> k < w.heap.size)
   (hL : ∀ v,Calls Tryz.prog 78 #[areaV (some ⟨q,0,none⟩) ck (lg : Int),.int .u64 (g : Int)] v fun e w' => e = .returned (.int .i64 (o : Int)) /\ Below v.heap.size v w')
   (hA : ∀ v,Below w.heap.size w v -> Calls Tryz.prog 85 #[.pointer (some ⟨q,0,none⟩),.int .i64 (o : Int),.int .i64 (lg : Int)] v (NoLog q st' F v x)) :
   Calls Tryz.prog 50 #[areaV (some ⟨q,0,none⟩) ck (lg : Int),.int .u64 (g : Int)] w (ANo q st' F w x) := by
 have HA := hide hA
 have HL := hide hL
 have HF := hide hF
 have K := (ABx.start w q ck (lg : Int)).keep ((Below.refl _ _).drew)
 unfold areaV at *
 clear hA hL hF
 go_enter Tryz.func50,Tryz.ntmps50
 go_wp2_with fail
 generalize (w.alloc (.cells #[.pointer (some ⟨q,0,none⟩),.int .i64 ck,.int .i64 (lg : Int)] 102)).alloc (.cells #[.nilIface,.int .u64 0] 100) = W at *
 go_region_held3 (fun z => z.cell? ⟨w.heap.size,0,none⟩ = some (.pointer (some ⟨q,0,none⟩)) /\ z.cell? ⟨w.heap.size,1,none⟩ = some (.int .i64 ck) /\ z.cell? ⟨w.heap.size,2,none⟩ = some (.int .i64 (lg : Int)))
   ((first | (with_reducible exact ABx.cells K) | (with_reducible exact K.1.1)))
   (first
     | (go_at_call 78; refine (HL.out _).mono ?_; rintro e z0 ⟨rfl,hb0⟩; have K := ABx.keep K hb0)
     | (go_at_call 85; refine (HA.out _ K.below).mono ?_; rintro e z0 ⟨rfl,F',hz⟩; have K := And.intro (K.loc hz.2 HF.out) (And.intro K hz)))
 all_goals
   obtain ⟨⟨-,hrow⟩,hbx,hz⟩ := K
   have HZ := hide (And.intro hbx hz)
   obtain ⟨r0,r1,f0,f1⟩ := row_cells2 hrow
   have HRow := hide hrow
   clear hrow hbx hz
   go_wp2
   exact bodyPost_ret (results_ctt Tryz.results50 _ _ (w.heap.size + 1) 100 _ (0,0) _ rfl (row_set2 HRow.out _ _) Tryz.underlying100 rfl info100) rfl ⟨rfl,F',disk_set2 HZ.out.2.1 (own_new HZ.out.2.2 (fun hf => by have := HF.out _ hf; omega) (Array.getElem?_eq_some_iff.1 HZ.out.1.res).1) _ _,loc_boxed HZ.out.1.below (Nat.le_succ _) HZ.out.2.2 _ _⟩
structure GBx (p q Bs Bg : Nat) (ck lg g : Int) (u : World) : Prop where
 s : u.cell? ⟨Bs,0,none⟩ = some (.pointer (some ⟨p,0,none⟩))
 g : u.cell? ⟨Bg,0,none⟩ = some (.int .u64 g)
 c2 : u.cell? ⟨p,2,none⟩ = some (.pointer (some ⟨q,0,none⟩))
 c3 : u.cell? ⟨p,3,none⟩ = some (.int .i64 ck)
 c4 : u.cell? ⟨p,4,none⟩ = some (.int .i64 lg)
theorem GBx.all {p q Bs Bg : Nat} {ck lg g : Int} {u : World} (h : GBx p q Bs Bg ck lg g u) : u.cell? ⟨Bs,0,none⟩ = some (.pointer (some ⟨p,0,none⟩)) /\ u.cell? ⟨Bg,0,none⟩ = some (.int .u64 g) /\ u.cell? ⟨p,2,none⟩ = some (.pointer (some ⟨q,0,none⟩)) /\ u.cell? ⟨p,3,none⟩ = some (.int .i64 ck) /\ u.cell? ⟨p,4,none⟩ = some (.int .i64 lg) := ⟨h.s,h.g,h.c2,h.c3,h.c4⟩
theorem GBx.same {p q Bs Bg : Nat} {ck lg g : Int} {u v : World} (h : GBx p q Bs Bg ck lg g u) (h1 : v.heap[Bs]? = u.heap[Bs]?) (h2 : v.heap[Bg]? = u.heap[Bg]?) (h3 : v.heap[p]? = u.heap[p]?) : GBx p q Bs Bg ck lg g v :=
 ⟨(cell_same8 h1 0).trans h.s,(cell_same8 h2 0).trans h.g,(cell_same8 h3 2).trans h.c2,(cell_same8 h3 3).trans h.c3,(cell_same8 h3 4).trans h.c4⟩
theorem GBx.lt {p q Bs Bg : Nat} {ck lg g : Int} {u : World} (h : GBx p q Bs Bg ck lg g u) : Bs < u.heap.size /\ Bg < u.heap.size /\ p < u.heap.size := ⟨World.block_lt_of_cell? u _ h.s,World.block_lt_of_cell? u _ h.g,World.block_lt_of_cell? u _ h.c2⟩
theorem GBx.below {p q Bs Bg : Nat} {ck lg g : Int} {u v : World} (h : GBx p q Bs Bg ck lg g u) (hb : Below u.heap.size u v) : GBx p q Bs Bg ck lg g v := h.same (hb.block _ h.lt.1) (hb.block _ h.lt.2.1) (hb.block _ h.lt.2.2)
theorem GBx.loc {p q Bs Bg : Nat} {ck lg g : Int} {F F' : Nat -> Prop} {u v : World} (h : GBx p q Bs Bg ck lg g u) (hl : Loc F F' u v) (hF : ¬ F Bs /\ ¬ F Bg /\ ¬ F p) : GBx p q Bs Bg ck lg g v := h.same (hl.block _ h.lt.1 hF.1) (hl.block _ h.lt.2.1 hF.2.1) (hl.block _ h.lt.2.2 hF.2.2)
theorem GBx.set {p q Bs Bg B : Nat} {ck lg g : Int} {u : World} (h : GBx p q Bs Bg ck lg g u) (hB : B ≠ Bs /\ B ≠ Bg /\ B ≠ p) (a b : Value) : GBx p q Bs Bg ck lg g ((u.setCell ⟨B,0,none⟩ a).setCell ⟨B,1,none⟩ b) :=
 h.same (set2_other u B a b _ (fun e => hB.1 e.symm)) (set2_other u B a b _ (fun e => hB.2.1 e.symm)) (set2_other u B a b _ (fun e => hB.2.2 e.symm))
def AHas1 (q o N : Nat) (s : ByteArray) (recs : List ByteArray) (st : St) (F : Nat -> Prop) (w : World) (pl : Nat) (vR : Value) (F' : Nat -> Prop) (w' : World) : Prop :=
 LAt w' pl q o N s false /\ w.heap.size <= pl /\ OwnL w' w.heap.size vR recs /\ DAt w' q st F' /\ Loc F F' w w' /\ ¬ F' pl /\ (∀ k,F' k -> ¬ OB vR k) /\ ¬ OB vR pl
theorem AHas1.back {q o N : Nat} {s : ByteArray} {recs : List ByteArray} {st : St} {F F' : Nat -> Prop} {w v z : World} {pl : Nat} {vR : Value} (hb : Below w.heap.size w v) (h : AHas1 q o N s recs st F v pl vR F' z) : AHas1 q o N s recs st F w pl vR F' z := by
 obtain ⟨h1,h2,h3,h4,h5,h6,h7,h8⟩ := h
 have := hb.size
 exact ⟨h1,by omega,own_up h3 (fun k hk => by have := own_ge h3 hk; omega),h4,(Loc.of_below F hb).trans h5,h6,h7,h8⟩
set_option maxRecDepth 10000 in
set_option maxHeartbeats 2000000 in
theorem goOn1_ok (p q o Bs Bg Bn : Nat) (ck lg g : Int) (G N : Nat) (hg : g = (G : Int)) (s : ByteArray) (recs : List ByteArray) (st' : St) (F : Nat -> Prop) (u : World) (x0 y0 : Value) (h : GBx p q Bs Bg ck lg g u) (hn : u.heap[Bn]? = some (.cells #[x0,y0] 100 (0,0)))
   (hF : ¬ F Bs /\ ¬ F Bg /\ ¬ F p /\ ¬ F Bn) (hB : Bn ≠ Bs /\ Bn ≠ Bg /\ Bn ≠ p)
   (hA : ∀ v,Below u.heap.size u v -> Calls Tryz.prog 50 #[areaV (some ⟨q,0,none⟩) ck lg,.int .u64 g] v (AHas q o N G s recs st' F v)) :
   Calls Tryz.prog 88 #[.pointer (some ⟨Bs,0,none⟩),.pointer (some ⟨Bg,0,none⟩),.pointer (some ⟨Bn,0,none⟩)] u fun e v => e = .returned (.int .i64 0) /\ ∃ pl vR F' z,AHas1 q o N s recs st' F u pl vR F' z /\ v = (z.setCell ⟨Bn,0,none⟩ (.iface 143 (.pointer (some ⟨pl,0,none⟩)))).setCell ⟨Bn,1,none⟩ (.int .u64 g) := by
 subst hg
 have HA := hide hA
 have HF := hide hF
 have HB := hide hB
 have HC : Hid (∀ v,Below u.heap.size u v -> GBx p q Bs Bg ck lg (G : Int) v) := fun v hb => h.below hb
 have HN : Hid (∀ v,Below u.heap.size u v -> v.heap[Bn]? = some (.cells #[x0,y0] 100 (0,0))) := fun v hb => (hb.block _ (Array.getElem?_eq_some_iff.1 hn).1).trans hn
 have K : Below u.heap.size u u.drew := (Below.refl _ u).drew
 unfold areaV at *
 clear h hn hF hA hB
 go_enter Tryz.func88,Tryz.ntmps88
 go_wp2_with fail
 go_region_held3 (fun z => z.cell? ⟨Bs,0,none⟩ = some (.pointer (some ⟨p,0,none⟩)) /\ z.cell? ⟨Bg,0,none⟩ = some (.int .u64 (G : Int)) /\ z.cell? ⟨p,2,none⟩ = some (.pointer (some ⟨q,0,none⟩)) /\ z.cell? ⟨p,3,none⟩ = some (.int .i64 ck) /\ z.cell? ⟨p,4,none⟩ = some (.int .i64 lg))
   ((first | (with_reducible exact (HC.out _ K).all) | (with_reducible exact K.1.all) | (with_reducible exact (K.2.1 _ _).all)))
   (first
     | (go_at_call 50; refine (HA.out _ K).mono ?_; rintro e z0 ⟨pl,vR,F',rfl,hz⟩; have hlz : Loc F F' _ z0 := hz.2.2.2.2.1; have hrow := (hlz.block Bn (Array.getElem?_eq_some_iff.1 (HN.out _ K)).1 HF.out.2.2.2).trans (HN.out _ K); obtain ⟨r0,r1,f0,f1⟩ := row_cells2 hrow; have hgb := (HC.out _ K).loc hlz ⟨HF.out.1,HF.out.2.1,HF.out.2.2.1⟩; have K := And.intro hgb (And.intro (fun a b => hgb.set HB.out a b) (AHas1.back K hz)); clear hz hlz hrow hgb))
 all_goals
   have HZ := hide K.2.2
   clear K r0 r1 f0 f1
   go_wp2
   go_ret
   exact ⟨rfl,pl,vR,F',_,HZ.out,rfl⟩
set_option maxRecDepth 10000 in
set_option maxHeartbeats 2000000 in
theorem goOn1_no (p q Bs Bg Bn : Nat) (ck lg : Int) (G : Nat) (x : Int) (st' : St) (F : Nat -> Prop) (u : World) (x0 y0 : Value) (h : GBx p q Bs Bg ck lg (G : Int) u) (hn : u.heap[Bn]? = some (.cells #[x0,y0] 100 (0,0)))
   (hF : ¬ F Bs /\ ¬ F Bg /\ ¬ F p /\ ¬ F Bn) (hB : Bn ≠ Bs /\ Bn ≠ Bg /\ Bn ≠ p)
   (hA : ∀ v,Below u.heap.size u v -> Calls Tryz.prog 50 #[areaV (some ⟨q,0,none⟩) ck lg,.int .u64 (G : Int)] v (ANo q st' F v x)) :
   Calls Tryz.prog 88 #[.pointer (some ⟨Bs,0,none⟩),.pointer (some ⟨Bg,0,none⟩),.pointer (some ⟨Bn,0,none⟩)] u fun e v => e = .returned (.int .i64 x) /\ ∃ F' z,(DAt z q st' F' /\ Loc F F' u z) /\ v = (z.setCell ⟨Bn,0,none⟩ .nilIface).setCell ⟨Bn,1,none⟩ (.int .u64 0) := by
 have HA := hide hA
 have HF := hide hF
 have HB := hide hB
 have HC : Hid (∀ v,Below u.heap.size u v -> GBx p q Bs Bg ck lg (G : Int) v) := fun v hb => h.below hb
 have HN : Hid (∀ v,Below u.heap.size u v -> v.heap[Bn]? = some (.cells #[x0,y0] 100 (0,0))) := fun v hb => (hb.block _ (Array.getElem?_eq_some_iff.1 hn).1).trans hn
 have K : Below u.heap.size u u.drew := (Below.refl _ u).drew
 unfold areaV at *
 clear h hn hF hA hB
 go_enter Tryz.func88,Tryz.ntmps88
 go_wp2_with fail
 go_region_held3 (fun z => z.cell? ⟨Bs,0,none⟩ = some (.pointer (some ⟨p,0,none⟩)) /\ z.cell? ⟨Bg,0,none⟩ = some (.int .u64 (G : Int)) /\ z.cell? ⟨p,2,none⟩ = some (.pointer (some ⟨q,0,none⟩)) /\ z.cell? ⟨p,3,none⟩ = some (.int .i64 ck) /\ z.cell? ⟨p,4,none⟩ = some (.int .i64 lg))
   ((first | (with_reducible exact (HC.out _ K).all) | (with_reducible exact K.1.all) | (with_reducible exact (K.2.1 _ _).all)))
   (first
     | (go_at_call 50; refine (HA.out _ K).mono ?_; rintro e z0 ⟨rfl,F',hz⟩; have hlz : Loc F F' _ z0 := hz.2; have hrow := (hlz.block Bn (Array.getElem?_eq_some_iff.1 (HN.out _ K)).1 HF.out.2.2.2).trans (HN.out _ K); obtain ⟨r0,r1,f0,f1⟩ := row_cells2 hrow; have hgb := (HC.out _ K).loc hlz ⟨HF.out.1,HF.out.2.1,HF.out.2.2.1⟩; have K := And.intro hgb (And.intro (fun a b => hgb.set HB.out a b) (And.intro hz.1 ((Loc.of_below F K).trans hz.2))); clear hz hlz hrow hgb))
 all_goals
   have HZ := hide K.2.2
   clear K r0 r1 f0 f1
   go_wp2
   go_ret
   exact ⟨rfl,F',_,HZ.out,rfl⟩
def goR (st : St) (ck lg g : Nat) (t : ByteArray) : Nat × St :=
 if (walClear st (lo ck lg g) lg).1 ≠ 0 then walClear st (lo ck lg g) lg
 else if ((walClear st (lo ck lg g) lg).2.save 0 (2 * (ck : Int)) g t).1 ≠ 0 then (walClear st (lo ck lg g) lg).2.save 0 (2 * (ck : Int)) g t
 else ((walOpen ((walClear st (lo ck lg g) lg).2.save 0 (2 * (ck : Int)) g t).2 (lo ck lg g) lg).1.1,(walOpen ((walClear st (lo ck lg g) lg).2.save 0 (2 * (ck : Int)) g t).2 (lo ck lg g) lg).2)
def goS (st : St) (ck lg g : Nat) (t : ByteArray) : ByteArray := (walOpen ((walClear st (lo ck lg g) lg).2.save 0 (2 * (ck : Int)) g t).2 (lo ck lg g) lg).1.2.1
def Bs8 (q Bn : Nat) (F : Nat -> Prop) (u0 : World) (st : St) (v : World) : Prop :=
 ∃ F',DAt v q st F' /\ Loc (fun k => F k \/ k = Bn) (fun k => F' k \/ k = Bn) u0 v /\ ¬ F' Bn /\ ∃ x y,v.heap[Bn]? = some (.cells #[x,y] 100 (0,0))
theorem Bs8.same {q Bn : Nat} {F : Nat -> Prop} {u0 v : World} {st : St} (h : Bs8 q Bn F u0 st v) (k : Nat) (hk : k < u0.heap.size) (hF : ¬ F k) (hn : k ≠ Bn) : v.heap[k]? = u0.heap[k]? := by
 obtain ⟨F',_,hl,_⟩ := h
 exact hl.block k hk (fun hh => hh.elim hF hn)
structure GIn (p q b B1 B2 B3 B4 B5 Bs Bg Bn ck lg g : Nat) (t : ByteArray) (F : Nat -> Prop) (u : World) : Prop where
 row : ∀ k (hk : k < 3),u.cell? ⟨b,0 + k,none⟩ = some [Value.func (.func 76) #[] #[.pointer (some ⟨B1,0,none⟩),.pointer (some ⟨B2,0,none⟩)],.func (.func 79) #[] #[.pointer (some ⟨B3,0,none⟩),.pointer (some ⟨B4,0,none⟩),.pointer (some ⟨B5,0,none⟩)],.func (.func 88) #[] #[.pointer (some ⟨Bs,0,none⟩),.pointer (some ⟨Bg,0,none⟩),.pointer (some ⟨Bn,0,none⟩)]][k]
 a1 : ABox B1 B2 q (ck : Int) (lg : Int) (g : Int) u
 a2 : ABox B3 B4 q (ck : Int) (lg : Int) (g : Int) u
 t5 : u.cell? ⟨B5,0,none⟩ = some (.string t)
 gb : GBx p q Bs Bg (ck : Int) (lg : Int) (g : Int) u
 nx : ∃ x y,u.heap[Bn]? = some (.cells #[x,y] 100 (0,0))
 apart : ∀ k,(k = b \/ k = B1 \/ k = B2 \/ k = B3 \/ k = B4 \/ k = B5 \/ k = Bs \/ k = Bg \/ k = p) -> ¬ F k /\ k ≠ Bn
 nF : ¬ F Bn
theorem ABox.lt {B1 B2 q : Nat} {ck lg g : Int} {u : World} (h : ABox B1 B2 q ck lg g u) : B1 < u.heap.size /\ B2 < u.heap.size := ⟨World.block_lt_of_cell? u _ h.1,World.block_lt_of_cell? u _ h.2.2.2⟩
theorem ABox.same {B1 B2 q : Nat} {ck lg g : Int} {u v : World} (h : ABox B1 B2 q ck lg g u) (h1 : v.heap[B1]? = u.heap[B1]?) (h2 : v.heap[B2]? = u.heap[B2]?) : ABox B1 B2 q ck lg g v :=
 ⟨(cell_same8 h1 0).trans h.1,(cell_same8 h1 1).trans h.2.1,(cell_same8 h1 2).trans h.2.2.1,(cell_same8 h2 0).trans h.2.2.2⟩
theorem GIn.at {p q b B1 B2 B3 B4 B5 Bs Bg Bn ck lg g : Nat} {t : ByteArray} {F : Nat -> Prop} {u0 v : World} {st : St} (h : GIn p q b B1 B2 B3 B4 B5 Bs Bg Bn ck lg g t F u0) (hb : Bs8 q Bn F u0 st v) :
   (∀ k (hk : k < 3),v.cell? ⟨b,0 + k,none⟩ = some [Value.func (.func 76) #[] #[.pointer (some ⟨B1,0,none⟩),.pointer (some ⟨B2,0,none⟩)],.func (.func 79) #[] #[.pointer (some ⟨B3,0,none⟩),.pointer (some ⟨B4,0,none⟩),.pointer (some ⟨B5,0,none⟩)],.func (.func 88) #[] #[.pointer (some ⟨Bs,0,none⟩),.pointer (some ⟨Bg,0,none⟩),.pointer (some ⟨Bn,0,none⟩)]][k]) /\
   ABox B1 B2 q (ck : Int) (lg : Int) (g : Int) v /\ ABox B3 B4 q (ck : Int) (lg : Int) (g : Int) v /\ v.cell? ⟨B5,0,none⟩ = some (.string t) /\ GBx p q Bs Bg (ck : Int) (lg : Int) (g : Int) v := by
 have hs : ∀ k,k < u0.heap.size -> (k = b \/ k = B1 \/ k = B2 \/ k = B3 \/ k = B4 \/ k = B5 \/ k = Bs \/ k = Bg \/ k = p) -> v.heap[k]? = u0.heap[k]? := fun k hk hh => hb.same k hk (h.apart k hh).1 (h.apart k hh).2
 have hbl : b < u0.heap.size := World.block_lt_of_cell? u0 _ (h.row 0 (by decide))
 refine ⟨fun k hk => (cell_same8 (hs b hbl (Or.inl rfl)) _).trans (h.row k hk),h.a1.same (hs _ h.a1.lt.1 (by simp)) (hs _ h.a1.lt.2 (by simp)),h.a2.same (hs _ h.a2.lt.1 (by simp)) (hs _ h.a2.lt.2 (by simp)),(cell_same8 (hs B5 (World.block_lt_of_cell? u0 _ h.t5) (by simp)) 0).trans h.t5,h.gb.same (hs _ h.gb.lt.1 (by simp)) (hs _ h.gb.lt.2.1 (by simp)) (hs _ h.gb.lt.2.2 (by simp))⟩
theorem Bs8.step {q Bn : Nat} {F F1 F2 : Nat -> Prop} {u0 v z : World} {st2 : St} (hl : Loc (fun k => F k \/ k = Bn) (fun k => F1 k \/ k = Bn) u0 v) (hn : ¬ F1 Bn) (hr : ∃ x y,v.heap[Bn]? = some (.cells #[x,y] 100 (0,0))) (h1 : DAt z q st2 F2) (h2 : Loc F1 F2 v z) : Bs8 q Bn F u0 st2 z := by
 obtain ⟨x,y,hr⟩ := hr
 have hlt := (Array.getElem?_eq_some_iff.1 hr).1
 refine ⟨F2,h1,hl.trans (h2.wide (X := fun k => k = Bn)),own_new h2 hn hlt,x,y,(h2.block _ hlt hn).trans hr⟩
def GOk (q Bn ck lg g : Nat) (t : ByteArray) (st : St) (F : Nat -> Prop) (u v : World) : Prop :=
 ∃ pl F',DAt v q (goR st ck lg g t).2 F' /\ Loc (fun k => F k \/ k = Bn) (fun k => F' k \/ k = Bn) u v /\ ¬ F' Bn /\ v.heap[Bn]? = some (.cells #[.iface 143 (.pointer (some ⟨pl,0,none⟩)),.int .u64 (g : Int)] 100 (0,0)) /\ LAt v pl q (lo ck lg g) lg (goS st ck lg g t) false /\ u.heap.size <= pl /\ ¬ F' pl
theorem calls_eq {n : Nat} {a b : Array Value} {w : World} {P : Ending -> World -> Prop} (e : a = b) (h : Calls Tryz.prog n a w P) : Calls Tryz.prog n b w P := e ▸ h
set_option maxRecDepth 10000 in
set_option maxHeartbeats 1000000 in
theorem goSteps (p q b B1 B2 B3 B4 B5 Bs Bg Bn ck lg g : Nat) (t : ByteArray) (st : St) (F : Nat -> Prop) (u : World) (c : Nat) (h : GIn p q b B1 B2 B3 B4 B5 Bs Bg Bn ck lg g t F u) (hD : DAt u q st F) (hok : st.Ok)
   (hl : st.loose.length + 3000 <= 8000) (hc : Conf ck lg st.sure.length) (hn : lg <= 200) (ht : t.size <= 65536) :
   Calls Tryz.prog 41 #[.slice (some ⟨b,0,none⟩) 3 c] u fun e v => e = .returned (.int .i64 (((goR st ck lg g t).1 : Nat) : Int)) /\ (((goR st ck lg g t).1 = 0 /\ GOk q Bn ck lg g t st F u v) \/ ((goR st ck lg g t).1 ≠ 0 /\ Bs8 q Bn F u (goR st ck lg g t).2 v)) := by
 have hck := hc.ck256
 have hlf := lo_fit hc g
 have hlg1 := hc.lg1
 have hlg2 := hc.lg1024
 have hcl := clear_long (lo ck lg g) lg st (by omega)
 have hclf := clear_few st (lo ck lg g) lg
 have hokC := clear_ok hok (lo ck lg g) lg
 have hsl := save_long (walClear st (lo ck lg g) lg).2 0 (2 * (ck : Int)) g t
 have hsf := save_few (walClear st (lo ck lg g) lg).2 0 (2 * (ck : Int)) g t
 have hokS := save_ok8 hokC 0 (2 * (ck : Int)) g t
 have hnb : nb t.size <= 257 := by unfold nb; omega
 have key := inOrder8 b 0 c [Value.func (.func 76) #[] #[.pointer (some ⟨B1,0,none⟩),.pointer (some ⟨B2,0,none⟩)],.func (.func 79) #[] #[.pointer (some ⟨B3,0,none⟩),.pointer (some ⟨B4,0,none⟩),.pointer (some ⟨B5,0,none⟩)],.func (.func 88) #[] #[.pointer (some ⟨Bs,0,none⟩),.pointer (some ⟨Bg,0,none⟩),.pointer (some ⟨Bn,0,none⟩)]]
   (fun k v => (k = 0 /\ Bs8 q Bn F u st v) \/ (k = 1 /\ (walClear st (lo ck lg g) lg).1 = 0 /\ Bs8 q Bn F u (walClear st (lo ck lg g) lg).2 v) \/ (k = 2 /\ (walClear st (lo ck lg g) lg).1 = 0 /\ ((walClear st (lo ck lg g) lg).2.save 0 (2 * (ck : Int)) g t).1 = 0 /\ Bs8 q Bn F u ((walClear st (lo ck lg g) lg).2.save 0 (2 * (ck : Int)) g t).2 v) \/ (k = 3 /\ (goR st ck lg g t).1 = 0 /\ GOk q Bn ck lg g t st F u v))
   (fun x v => x = (((goR st ck lg g t).1 : Nat) : Int) /\ (goR st ck lg g t).1 ≠ 0 /\ Bs8 q Bn F u (goR st ck lg g t).2 v) u (show (3 : Nat) <= 5000 by decide) ?_ ?_ ?_ ?_
 · refine key.mono ?_
   rintro e v ⟨x,rfl,⟨rfl,hr⟩ | ⟨hx,rfl,h0,hb⟩⟩
   · rcases hr with ⟨hk,_⟩ | ⟨hk,_⟩ | ⟨hk,_⟩ | ⟨_,h0,hg⟩
     · exact absurd (show (3 : Nat) = 0 from hk) (by decide)
     · exact absurd (show (3 : Nat) = 1 from hk) (by decide)
     · exact absurd (show (3 : Nat) = 2 from hk) (by decide)
     · exact ⟨by rw [h0]; rfl,Or.inl ⟨h0,hg⟩⟩
   · exact ⟨rfl,Or.inr ⟨h0,hb⟩⟩
 · intro k hk v hr
   rcases hr with ⟨rfl,hb⟩ | ⟨rfl,_,hb⟩ | ⟨rfl,_,_,hb⟩ | ⟨rfl,_⟩
   · exact (h.at hb).1 _ hk
   · exact (h.at hb).1 _ hk
   · exact (h.at hb).1 _ hk
   · exact absurd (show (3 : Nat) < 3 from hk) (by decide)
 · intro k hk
   match k,hk with
   | 0,_ => exact Or.inr (Or.inr (Or.inl ⟨_,_,rfl⟩))
   | 1,_ => exact Or.inr (Or.inr (Or.inr (Or.inl ⟨_,_,_,rfl⟩)))
   | 2,_ => exact Or.inr (Or.inr (Or.inr (Or.inr (Or.inr (Or.inr ⟨_,_,_,rfl⟩)))))
 · intro k hk v hr
   rcases hr with ⟨rfl,hb⟩ | ⟨rfl,x1,hb⟩ | ⟨rfl,x1,x2,hb⟩ | ⟨rfl,_⟩
   · obtain ⟨-,ha1, -, -, -⟩ := h.at hb
     obtain ⟨F1,hd,hlc,hnB,hrow⟩ := hb
     intro n a he
     cases he
     refine calls_eq (a := #[.pointer (some ⟨B1,0,none⟩),.pointer (some ⟨B2,0,none⟩)]) rfl (((clear1_any B1 B2 q (ck : Int) (lg : Int) (g : Int) ((lo ck lg g : Nat) : Int) v (fun e z => e = .returned (.int .i64 (((walClear st (lo ck lg g) lg).1 : Nat) : Int)) /\ Bs8 q Bn F u (walClear st (lo ck lg g) lg).2 z) ha1 ?_ ?_ ?_)).mono ?_)
     · rintro e z ⟨rfl,hz⟩
       exact ⟨_,rfl,(h.at hz).2.1⟩
     · exact fun v => logOf_any (some ⟨q,0,none⟩) ck lg g v hck hlg2
     · intro z hb
       refine (clear_any q (lo ck lg g) lg st F1 z (con.below hd hb) hok (by omega) (by omega) hlg1).mono ?_
       rintro e z2 ⟨rfl,F2,hd2,hl2⟩
       exact ⟨rfl,Bs8.step hlc hnB hrow hd2 ((Loc.of_below F1 hb).trans hl2)⟩
     · rintro e z ⟨rfl,hz⟩
       refine ⟨_,rfl,?_⟩
       by_cases h0 : (walClear st (lo ck lg g) lg).1 = 0
       · exact Or.inl ⟨by rw [h0]; rfl,Or.inr (Or.inl ⟨rfl,h0,hz⟩)⟩
       · have e : goR st ck lg g t = walClear st (lo ck lg g) lg := by unfold goR; rw [if_pos h0]
         rw [e]
         exact Or.inr ⟨by omega,rfl,h0,hz⟩
   · obtain ⟨-, -,ha2,h5, -⟩ := h.at hb
     obtain ⟨F1,hd,hlc,hnB,hrow⟩ := hb
     intro n a he
     cases he
     refine calls_eq (a := #[.pointer (some ⟨B3,0,none⟩),.pointer (some ⟨B4,0,none⟩),.pointer (some ⟨B5,0,none⟩)]) rfl (((save1_any B3 B4 B5 q (ck : Int) (lg : Int) (g : Int) (2 * (ck : Int)) t v (fun e z => e = .returned (.int .i64 ((((walClear st (lo ck lg g) lg).2.save 0 (2 * (ck : Int)) g t).1 : Nat) : Int)) /\ Bs8 q Bn F u ((walClear st (lo ck lg g) lg).2.save 0 (2 * (ck : Int)) g t).2 z) ha2 h5 ?_ ?_ ?_)).mono ?_)
     · rintro e z ⟨rfl,hz⟩
       exact ⟨_,rfl,(h.at hz).2.2.1,(h.at hz).2.2.2.1⟩
     · exact fun v => ckb_any (some ⟨q,0,none⟩) (ck : Int) (lg : Int) v (by omega)
     · intro z hb
       refine (pSave q 0 (2 * (ck : Int)) g t (walClear st (lo ck lg g) lg).2 F1 z (con.below hd hb) hokC (by omega) (by omega) (by omega)).mono ?_
       rintro e z2 ⟨rfl,F2,hd2,hl2⟩
       exact ⟨rfl,Bs8.step hlc hnB hrow hd2 ((Loc.of_below F1 hb).trans hl2)⟩
     · rintro e z ⟨rfl,hz⟩
       refine ⟨_,rfl,?_⟩
       by_cases h0 : ((walClear st (lo ck lg g) lg).2.save 0 (2 * (ck : Int)) g t).1 = 0
       · exact Or.inl ⟨by rw [h0]; rfl,Or.inr (Or.inr (Or.inl ⟨rfl,x1,h0,hz⟩))⟩
       · have e : goR st ck lg g t = (walClear st (lo ck lg g) lg).2.save 0 (2 * (ck : Int)) g t := by unfold goR; rw [if_neg (fun x => x x1),if_pos h0]
         rw [e]
         exact Or.inr ⟨by omega,rfl,h0,hz⟩
   · obtain ⟨-, -, -, -,hgb⟩ := h.at hb
     obtain ⟨F1,hd,hlc,hnB,x0,y0,hrow⟩ := hb
     have hlt := (Array.getElem?_eq_some_iff.1 hrow).1
     have e3 : goR st ck lg g t = ((walOpen ((walClear st (lo ck lg g) lg).2.save 0 (2 * (ck : Int)) g t).2 (lo ck lg g) lg).1.1,(walOpen ((walClear st (lo ck lg g) lg).2.save 0 (2 * (ck : Int)) g t).2 (lo ck lg g) lg).2) := by unfold goR; rw [if_neg (fun x => x x1),if_neg (fun x => x x2)]
     have hap : ¬ F1 Bs /\ ¬ F1 Bg /\ ¬ F1 p /\ ¬ F1 Bn := by
       have q1 : ∀ k,k < u.heap.size -> (k = b \/ k = B1 \/ k = B2 \/ k = B3 \/ k = B4 \/ k = B5 \/ k = Bs \/ k = Bg \/ k = p) -> ¬ F1 k := fun k hk hh hf => by
         rcases hlc.own k (Or.inl hf) with (h1 | h1) | h1
         · exact (h.apart k hh).1 h1
         · exact (h.apart k hh).2 h1
         · omega
       exact ⟨q1 _ h.gb.lt.1 (by simp),q1 _ h.gb.lt.2.1 (by simp),q1 _ h.gb.lt.2.2 (by simp),hnB⟩
     have hne : Bn ≠ Bs /\ Bn ≠ Bg /\ Bn ≠ p := ⟨fun e => (h.apart Bs (by simp)).2 e.symm,fun e => (h.apart Bg (by simp)).2 e.symm,fun e => (h.apart p (by simp)).2 e.symm⟩
     have hop : ∀ z,Below v.heap.size v z -> Calls Tryz.prog 85 #[.pointer (some ⟨q,0,none⟩),.int .i64 ((lo ck lg g : Nat) : Int),.int .i64 (lg : Int)] z (Opened q (lo ck lg g) lg (walOpen ((walClear st (lo ck lg g) lg).2.save 0 (2 * (ck : Int)) g t).2 (lo ck lg g) lg) F1 z) := fun z hz =>
       pOpen q (lo ck lg g) lg ((walClear st (lo ck lg g) lg).2.save 0 (2 * (ck : Int)) g t).2 F1 z (con.below hd hz) hokS (by omega) (by omega) hlg1 hn
     have hF1 := con.lt hd
     intro n a he
     cases he
     by_cases h0 : (walOpen ((walClear st (lo ck lg g) lg).2.save 0 (2 * (ck : Int)) g t).2 (lo ck lg g) lg).1.1 = 0
     · refine calls_eq (a := #[.pointer (some ⟨Bs,0,none⟩),.pointer (some ⟨Bg,0,none⟩),.pointer (some ⟨Bn,0,none⟩)]) rfl ((goOn1_ok p q (lo ck lg g) Bs Bg Bn (ck : Int) (lg : Int) (g : Int) g lg rfl (walOpen ((walClear st (lo ck lg g) lg).2.save 0 (2 * (ck : Int)) g t).2 (lo ck lg g) lg).1.2.1 (walOpen ((walClear st (lo ck lg g) lg).2.save 0 (2 * (ck : Int)) g t).2 (lo ck lg g) lg).1.2.2 (walOpen ((walClear st (lo ck lg g) lg).2.save 0 (2 * (ck : Int)) g t).2 (lo ck lg g) lg).2 F1 v x0 y0 hgb hrow hap hne ?_).mono ?_)
       · intro z hz
         refine aopen_ok q (lo ck lg g) g (ck : Int) lg _ _ _ F1 z (fun k hk => Nat.lt_of_lt_of_le (hF1 k hk) hz.size) (fun y => logOf_any (some ⟨q,0,none⟩) ck lg g y hck hlg2) (fun y hy => ?_)
         refine (hop y (bnext hz hy)).mono ?_
         rintro e z2 (⟨_,hh⟩ | ⟨hh,_⟩)
         · exact hh
         · exact absurd h0 hh
       · rintro e z2 ⟨rfl,pl,vR,F2,z,hz,rfl⟩
         obtain ⟨k1,k2,k3,k4,k5,k6,k7,k8⟩ := hz
         have hnB2 := own_new k5 hnB hlt
         refine ⟨0,rfl,Or.inl ⟨rfl,Or.inr (Or.inr (Or.inr ⟨rfl,by rw [e3]; exact h0,pl,F2,?_,?_,hnB2,?_,?_,?_,k6⟩))⟩⟩
         · rw [e3]; exact disk_set2 k4 hnB2 _ _
         · exact (((hlc.trans (k5.wide (X := fun k => k = Bn))).trans (Loc.setCell _ ⟨Bn,0,none⟩ _ (Or.inr rfl))).trans (Loc.setCell _ ⟨Bn,1,none⟩ _ (Or.inr rfl)))
         · exact row_set2 ((k5.block Bn hlt hnB).trans hrow) _ _
         · exact k1.same (set2_other z Bn _ _ pl (fun e => by omega))
         · have := hlc.size; omega
     · refine calls_eq (a := #[.pointer (some ⟨Bs,0,none⟩),.pointer (some ⟨Bg,0,none⟩),.pointer (some ⟨Bn,0,none⟩)]) rfl ((goOn1_no p q Bs Bg Bn (ck : Int) lg g (((walOpen ((walClear st (lo ck lg g) lg).2.save 0 (2 * (ck : Int)) g t).2 (lo ck lg g) lg).1.1 : Nat) : Int) (walOpen ((walClear st (lo ck lg g) lg).2.save 0 (2 * (ck : Int)) g t).2 (lo ck lg g) lg).2 F1 v x0 y0 hgb hrow hap hne ?_).mono ?_)
       · intro z hz
         refine aopen_no q (lo ck lg g) g (ck : Int) lg _ (by omega) _ F1 z (fun k hk => Nat.lt_of_lt_of_le (hF1 k hk) hz.size) (fun y => logOf_any (some ⟨q,0,none⟩) ck lg g y hck hlg2) (fun y hy => ?_)
         refine (hop y (bnext hz hy)).mono ?_
         rintro e z2 (⟨hh,_⟩ | ⟨_,hh⟩)
         · exact absurd hh h0
         · exact hh
       · rintro e z2 ⟨rfl,F2,z,⟨k4,k5⟩,rfl⟩
         have hnB2 := own_new k5 hnB hlt
         refine ⟨_,rfl,Or.inr ⟨by omega,?_⟩⟩
         rw [e3]
         exact ⟨rfl,h0,F2,disk_set2 k4 hnB2 _ _,(((hlc.trans (k5.wide (X := fun k => k = Bn))).trans (Loc.setCell _ ⟨Bn,0,none⟩ _ (Or.inr rfl))).trans (Loc.setCell _ ⟨Bn,1,none⟩ _ (Or.inr rfl))),hnB2,_,_,row_set2 ((k5.block Bn hlt hnB).trans hrow) _ _⟩
   · exact absurd (show (3 : Nat) < 3 from hk) (by decide)
 · exact Or.inl ⟨rfl,F,hD,Loc.refl _ _,h.nF,h.nx⟩
theorem Loc.unbox {F F' : Nat -> Prop} {w u v : World} {B : Nat} (hb : Below w.heap.size w u) (hB : w.heap.size <= B) (hl : Loc (fun k => F k \/ k = B) (fun k => F' k \/ k = B) u v) : Loc F F' w v :=
 ⟨hl.os.trans hb.os,hl.tape.trans hb.tape,hl.output.trans hb.output,Nat.le_trans hb.size hl.size,fun k hk hf => (hl.block k (Nat.lt_of_lt_of_le hk hb.size) (fun hh => hh.elim hf (fun e => by omega))).trans (hb.block k hk),fun k hk => by
   rcases hl.own k (Or.inl hk) with (h | h) | h
   · exact Or.inl h
   · exact Or.inr (by omega)
   · have := hb.size; exact Or.inr (by omega)⟩
structure GK (w : World) (p q : Nat) (ck lg g : Int) (z : World) : Prop where
 below : Below w.heap.size w z
 gb : GBx p q w.heap.size (w.heap.size + 1) ck lg g z
 row : z.heap[w.heap.size + 2]? = some (.cells #[.nilIface,.int .u64 0] 100 (0,0))
theorem GK.keep {w : World} {p q : Nat} {ck lg g : Int} {z v : World} (h : GK w p q ck lg g z) (hb : Below z.heap.size z v) : GK w p q ck lg g v := ⟨bnext h.below hb,h.gb.below hb,(hb.block _ (Array.getElem?_eq_some_iff.1 h.row).1).trans h.row⟩
theorem GK.start (w : World) (p q : Nat) (ck lg g : Int) (h2 : w.cell? ⟨p,2,none⟩ = some (.pointer (some ⟨q,0,none⟩))) (h3 : w.cell? ⟨p,3,none⟩ = some (.int .i64 ck)) (h4 : w.cell? ⟨p,4,none⟩ = some (.int .i64 lg)) :
   GK w p q ck lg g (((w.alloc (.cells #[.pointer (some ⟨p,0,none⟩)] 36)).alloc (.cells #[.int .u64 g] 50)).alloc (.cells #[.nilIface,.int .u64 0] 100)) := by
 have hb := grow3 w (.cells #[.pointer (some ⟨p,0,none⟩)] 36) (.cells #[.int .u64 g] 50) (.cells #[.nilIface,.int .u64 0] 100)
 have s1 : (w.alloc (.cells #[.pointer (some ⟨p,0,none⟩)] 36)).heap.size = w.heap.size + 1 := by simp
 have s2 : ((w.alloc (.cells #[.pointer (some ⟨p,0,none⟩)] 36)).alloc (.cells #[.int .u64 g] 50)).heap.size = w.heap.size + 2 := by simp
 refine ⟨hb,⟨?_,?_,cellB9 hb h2,cellB9 hb h3,cellB9 hb h4⟩,?_⟩
 · exact cellB9 (grow2 (w.alloc (.cells #[.pointer (some ⟨p,0,none⟩)] 36)) _ _) ((cell_of_row _ _ 0 _ _ _ (heap_alloc_last w _)).trans rfl)
 · refine cellB9 (grow1 ((w.alloc (.cells #[.pointer (some ⟨p,0,none⟩)] 36)).alloc (.cells #[.int .u64 g] 50)) _) ?_
   have := heap_alloc_last (w.alloc (.cells #[.pointer (some ⟨p,0,none⟩)] 36)) (.cells #[.int .u64 g] 50)
   rw [s1] at this
   exact (cell_of_row _ _ 0 _ _ _ this).trans rfl
 · have := heap_alloc_last ((w.alloc (.cells #[.pointer (some ⟨p,0,none⟩)] 36)).alloc (.cells #[.int .u64 g] 50)) (.cells #[.nilIface,.int .u64 0] 100)
   rw [s2] at this
   exact this
def GA (w : World) (q : Nat) (ck lg g : Int) (B1 B2 : Nat) (z : World) : Prop := ABox B1 B2 q ck lg g z /\ w.heap.size + 3 <= B1 /\ w.heap.size + 3 <= B2
def GT (w : World) (t : ByteArray) (B : Nat) (z : World) : Prop := z.cell? ⟨B,0,none⟩ = some (.string t) /\ w.heap.size + 3 <= B
theorem GA.keep {w : World} {q : Nat} {ck lg g : Int} {B1 B2 : Nat} {z v : World} (h : GA w q ck lg g B1 B2 z) (hb : Below z.heap.size z v) : GA w q ck lg g B1 B2 v := ⟨h.1.below hb,h.2⟩
theorem GA.new {w z : World} {q : Nat} {ck lg g : Int} (hz : w.heap.size + 3 <= z.heap.size) : GA w q ck lg g z.heap.size (z.heap.size + 1) ((z.alloc (.cells #[.pointer (some ⟨q,0,none⟩),.int .i64 ck,.int .i64 lg] 102)).alloc (.cells #[.int .u64 g] 50)) := by
 obtain ⟨c0,c1,c2⟩ := area_cells z (some ⟨q,0,none⟩) ck lg _ (one_below (z.alloc (.cells #[.pointer (some ⟨q,0,none⟩),.int .i64 ck,.int .i64 lg] 102)) (.cells #[.int .u64 g] 50))
 refine ⟨⟨c0,c1,c2,?_⟩,hz,by omega⟩
 have := heap_alloc_last (z.alloc (.cells #[.pointer (some ⟨q,0,none⟩),.int .i64 ck,.int .i64 lg] 102)) (.cells #[.int .u64 g] 50)
 rw [show (z.alloc (.cells #[.pointer (some ⟨q,0,none⟩),.int .i64 ck,.int .i64 lg] 102)).heap.size = z.heap.size + 1 from by simp] at this
 exact (cell_of_row _ _ 0 _ _ _ this).trans rfl
theorem GT.new {w z : World} {pd : Option Addr} {ck lg g : Int} {t : ByteArray} (hz : w.heap.size + 3 <= z.heap.size) : GT w t (z.heap.size + 1 + 1) (((z.alloc (.cells #[.pointer pd,.int .i64 ck,.int .i64 lg] 102)).alloc (.cells #[.int .u64 g] 50)).alloc (.cells #[.string t] 9)) := by
 refine ⟨?_,by omega⟩
 have := heap_alloc_last ((z.alloc (.cells #[.pointer pd,.int .i64 ck,.int .i64 lg] 102)).alloc (.cells #[.int .u64 g] 50)) (.cells #[.string t] 9)
 rw [show ((z.alloc (.cells #[.pointer pd,.int .i64 ck,.int .i64 lg] 102)).alloc (.cells #[.int .u64 g] 50)).heap.size = z.heap.size + 1 + 1 from by simp] at this
 exact (cell_of_row _ _ 0 _ _ _ this).trans rfl
theorem GT.keep {w : World} {t : ByteArray} {B : Nat} {z v : World} (h : GT w t B z) (hb : Below z.heap.size z v) : GT w t B v := ⟨cellB9 hb h.1,h.2⟩
theorem GK.size {w : World} {p q : Nat} {ck lg g : Int} {z : World} (h : GK w p q ck lg g z) : w.heap.size + 3 <= z.heap.size := (Array.getElem?_eq_some_iff.1 h.row).1
theorem GK.inp {w z : World} {p q B1 B2 B3 B4 B5 ck lg g : Nat} {t : ByteArray} {F : Nat -> Prop} (h : GK w p q (ck : Int) (lg : Int) (g : Int) z) (h1 : GA w q (ck : Int) (lg : Int) (g : Int) B1 B2 z) (h2 : GA w q (ck : Int) (lg : Int) (g : Int) B3 B4 z) (h3 : GT w t B5 z)
   (hF : ∀ k,F k -> k < w.heap.size) (hp : p < w.heap.size) (hFp : ¬ F p) (T : TypeId) : GIn p q z.heap.size B1 B2 B3 B4 B5 w.heap.size (w.heap.size + 1) (w.heap.size + 2) ck lg g t F
     (z.alloc (.cells #[Value.func (.func 76) #[] #[.pointer (some ⟨B1,0,none⟩),.pointer (some ⟨B2,0,none⟩)],.func (.func 79) #[] #[.pointer (some ⟨B3,0,none⟩),.pointer (some ⟨B4,0,none⟩),.pointer (some ⟨B5,0,none⟩)],.func (.func 88) #[] #[.pointer (some ⟨w.heap.size,0,none⟩),.pointer (some ⟨w.heap.size + 1,0,none⟩),.pointer (some ⟨w.heap.size + 2,0,none⟩)]] T)) := by
 have hb := one_below z (.cells #[Value.func (.func 76) #[] #[.pointer (some ⟨B1,0,none⟩),.pointer (some ⟨B2,0,none⟩)],.func (.func 79) #[] #[.pointer (some ⟨B3,0,none⟩),.pointer (some ⟨B4,0,none⟩),.pointer (some ⟨B5,0,none⟩)],.func (.func 88) #[] #[.pointer (some ⟨w.heap.size,0,none⟩),.pointer (some ⟨w.heap.size + 1,0,none⟩),.pointer (some ⟨w.heap.size + 2,0,none⟩)]] T)
 have hz := h.size
 refine ⟨fun k hk => ?_,h1.1.below hb,h2.1.below hb,cellB9 hb h3.1,h.gb.below hb,⟨_,_,(hb.block _ (Array.getElem?_eq_some_iff.1 h.row).1).trans h.row⟩,fun k hk => ?_,fun hf => by have := hF _ hf; omega⟩
 · match k,hk with
   | 0,_ => exact (cell_of_row _ _ 0 _ _ _ (heap_alloc_last z _)).trans rfl
   | 1,_ => exact (cell_of_row _ _ 1 _ _ _ (heap_alloc_last z _)).trans rfl
   | 2,_ => exact (cell_of_row _ _ 2 _ _ _ (heap_alloc_last z _)).trans rfl
 · have q1 := h1.2
   have q2 := h2.2
   have q3 := h3.2
   rcases hk with e | e | e | e | e | e | e | e | e
   all_goals
     subst e
     exact ⟨fun hf => by first | exact hFp hf | (have := hF _ hf; omega),by omega⟩
theorem GOk.bs {q Bn ck lg g : Nat} {t : ByteArray} {st : St} {F : Nat -> Prop} {u v : World} (h : GOk q Bn ck lg g t st F u v) : Bs8 q Bn F u (goR st ck lg g t).2 v := by
 obtain ⟨pl,F',h1,h2,h3,h4,_⟩ := h
 exact ⟨F',h1,h2,h3,_,_,h4⟩
def PGo (p q ck lg g : Nat) (t : ByteArray) (st : St) (F : Nat -> Prop) (w : World) (e : Ending) (v : World) : Prop :=
 e = .returned (.int .i64 (((goR st ck lg g t).1 : Nat) : Int)) /\
   (((goR st ck lg g t).1 = 0 /\ ∃ pl F',StAt v p pl q ck lg g false /\ LAt v pl q (lo ck lg g) lg (goS st ck lg g t) false /\ DAt v q (goR st ck lg g t).2 F' /\ Loc (fun k => F k \/ k = p) (fun k => F' k \/ k = p) w v /\ ¬ F' p /\ ¬ F' pl /\ w.heap.size <= pl) \/
    ((goR st ck lg g t).1 ≠ 0 /\ ∃ F',DAt v q (goR st ck lg g t).2 F' /\ Loc F F' w v))
theorem GOk.fin {q ck lg g p pl g0 : Nat} {t : ByteArray} {st : St} {F : Nat -> Prop} {w u v : World} (h : GOk q (w.heap.size + 2) ck lg g t st F u v) (hb : Below w.heap.size w u) (hs : StAt w p pl q ck lg g0 false) (hp : ¬ F p) :
   ∃ (pl2 : Nat),v.cell? ⟨w.heap.size + 1 + 1,0,none⟩ = some (.iface 143 (.pointer (some ⟨pl2,0,none⟩))) /\ v.cell? ⟨w.heap.size + 1 + 1,1,none⟩ = some (.int .u64 (g : Int)) /\ v.cell? ⟨p,0,none⟩ = some (.iface 143 (.pointer (some ⟨pl,0,none⟩))) /\ v.cell? ⟨p,1,none⟩ = some (.int .u64 (g0 : Int)) /\ v.frozen? ⟨p,0,none⟩ = false /\ v.frozen? ⟨p,1,none⟩ = false /\
     ((goR st ck lg g t).1 = 0 -> PGo p q ck lg g t st F w (.returned (.int .i64 (((goR st ck lg g t).1 : Nat) : Int))) ((v.setCell ⟨p,0,none⟩ (.iface 143 (.pointer (some ⟨pl2,0,none⟩)))).setCell ⟨p,1,none⟩ (.int .u64 (g : Int)))) := by
 obtain ⟨pl2,F',d1,d2,d3,d4,d5,d6,d7⟩ := h
 have hlt := hs.lt
 have hbs := hb.size
 have hsame : v.heap[p]? = w.heap[p]? := (d2.block p (by omega) (fun hh => hh.elim hp (fun e => by omega))).trans (hb.block p hlt)
 have hs3 : StAt v p pl q ck lg g0 false := hs.same hsame
 obtain ⟨c0,c1, -, -, -, -⟩ := hs3.c
 obtain ⟨r0,r1, -, -⟩ := row_cells2 d4
 have hl := d2.unbox hb (B := w.heap.size + 2) (by omega)
 have hp' := own_new hl hp hlt
 refine ⟨pl2,r0,r1,c0,c1,hs3.free 0,hs3.free 1,fun h0 => ⟨rfl,Or.inl ⟨h0,pl2,F',?_,d5.same (set2_other v p _ _ pl2 (by omega)),disk_set2 d1 hp' _ _,?_,hp',d7,by omega⟩⟩⟩
 · exact heap_set3 (i := 1) (heap_set3 (i := 0) hs3 _) _
 · exact (((hl.wide (X := fun k => k = p)).trans (Loc.setCell _ ⟨p,0,none⟩ _ (Or.inr rfl))).trans (Loc.setCell _ ⟨p,1,none⟩ _ (Or.inr rfl)))
set_option maxRecDepth 10000 in
set_option maxHeartbeats 2000000 in
theorem goOn_any (p pl q ck lg g0 g : Nat) (t : ByteArray) (st : St) (F : Nat -> Prop) (w : World) (hs : StAt w p pl q ck lg g0 false) (hD : DAt w q st F) (hp : ¬ F p) (hok : st.Ok)
   (hl : st.loose.length + 3000 <= 8000) (hc : Conf ck lg st.sure.length) (hn : lg <= 200) (ht : t.size <= 65536) :
   Calls Tryz.prog 57 #[.pointer (some ⟨p,0,none⟩),.int .u64 (g : Int),.string t] w (PGo p q ck lg g t st F w) := by
 obtain ⟨-, -,c2,c3,c4, -⟩ := hs.c
 have hF := con.lt hD
 have HF := hide hF
 have HS := hide hs
 have HP := hide hp
 have HPl : Hid (p < w.heap.size) := hs.lt
 have HG : Hid (∀ z B1 B2 B3 B4 B5 c T,GK w p q (ck : Int) (lg : Int) (g : Int) z -> GA w q (ck : Int) (lg : Int) (g : Int) B1 B2 z -> GA w q (ck : Int) (lg : Int) (g : Int) B3 B4 z -> GT w t B5 z ->
     Calls Tryz.prog 41 #[.slice (some ⟨z.heap.size,0,none⟩) 3 c] (z.alloc (.cells #[Value.func (.func 76) #[] #[.pointer (some ⟨B1,0,none⟩),.pointer (some ⟨B2,0,none⟩)],.func (.func 79) #[] #[.pointer (some ⟨B3,0,none⟩),.pointer (some ⟨B4,0,none⟩),.pointer (some ⟨B5,0,none⟩)],.func (.func 88) #[] #[.pointer (some ⟨w.heap.size,0,none⟩),.pointer (some ⟨w.heap.size + 1,0,none⟩),.pointer (some ⟨w.heap.size + 2,0,none⟩)]] T)) fun e v =>
       e = .returned (.int .i64 (((goR st ck lg g t).1 : Nat) : Int)) /\ GBx p q w.heap.size (w.heap.size + 1) (ck : Int) (lg : Int) (g : Int) v /\ ∃ u,Below w.heap.size w u /\ (((goR st ck lg g t).1 = 0 /\ GOk q (w.heap.size + 2) ck lg g t st F u v) \/ ((goR st ck lg g t).1 ≠ 0 /\ Bs8 q (w.heap.size + 2) F u (goR st ck lg g t).2 v))) := fun z B1 B2 B3 B4 B5 c T k1 k2 k3 k4 => by
   have hi := k1.inp k2 k3 k4 (F := F) hF hs.lt hp T
   refine (goSteps p q z.heap.size B1 B2 B3 B4 B5 w.heap.size (w.heap.size + 1) (w.heap.size + 2) ck lg g t st F _ c hi (con.below hD (bnext k1.below (one_below z _))) hok hl hc hn ht).mono ?_
   rintro e v ⟨rfl,h⟩
   have hb : Bs8 q (w.heap.size + 2) F _ (goR st ck lg g t).2 v := h.elim (fun x => x.2.bs) (fun x => x.2)
   exact ⟨rfl,(hi.at hb).2.2.2.2,_,bnext k1.below (one_below z _),h⟩
 have K := (GK.start w p q (ck : Int) (lg : Int) (g : Int) c2 c3 c4).keep ((Below.refl _ _).drew)
 have HK1 : Hid (∀ z,GK w p q (ck : Int) (lg : Int) (g : Int) z -> Calls Tryz.prog 44 #[areaV (some ⟨q,0,none⟩) (ck : Int) (lg : Int),.int .u64 (g : Int)] z fun e v => e = .returned (.func (.func 76) #[] #[.pointer (some ⟨z.heap.size,0,none⟩),.pointer (some ⟨z.heap.size + 1,0,none⟩)]) /\ GK w p q (ck : Int) (lg : Int) (g : Int) v /\ GA w q (ck : Int) (lg : Int) (g : Int) z.heap.size (z.heap.size + 1) v) := fun z hK => by
   refine (clearing_any (some ⟨q,0,none⟩) (ck : Int) (lg : Int) (g : Int) z).mono ?_
   rintro e v ⟨rfl,rfl⟩
   exact ⟨rfl,hK.keep (grow2 z _ _),GA.new hK.size⟩
 have HK2 : Hid (∀ z B1 B2,GK w p q (ck : Int) (lg : Int) (g : Int) z -> GA w q (ck : Int) (lg : Int) (g : Int) B1 B2 z -> Calls Tryz.prog 45 #[areaV (some ⟨q,0,none⟩) (ck : Int) (lg : Int),.int .u64 (g : Int),.string t] z fun e v => e = .returned (.func (.func 79) #[] #[.pointer (some ⟨z.heap.size,0,none⟩),.pointer (some ⟨z.heap.size + 1,0,none⟩),.pointer (some ⟨z.heap.size + 1 + 1,0,none⟩)]) /\ GK w p q (ck : Int) (lg : Int) (g : Int) v /\ GA w q (ck : Int) (lg : Int) (g : Int) B1 B2 v /\ GA w q (ck : Int) (lg : Int) (g : Int) z.heap.size (z.heap.size + 1) v /\ GT w t (z.heap.size + 1 + 1) v) := fun z B1 B2 hK hA => by
   refine (saving_any (some ⟨q,0,none⟩) (ck : Int) (lg : Int) (g : Int) t z).mono ?_
   rintro e v ⟨rfl,rfl⟩
   exact ⟨rfl,hK.keep (grow3 z _ _ _),hA.keep (grow3 z _ _ _),(GA.new hK.size).keep (grow1 _ _),GT.new hK.size⟩
 unfold areaV at HK1 HK2
 clear hs hD hp hok hl hc hn ht hF c2 c3 c4
 go_enter Tryz.func57,Tryz.ntmps57
 go_wp2_with fail
 generalize ((w.alloc (.cells #[.pointer (some ⟨p,0,none⟩)] 36)).alloc (.cells #[.int .u64 (g : Int)] 50)).alloc (.cells #[.nilIface,.int .u64 0] 100) = W at *
 go_region_held3 (fun z => z.cell? ⟨w.heap.size,0,none⟩ = some (.pointer (some ⟨p,0,none⟩)) /\ z.cell? ⟨w.heap.size + 1,0,none⟩ = some (.int .u64 (g : Int)) /\ z.cell? ⟨p,2,none⟩ = some (.pointer (some ⟨q,0,none⟩)) /\ z.cell? ⟨p,3,none⟩ = some (.int .i64 (ck : Int)) /\ z.cell? ⟨p,4,none⟩ = some (.int .i64 (lg : Int)))
   ((first | (with_reducible exact K.gb.all) | (with_reducible exact K.1.gb.all) | (with_reducible exact (K.1.keep (one_below _ _)).gb.all) | (with_reducible exact K.1.all)))
   (first
     | (go_at_call 44; refine (HK1.out _ K).mono ?_; rintro e z1 ⟨rfl,hk1⟩; have K := hk1)
     | (go_at_call 45; refine (HK2.out _ _ _ K.1 K.2).mono ?_; rintro e z2 ⟨rfl,hk2⟩; have K := hk2)
     | (go_at_call 41; refine (HG.out _ _ _ _ _ _ _ _ K.1 K.2.1 K.2.2.1 K.2.2.2).mono ?_; rintro e z3 ⟨rfl,hgb,hpo⟩; have K := And.intro hgb hpo))
 all_goals
   obtain ⟨-,u,hbu,hpo⟩ := K
   have HBu := hide hbu
   rcases hpo with ⟨h0,hg⟩ | ⟨h0,hb⟩
   · obtain ⟨pl2,r0,r1,c0,c1,f0,f1,hfin⟩ := hg.fin HBu.out HS.out HP.out
     have HFin := hide (hfin h0)
     have e0 : (((goR st ck lg g t).1 : Nat) : Int) = 0 := by rw [h0]; rfl
     clear hfin h0 hg hbu hgb hk1 hk2
     go_wp2
     go_ret
     exact HFin.out
   · have HFin : Hid (PGo p q ck lg g t st F w (.returned (.int .i64 (((goR st ck lg g t).1 : Nat) : Int))) z3) := by
       obtain ⟨F',d1,d2,_⟩ := hb
       exact ⟨rfl,Or.inr ⟨h0,F',d1,d2.unbox HBu.out (by omega)⟩⟩
     have e0 : ¬ (((goR st ck lg g t).1 : Nat) : Int) = 0 := by omega
     clear h0 hb hbu hgb hk1 hk2
     go_wp2
     go_ret
     exact HFin.out
end Go.Proofs.YtchhojkhfdkhfaaGreatDoor
