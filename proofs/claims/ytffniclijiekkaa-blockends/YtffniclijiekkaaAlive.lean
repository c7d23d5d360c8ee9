/- That the known answers are answered, over the contracts; the law BlockNil. -/
import Derived.Test.YtffniclijiekkaaCon
namespace Go.Proofs.Ytffniclijiekkaa
open Go Go.RowKit

/-- The disk behind the known calls. -/
def al1 : St := ((St.new 2).write 0 (fullT 97)).2
def al2 : St := al1.crash [3]
def al3 : St := al2.fuse 1
def al4 : St := (al3.write 1 (fullT 98)).2
theorem al0_ok : (St.new 2).Ok := St.Ok.new (by decide) (by decide)
theorem new_write : (St.new 2).write 0 (fullT 97) = (0, ⟨[zblock, zblock], [(0, fullT 97)], -1⟩) := by
  unfold St.write
  rw [if_neg (by decide), if_neg (fun h => h ⟨by decide, by decide⟩), if_neg (fun h => h (fullT_size 97))]
  rfl
theorem al1_is : al1 = ⟨[zblock, zblock], [(0, fullT 97)], -1⟩ := by unfold al1; rw [new_write]
theorem al1_ok : al1.Ok := al0_ok.write 0 _
theorem al2_is : al2 = ⟨[torn zblock (fullT 97) 3, zblock], [], -1⟩ := by unfold al2; rw [al1_is]; rfl
theorem al2_ok : al2.Ok := al1_ok.crash _
theorem al2_read : al2.read 0 = (torn zblock (fullT 97) 3, 0) := by rw [al2_is]; rfl
theorem al3_is : al3 = ⟨[torn zblock (fullT 97) 3, zblock], [], 1⟩ := by unfold al3; rw [al2_is]; rfl
theorem al3_ok : al3.Ok := al2_ok.fuse 1 (by decide)
theorem al3_write : al3.write 1 (fullT 98) = (0, ⟨[torn zblock (fullT 97) 3, zblock], [(1, fullT 98)], 0⟩) := by
  rw [al3_is]
  unfold St.write
  rw [if_neg (by decide), if_neg (fun h => h ⟨by decide, by decide⟩), if_neg (fun h => h (fullT_size 98))]
  rfl
theorem al4_is : al4 = ⟨[torn zblock (fullT 97) 3, zblock], [(1, fullT 98)], 0⟩ := by unfold al4; rw [al3_write]
theorem al4_ok : al4.Ok := al3_ok.write 1 _
theorem al4_write : al4.write 1 (fullT 99) = (50, al4) := by rw [al4_is]; unfold St.write; rw [if_pos rfl]
theorem al_head : (torn zblock (fullT 97) 3).extract 0 4 = ⟨#[97, 97, 97, 0]⟩ := by decide +kernel
theorem al_size : (torn zblock (fullT 97) 3).size = 256 := torn_size _ _ _ zblock_size (fullT_size 97)
theorem apart_new {F : Nat → Prop} {b o n : Nat} {l : List Int} (hF : ∀ k, F k → k < n) (h : n ≤ b) : Apart (some ⟨b, o, none⟩) l F := fun _ b' o' e hf => by
  cases e
  have := hF b hf
  omega
theorem ints_one (u : World) (x : Int) (t : TypeId) : IntsAt (u.alloc (.cells #[.int .i64 x] t)) (some ⟨u.heap.size, 0, none⟩) [x] := by
  refine Or.inr ⟨u.heap.size, 0, rfl, fun j hj => ?_⟩
  have hj0 : j = 0 := by simpa using hj
  subst hj0
  have hb := heap_alloc_last u (.cells #[.int .i64 x] t)
  rw [cell_of_row _ _ _ _ _ _ hb]
  rfl
set_option maxRecDepth 10000 in
set_option maxHeartbeats 2000000 in
theorem alive_any {DAt : World → Nat → St → (Nat → Prop) → Prop} (C : Con DAt) (w : World) : Calls Try.prog 8 #[] w fun e w' => e = .returned (.bool true) ∧ Below w.heap.size w w' := by
  have HC := hide C
  have HH := hide al_head
  have hts := al_size
  have KN := hide (C.new 2 w (by decide) (by decide))
  clear C
  go_enter Try.func8, Try.ntmps8
  go_wp2_with fail
  refine KN.out.mono ?_
  rintro e w1 ⟨p, F, rfl, h1, hF, hb⟩
  have H1 := hide h1
  have HF := hide hF
  have HB1 := hide hb
  clear h1 hF hb
  go_wp2_with fail
  refine (full_any 97 _ (by decide)).mono ?_
  rintro e w2 ⟨rfl, hb⟩
  have H2 := hide (HC.out.below H1.out hb)
  have HB2 := hide (bnext HB1.out hb)
  clear hb H1 HB1
  go_wp2_with fail
  refine (HC.out.write p (St.new 2) F 0 (fullT 97) w2 H2.out al0_ok (by decide) (by decide) (by rw [fullT_size]; decide)).mono ?_
  rintro e w3 ⟨rfl, F1, h3, l3⟩
  have h3' : DAt w3 p al1 F1 := h3
  have H3 := hide h3'
  have HF1 := hide (l3.beyond HF.out HB2.out.size)
  have HB3 := hide (HB2.out.trans (l3.below HF.out HB2.out.size))
  rw [new_write]
  clear h3 h3' l3 H2 HB2 HF
  go_wp2_with fail
  have ha3 := (Below.refl w3.heap.size w3).alloc (Nat.le_refl _) (.cells #[.int .i64 3] 3)
  have HI := hide (ints_one w3 3 3)
  have HAp := hide (apart_new (l := [3]) (o := 0) (HC.out.lt H3.out) (Nat.le_refl w3.heap.size))
  have H3a := hide (HC.out.below H3.out ha3)
  have HB3a := hide (bnext HB3.out ha3)
  clear ha3 H3 HB3
  generalize w3.alloc (.cells #[.int .i64 3] 3) = w3a at *
  refine (HC.out.crash p al1 F1 (some ⟨w3.heap.size, 0, none⟩) 1 [3] w3a H3a.out al1_ok (by rw [al1_is]; decide) HI.out HAp.out (by decide) (by decide)).mono ?_
  rintro e w4 ⟨rfl, F2, h4, l4⟩
  have H4 : Hid (DAt w4 p al2 F2) := h4
  have HF2 := hide (l4.beyond HF1.out HB3a.out.size)
  have HB4 := hide (HB3a.out.trans (l4.below HF1.out HB3a.out.size))
  clear h4 l4 H3a HB3a HF1 HI HAp
  go_wp2_with fail
  refine (HC.out.read p al2 F2 0 w4 H4.out al2_ok (by rw [al2_is]; decide) (by decide)).mono ?_
  rw [al2_read]
  rintro e w5 ⟨rfl, hb⟩
  have H5 := hide (HC.out.below H4.out hb)
  have HB5 := hide (bnext HB4.out hb)
  clear hb H4 HB4
  generalize hT : torn zblock (fullT 97) 3 = T at *
  clear hT
  go_wp2_with fail
  refine (HC.out.fuse p al2 F2 1 w5 H5.out al2_ok (by decide)).mono ?_
  rintro e w6 ⟨rfl, F3, h6, l6⟩
  have H6 : Hid (DAt w6 p al3 F3) := h6
  have HF3 := hide (l6.beyond HF2.out HB5.out.size)
  have HB6 := hide (HB5.out.trans (l6.below HF2.out HB5.out.size))
  clear h6 l6 H5 HB5 HF2
  go_wp2_with fail
  refine (full_any 98 _ (by decide)).mono ?_
  rintro e w7 ⟨rfl, hb⟩
  have H7 := hide (HC.out.below H6.out hb)
  have HB7 := hide (bnext HB6.out hb)
  clear hb H6 HB6
  go_wp2_with fail
  refine (HC.out.write p al3 F3 1 (fullT 98) w7 H7.out al3_ok (by rw [al3_is]; decide) (by decide) (by rw [fullT_size]; decide)).mono ?_
  rintro e w8 ⟨rfl, F4, h8, l8⟩
  have H8 : Hid (DAt w8 p al4 F4) := h8
  have HF4 := hide (l8.beyond HF3.out HB7.out.size)
  have HB8 := hide (HB7.out.trans (l8.below HF3.out HB7.out.size))
  rw [al3_write]
  clear h8 l8 H7 HB7 HF3
  go_wp2_with fail
  refine (full_any 99 _ (by decide)).mono ?_
  rintro e w9 ⟨rfl, hb⟩
  have H9 := hide (HC.out.below H8.out hb)
  have HB9 := hide (bnext HB8.out hb)
  clear hb H8 HB8
  go_wp2_with fail
  refine (HC.out.write p al4 F4 1 (fullT 99) w9 H9.out al4_ok (by rw [al4_is]; decide) (by decide) (by rw [fullT_size]; decide)).mono ?_
  rintro e w10 ⟨rfl, F5, h10, l10⟩
  rw [al4_write] at h10
  have H10 : Hid (DAt w10 p al4 F5) := h10
  have HB10 := hide (HB9.out.trans (l10.below HF4.out HB9.out.size))
  rw [al4_write]
  clear h10 l10 H9 HB9 HF4
  have hh := HH.out
  have KS := hide (HC.out.size p al4 F5 w10 H10.out al4_ok)
  rw [show (al4.sure.length : Int) = 2 from by rw [al4_is]; rfl] at KS
  go_wp2_with fail
  refine KS.out.mono ?_
  rintro e w11 ⟨rfl, hb⟩
  have H11 := hide (HC.out.below H10.out hb)
  have HB11 := hide (bnext HB10.out hb)
  clear hb H10 HB10
  have KL := hide (HC.out.loose p al4 F5 w11 H11.out al4_ok (by rw [al4_is]; decide))
  rw [show al4.loose.length = 1 from by rw [al4_is]; rfl] at KL
  go_wp2_with fail
  refine KL.out.mono ?_
  rintro e w12 ⟨a, c, rfl, _, hb⟩
  have HB12 := hide (bnext HB11.out hb)
  clear hb HB11
  go_wp2
  go_ret
  exact ⟨rfl, HB12.out⟩
set_option maxRecDepth 10000 in
set_option maxHeartbeats 2000000 in
theorem BlockNil_any {DAt : World → Nat → St → (Nat → Prop) → Prop} (C : Con DAt) (b : Int) (s : ByteArray) (w : World) (hs : s.size ≤ 140737488351232) :
    Calls Try.prog 5 #[.int .i64 b, .string s] w fun e w' => e = .returned (.bool true) ∧ Below w.heap.size w w' := by
  have HC := hide C
  clear C
  by_cases hl : 4096 < s.size
  · have hz : (4096 : Int) < (s.size : Int) := by omega
    go_enter Try.func5, Try.ntmps5
    go_wp2_with fail
    refine (alive_any HC.out _).mono ?_
    rintro e w1 ⟨rfl, hb⟩
    have HB := hide hb
    clear hb
    go_wp2
    go_ret
    exact ⟨rfl, HB.out⟩
  · have hz : ¬ ((4096 : Int) < (s.size : Int)) := by omega
    go_enter Try.func5, Try.ntmps5
    go_wp2_with fail
    refine (HC.out.nread b _).mono ?_
    rintro e w1 ⟨rfl, hb⟩
    have HB1 := hide hb
    clear hb
    go_wp2_with fail
    refine (HC.out.nwrite b s _).mono ?_
    rintro e w2 ⟨rfl, hb⟩
    have HB2 := hide (bnext HB1.out hb)
    clear hb HB1
    go_wp2_with fail
    refine (HC.out.nsync _).mono ?_
    rintro e w3 ⟨rfl, hb⟩
    have HB3 := hide (bnext HB2.out hb)
    clear hb HB2
    go_wp2_with fail
    refine (HC.out.nfuse b _).mono ?_
    rintro e w4 ⟨rfl, hb⟩
    have HB4 := hide (bnext HB3.out hb)
    clear hb HB3
    go_wp2_with fail
    refine (HC.out.ncrash _).mono ?_
    rintro e w5 ⟨rfl, hb⟩
    have HB5 := hide (bnext HB4.out hb)
    clear hb HB4
    go_wp2_with fail
    refine (HC.out.nsize _).mono ?_
    rintro e w6 ⟨rfl, hb⟩
    have HB6 := hide (bnext HB5.out hb)
    clear hb HB5
    go_wp2_with fail
    refine (HC.out.nloose _).mono ?_
    rintro e w7 ⟨a, c, rfl, hb⟩
    have HB7 := hide (bnext HB6.out hb)
    clear hb HB6
    go_wp2_with fail
    refine (HC.out.nsure _).mono ?_
    rintro e w8 ⟨rfl, hb⟩
    have HB8 := hide (bnext HB7.out hb)
    clear hb HB7
    go_wp2_with fail
    refine (alive_any HC.out _).mono ?_
    rintro e w9 ⟨rfl, hb⟩
    have HB9 := hide (bnext HB8.out hb)
    clear hb HB8
    go_wp2
    go_ret
    exact ⟨rfl, HB9.out⟩
end Go.Proofs.Ytffniclijiekkaa
