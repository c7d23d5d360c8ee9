/- What greater, lesser, widen and narrow do: walks over the smallest functions' contracts. -/
import Derived.Test.YtklekpbfjcpjlaaLeaf
import Derived.StillTactics
import Derived.Laws.Pointers
import Derived.Deep.RegionHeld3
import Derived.Deep.DrawnRows
namespace Go.Proofs.Ytklekpbfjcpjlaa
open Go.RowKit
attribute [local go_sem ↓] Go.wp_at_zero Go.wp_at_succ

theorem bcell {W w1 : World} (hb : Below W.heap.size W w1) : (∀ b o, b < W.heap.size → w1.cell? ⟨b, o, none⟩ = W.cell? ⟨b, o, none⟩) ∧ (∀ b o, b < W.heap.size → w1.frozen? ⟨b, o, none⟩ = W.frozen? ⟨b, o, none⟩) :=
  ⟨fun b o h => hb.cell (p := ⟨b, o, none⟩) h, fun b o h => hb.frozen (p := ⟨b, o, none⟩) h⟩

theorem hide {p : Prop} (h : p) : Hid p := h

theorem below1 {w w2 : World} {o1 : Obj} (h : Below (w.alloc o1).heap.size (w.alloc o1) w2) : Below w.heap.size w w2 :=
  ((Below.refl _ _).alloc (Nat.le_refl _) _).trans (h.mono (by simp))
theorem below2 {w w2 : World} {o1 o2 : Obj} (h : Below ((w.alloc o1).alloc o2).heap.size ((w.alloc o1).alloc o2) w2) : Below w.heap.size w w2 :=
  below1 ((((Below.refl _ _).alloc (Nat.le_refl _) _).trans (h.mono (by simp))))
theorem below3 {w w2 : World} {o1 o2 o3 : Obj} (h : Below (((w.alloc o1).alloc o2).alloc o3).heap.size (((w.alloc o1).alloc o2).alloc o3) w2) : Below w.heap.size w w2 :=
  below2 ((((Below.refl _ _).alloc (Nat.le_refl _) _).trans (h.mono (by simp))))
theorem below4 {w w2 : World} {o1 o2 o3 o4 : Obj} (h : Below ((((w.alloc o1).alloc o2).alloc o3).alloc o4).heap.size ((((w.alloc o1).alloc o2).alloc o3).alloc o4) w2) : Below w.heap.size w w2 :=
  below3 ((((Below.refl _ _).alloc (Nat.le_refl _) _).trans (h.mono (by simp))))


set_option maxHeartbeats 400000 in
theorem greater_any (x y : Int) (hx : I64 x) (hy : I64 y) (w : World) :
    Calls Try.prog 37 #[V2 x, V2 y] w fun e w' => e = .returned (V2 (imax x y)) ∧ Below w.heap.size w w' := by
  have hd : -85070591730234615865843651857942052864 ≤ x - y ∧ x - y ≤ 85070591730234615865843651857942052864 := by unfold I64 at hx hy; omega
  have HD : Hid (-85070591730234615865843651857942052864 ≤ x - y ∧ x - y ≤ 85070591730234615865843651857942052864) := hd
  clear hd hx hy
  by_cases h : x - y < 0
  · have hc : decide (x - y < 0) = true := by simpa using h
    have hm : imax x y = y := by unfold imax; rw [if_pos (by omega)]
    rw [hm]
    clear hm h
    go_enter Try.func37, Try.ntmps37
    unfold V2
    go_wp2_with fail
    refine (minus_any x y _).mono ?_
    rintro e w1 ⟨rfl, hb1⟩
    go_wp2_with fail
    refine (negative_any (x - y) _ HD.out).mono ?_
    rintro e w2 ⟨rfl, hb2⟩
    have hb := hb1.trans (hb2.mono hb1.size)
    clear hb1 hb2
    obtain ⟨hcl, hfz⟩ := bcell hb
    have HB := hide hb
    clear hb
    go_wp2
    exact bodyPost_ret (v := V2 y) (by simp [results, Try.results37, go_sem, hcl, V2]) rfl ⟨rfl, ((below3 HB.out).setCell (by simp; omega) _).setCell (by simp; omega) _⟩
  · have hc : decide (x - y < 0) = false := by simpa using h
    have hm : imax x y = x := by unfold imax; rw [if_neg (by omega)]
    rw [hm]
    clear hm h
    go_enter Try.func37, Try.ntmps37
    unfold V2
    go_wp2_with fail
    refine (minus_any x y _).mono ?_
    rintro e w1 ⟨rfl, hb1⟩
    go_wp2_with fail
    refine (negative_any (x - y) _ HD.out).mono ?_
    rintro e w2 ⟨rfl, hb2⟩
    have hb := hb1.trans (hb2.mono hb1.size)
    clear hb1 hb2
    obtain ⟨hcl, hfz⟩ := bcell hb
    have HB := hide hb
    clear hb
    go_wp2
    exact bodyPost_ret (v := V2 x) (by simp [results, Try.results37, go_sem, hcl, V2]) rfl ⟨rfl, ((below3 HB.out).setCell (by simp; omega) _).setCell (by simp; omega) _⟩

set_option maxHeartbeats 400000 in
theorem lesser_any (x y : Int) (hx : I64 x) (hy : I64 y) (w : World) :
    Calls Try.prog 38 #[V2 x, V2 y] w fun e w' => e = .returned (V2 (imin x y)) ∧ Below w.heap.size w w' := by
  have hd : -85070591730234615865843651857942052864 ≤ x - y ∧ x - y ≤ 85070591730234615865843651857942052864 := by unfold I64 at hx hy; omega
  have HD : Hid (-85070591730234615865843651857942052864 ≤ x - y ∧ x - y ≤ 85070591730234615865843651857942052864) := hd
  clear hd hx hy
  by_cases h : x - y < 0
  · have hc : decide (x - y < 0) = true := by simpa using h
    have hm : imin x y = x := by unfold imin; rw [if_pos (by omega)]
    rw [hm]
    clear hm h
    go_enter Try.func38, Try.ntmps38
    unfold V2
    go_wp2_with fail
    refine (minus_any x y _).mono ?_
    rintro e w1 ⟨rfl, hb1⟩
    go_wp2_with fail
    refine (negative_any (x - y) _ HD.out).mono ?_
    rintro e w2 ⟨rfl, hb2⟩
    have hb := hb1.trans (hb2.mono hb1.size)
    clear hb1 hb2
    obtain ⟨hcl, hfz⟩ := bcell hb
    have HB := hide hb
    clear hb
    go_wp2
    exact bodyPost_ret (v := V2 x) (by simp [results, Try.results38, go_sem, hcl, V2]) rfl ⟨rfl, ((below3 HB.out).setCell (by simp; omega) _).setCell (by simp; omega) _⟩
  · have hc : decide (x - y < 0) = false := by simpa using h
    have hm : imin x y = y := by unfold imin; rw [if_neg (by omega)]
    rw [hm]
    clear hm h
    go_enter Try.func38, Try.ntmps38
    unfold V2
    go_wp2_with fail
    refine (minus_any x y _).mono ?_
    rintro e w1 ⟨rfl, hb1⟩
    go_wp2_with fail
    refine (negative_any (x - y) _ HD.out).mono ?_
    rintro e w2 ⟨rfl, hb2⟩
    have hb := hb1.trans (hb2.mono hb1.size)
    clear hb1 hb2
    obtain ⟨hcl, hfz⟩ := bcell hb
    have HB := hide hb
    clear hb
    go_wp2
    exact bodyPost_ret (v := V2 y) (by simp [results, Try.results38, go_sem, hcl, V2]) rfl ⟨rfl, ((below3 HB.out).setCell (by simp; omega) _).setCell (by simp; omega) _⟩
end Go.Proofs.Ytklekpbfjcpjlaa
