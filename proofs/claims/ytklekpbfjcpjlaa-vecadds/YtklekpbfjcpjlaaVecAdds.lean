/- The walk of the law VecAdds over its callees' contracts. -/
import Derived.Test.YtklekpbfjcpjlaaHold
import Derived.Test.YtklekpbfjcpjlaaAlive
import Derived.Test.YtklekpbfjcpjlaaSub
import Derived.Test.YtklekpbfjcpjlaaRAdd
import Derived.Test.YtklekpbfjcpjlaaRSub
import Derived.Test.YtklekpbfjcpjlaaRTimesV
namespace Go.Proofs.Ytklekpbfjcpjlaa
open Go.RowKit
attribute [local go_sem ↓] eq23

set_option maxRecDepth 100000 in
set_option maxHeartbeats 4000000 in
theorem VecAdds_any (x0 x1 x2 y0 y1 y2 n : Int) (h : I64 x0 ∧ I64 x1 ∧ I64 x2 ∧ I64 y0 ∧ I64 y1 ∧ I64 y2 ∧ I64 n) (w : World) :
    Calls Try.prog 3 #[V3 x0 x1 x2, V3 y0 y1 y2, .int .i64 n] w fun e w' => e = .returned (.bool true) ∧ Below w.heap.size w w' := by
  have h6 : I64 x0 ∧ I64 x1 ∧ I64 x2 ∧ I64 y0 ∧ I64 y1 ∧ I64 y2 := ⟨h.1, h.2.1, h.2.2.1, h.2.2.2.1, h.2.2.2.2.1, h.2.2.2.2.2.1⟩
  have h4 : I64 x0 ∧ I64 x1 ∧ I64 x2 ∧ I64 n := ⟨h.1, h.2.1, h.2.2.1, h.2.2.2.2.2.2⟩
  have A1 := Add_any x0 x1 x2 y0 y1 y2 h6
  have A2 := RAdd_any x0 x1 x2 y0 y1 y2 h6
  have S1 := Sub_any x0 x1 x2 y0 y1 y2 h6
  have S2 := RSub_any x0 x1 x2 y0 y1 y2 h6
  have T1 := Times_any x0 x1 x2 n h4
  have T2 := RTimes_any x0 x1 x2 n h4
  obtain ⟨p0, p1, p2, pe, hp⟩ := nv_form (x0 + y0) (x1 + y1) (x2 + y2)
  obtain ⟨q0, q1, q2, qe, hq⟩ := nv_form (x0 - y0) (x1 - y1) (x2 - y2)
  obtain ⟨r0, r1, r2, re, hr⟩ := nv_form (x0 * n) (x1 * n) (x2 * n)
  rw [hp] at A1 A2
  rw [hq] at S1 S2
  rw [hr] at T1 T2
  unfold V3 at A1 A2 S1 S2 T1 T2
  have HA1 := hide A1; have HA2 := hide A2; have HS1 := hide S1; have HS2 := hide S2; have HT1 := hide T1; have HT2 := hide T2
  clear h h6 h4 A1 A2 S1 S2 T1 T2 hp hq hr
  unfold V3
  go_enter Try.func3, Try.ntmps3
  go_wp2_with fail
  refine (HA1.out _).mono ?_
  rintro e w1 ⟨rfl, hb1⟩
  have hx1 : H3 w.heap.size x0 x1 x2 w1 := ((H3.new w x0 x1 x2 23 rfl).alloc _).call hb1
  have hy1 : H3 (w.heap.size + 1) y0 y1 y2 w1 := (H3.new _ y0 y1 y2 23 (by simp)).call hb1
  have HB1 := hide (below2 hb1)
  clear hb1
  have ox1 := hx1
  have oy1 := hy1
  unfold H3 at ox1 oy1
  go_wp2_with fail
  refine (HA2.out _).mono ?_
  rintro e w2 ⟨rfl, hb2⟩
  have hx2 := (hx1.alloc _).call hb2
  have hy2 := (hy1.alloc _).call hb2
  have hr12 := (H3.new w1 p0 p1 p2 23 rfl).call hb2
  have HB2 := hide (HB1.out.trans (((grow1 w1 _).trans (hb2.mono (by simp))).mono HB1.out.size))
  clear hb2 HB1 hx1 hy1 ox1 oy1
  have ox2 := hx2
  have oy2 := hy2
  unfold H3 at ox2 oy2
  go_wp2_with fail
  refine (HS1.out _).mono ?_
  rintro e w3 ⟨rfl, hb3⟩
  have hx3 := (hx2.alloc _).call hb3
  have hy3 := (hy2.alloc _).call hb3
  have hr13 := (hr12.alloc _).call hb3
  have hr23 := (H3.new w2 p0 p1 p2 23 rfl).call hb3
  have HB3 := hide (HB2.out.trans (((grow1 w2 _).trans (hb3.mono (by simp))).mono HB2.out.size))
  clear hb3 HB2 hx2 hy2 hr12 ox2 oy2
  have ox3 := hx3
  have oy3 := hy3
  unfold H3 at ox3 oy3
  go_wp2_with fail
  refine (HS2.out _).mono ?_
  rintro e w4 ⟨rfl, hb4⟩
  have hx4 := (hx3.alloc _).call hb4
  have hy4 := (hy3.alloc _).call hb4
  have hr14 := (hr13.alloc _).call hb4
  have hr24 := (hr23.alloc _).call hb4
  have hr34 := (H3.new w3 q0 q1 q2 23 rfl).call hb4
  have HB4 := hide (HB3.out.trans (((grow1 w3 _).trans (hb4.mono (by simp))).mono HB3.out.size))
  clear hb4 HB3 hx3 hy3 hr13 hr23 ox3 oy3
  have ox4 := hx4
  have oy4 := hy4
  unfold H3 at ox4 oy4
  go_wp2_with fail
  refine (HT1.out _).mono ?_
  rintro e w5 ⟨rfl, hb5⟩
  have hx5 := (hx4.alloc _).call hb5
  have hy5 := (hy4.alloc _).call hb5
  have hr15 := (hr14.alloc _).call hb5
  have hr25 := (hr24.alloc _).call hb5
  have hr35 := (hr34.alloc _).call hb5
  have hr45 := (H3.new w4 q0 q1 q2 23 rfl).call hb5
  have HB5 := hide (HB4.out.trans (((grow1 w4 _).trans (hb5.mono (by simp))).mono HB4.out.size))
  clear hb5 HB4 hx4 hy4 hr14 hr24 hr34 ox4 oy4
  have ox5 := hx5
  have oy5 := hy5
  unfold H3 at ox5 oy5
  go_wp2_with fail
  refine (HT2.out _).mono ?_
  rintro e w6 ⟨rfl, hb6⟩
  have hx6 := (hx5.alloc _).call hb6
  have hy6 := (hy5.alloc _).call hb6
  have hr16 := (hr15.alloc _).call hb6
  have hr26 := (hr25.alloc _).call hb6
  have hr36 := (hr35.alloc _).call hb6
  have hr46 := (hr45.alloc _).call hb6
  have hr56 := (H3.new w5 r0 r1 r2 23 rfl).call hb6
  have HB6 := hide (HB5.out.trans (((grow1 w5 _).trans (hb6.mono (by simp))).mono HB5.out.size))
  clear hb6 HB5 hx5 hy5 hr15 hr25 hr35 hr45 ox5 oy5
  have ox6 := hx6
  have oy6 := hy6
  unfold H3 at ox6 oy6
  have or1 := hr16
  have or2 := hr26
  have or3 := hr36
  have or4 := hr46
  have or5 := hr56
  unfold H3 at or1 or2 or3 or4 or5
  go_wp2_with fail
  refine (alive_any _).mono ?_
  rintro e w7 ⟨rfl, hb7⟩
  have HB7 := hide (HB6.out.trans (((grow1 w6 _).trans (hb7.mono (by simp))).mono HB6.out.size))
  clear hb7
  go_wp2
  go_ret
  exact ⟨rfl, HB7.out⟩
end Go.Proofs.Ytklekpbfjcpjlaa
