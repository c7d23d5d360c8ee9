/- strings.Clone by the library's own contract. -/
import Derived.Test.YtdfioggeiagihaaObj
import Derived.Shelf.Strconv.Clone
namespace Go.Proofs.Ytdfioggeiagihaa
open Go Go.RowKit Go.Shelf

/-- Where the library's numbers lie in this program. -/
def cloneRen : Ren := ⟨fun x => if x = 316 then 49 else x, fun t => if t = 37 then 91 else if t = 127 then 92 else t, fun g => g⟩
theorem clone_lays0 : Lays.n316 Try.prog cloneRen := by
  constructor <;> first | kernel_rfl | (intro w; kernel_rfl)
theorem clone_lays : LaysM.n316 Try.prog cloneRen := by
  constructor
  · exact clone_lays0
  all_goals first | kernel_rfl | (intro w; kernel_rfl)
theorem clone_in (s : ByteArray) (w : World) (h : s.size ≤ 281474976710656) :
    Calls Try.prog 49 #[.string s] w fun e w' => e = .returned (.string s) ∧ Below w.heap.size w w' := Any.stringslite_Clone clone_lays s w h
set_option maxHeartbeats 400000 in
theorem clone_any (s : ByteArray) (w : World) (h : s.size ≤ 281474976710656) :
    Calls Try.prog 36 #[.string s] w fun e w' => e = .returned (.string s) ∧ Below w.heap.size w w' := by
  have H : Hid (∀ u, Calls Try.prog 49 #[.string s] u fun e w' => e = .returned (.string s) ∧ Below u.heap.size u w') := fun u => clone_in s u h
  go_enter Try.func36, Try.ntmps36
  go_wp2_with fail
  refine (H.out _).mono ?_
  rintro e w1 ⟨rfl, hb⟩
  have HB : Hid (Below w.heap.size w w1) := hb
  clear hb
  go_wp2
  go_ret
  exact ⟨rfl, HB.out⟩
end Go.Proofs.Ytdfioggeiagihaa
