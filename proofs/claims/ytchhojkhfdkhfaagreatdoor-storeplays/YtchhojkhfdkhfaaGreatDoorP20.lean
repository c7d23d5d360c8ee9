/- Joined texts. -/
import Derived.Test.YtchhojkhfdkhfaaGreatDoorProg
import Derived.Shelf.Strconv.Clone
import Derived.WalkKit
import Derived.WalkSpells
namespace Go.Proofs.YtchhojkhfdkhfaaGreatDoor.Frm
open Go Go.RowKit Go.Shelf

def cloneRen : Ren := ⟨fun x => if x = 316 then 160 else x,fun t => if t = 37 then 77 else if t = 127 then 128 else t,fun g => g⟩
theorem clone_lays0 : Lays.n316 Tryz.prog cloneRen := by
 constructor <;> first | kernel_rfl | (intro w; kernel_rfl)
theorem clone_lays : LaysM.n316 Tryz.prog cloneRen := by
 constructor
 · exact clone_lays0
 all_goals first | kernel_rfl | (intro w; kernel_rfl)
theorem clone_in (s : ByteArray) (w : World) (h : s.size <= 281474976710656) :
   Calls Tryz.prog 160 #[.string s] w fun e w' => e = .returned (.string s) /\ Below w.heap.size w w' := Any.stringslite_Clone clone_lays s w h
set_option maxHeartbeats 400000 in
theorem clone_any (s : ByteArray) (w : World) (h : s.size <= 281474976710656) :
   Calls Tryz.prog 148 #[.string s] w fun e w' => e = .returned (.string s) /\ Below w.heap.size w w' := by
 have H : Hid (∀ u,Calls Tryz.prog 160 #[.string s] u fun e w' => e = .returned (.string s) /\ Below u.heap.size u w') := fun u => clone_in s u h
 go_enter Tryz.func148,Tryz.ntmps148
 go_wp2_with fail
 refine (H.out _).mono ?_
 rintro e w1 ⟨rfl,hb⟩
 have HB : Hid (Below w.heap.size w w1) := hb
 clear hb
 go_wp2
 go_ret
 exact ⟨rfl,HB.out⟩
end Go.Proofs.YtchhojkhfdkhfaaGreatDoor.Frm
