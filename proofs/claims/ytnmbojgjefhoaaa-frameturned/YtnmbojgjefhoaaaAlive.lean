/- That the known answers are answered. -/
import Derived.Test.YtnmbojgjefhoaaaScan
import Derived.Test.YtnmbojgjefhoaaaBack
namespace Go.Proofs.Ytnmbojgjefhoaaa
open Go Go.RowKit
def tA : ByteArray := ⟨#[97]⟩
def tX : ByteArray := ⟨#[120]⟩
theorem tA_size : tA.size = 1 := rfl
theorem aliveHead : (frm tA).extract 0 5 = ⟨#[1, 0, 0, 0, 97]⟩ := by
  apply bytesOf_inj
  rw [bytesOf_extract, frm_bytes, List.drop_zero]
  rfl
theorem aliveRead : rdf (frm tA ++ tX) = (tA, 9, 0) := rdf_frm tA tX (by decide)
theorem aliveTorn : rdf ((frm tA).extract 0 8) = (⟨#[]⟩, 0, 40) :=
  rdf_cut tA ⟨#[]⟩ _ 8 (by decide) (by rw [append_nil]) (by decide)
theorem aliveScan : scn (frm tA ++ frm tA ++ tX) = ([tA, tA], 18, 40) := by
  have hx : scn tX = ([], 0, 40) := by
    have hr : rdf tX = (⟨#[]⟩, 0, 40) := by unfold rdf; rw [if_pos (by decide)]
    rw [scn_err tX (by decide) (by rw [hr]; decide), hr]
  rw [append_assoc, scn_frm tA _ (by decide), scn_frm tA _ (by decide), hx]
  rfl
set_option maxRecDepth 10000 in
set_option maxHeartbeats 1000000 in
theorem alive_any (w : World) : Calls Try.prog 7 #[] w fun e w' => e = .returned (.bool true) ∧ Below w.heap.size w w' := by
  have K1 : Hid (∀ u, Calls Try.prog 8 #[.string ⟨#[97]⟩] u fun e w' => e = .returned (.tuple #[.string (frm tA), .int .i64 0]) ∧ Below u.heap.size u w') := fun u => frame_any tA u (by decide)
  have K2 : Hid (∀ u, Calls Try.prog 10 #[.string (frm tA ++ ⟨#[120]⟩)] u fun e w' => e = .returned (.tuple #[.string ⟨#[97]⟩, .int .i64 9, .int .i64 0]) ∧ Below u.heap.size u w') := fun u => by
    have h := read_any (frm tA ++ tX) u (by rw [ByteArray.size_append, frm_size]; decide)
    rw [aliveRead] at h
    exact h
  have K3 : Hid (∀ u, Calls Try.prog 10 #[.string ((frm tA).extract 0 8)] u fun e w' => e = .returned (.tuple #[.string ⟨#[]⟩, .int .i64 0, .int .i64 40]) ∧ Below u.heap.size u w') := fun u => by
    have h := read_any ((frm tA).extract 0 8) u (by rw [ByteArray.size_extract]; omega)
    rw [aliveTorn] at h
    exact h
  have K4 : Hid (∀ u, Calls Try.prog 12 #[.string (frm tA ++ frm tA ++ ⟨#[120]⟩)] u fun e w' => ∃ a c, e = .returned (.tuple #[.slice a 2 c, .int .i64 18, .int .i64 40]) ∧ Below u.heap.size u w') := fun u => by
    have h := scan_any (frm tA ++ frm tA ++ tX) u (by rw [ByteArray.size_append, ByteArray.size_append, frm_size]; decide)
    refine h.mono ?_
    rintro e w' ⟨a, c, he, _, hb⟩
    rw [aliveScan] at he
    exact ⟨a, c, he, hb⟩
  have hz : (frm tA).size = 9 := frm_size tA
  have hh := aliveHead
  generalize frm tA = A at *
  go_enter Try.func7, Try.ntmps7
  go_wp2_with fail
  refine (K1.out _).mono ?_
  rintro e w1 ⟨rfl, hb⟩
  have HB1 := hide hb
  clear hb
  go_wp2_with fail
  refine (K2.out _).mono ?_
  rintro e w2 ⟨rfl, hb⟩
  have HB2 := hide (bnext HB1.out hb)
  clear hb HB1
  go_wp2_with fail
  refine (K3.out _).mono ?_
  rintro e w3 ⟨rfl, hb⟩
  have HB3 := hide (bnext HB2.out hb)
  clear hb HB2
  go_wp2_with fail
  refine (K4.out _).mono ?_
  rintro e w4 ⟨a, c, rfl, hb⟩
  have HB4 := hide (bnext HB3.out hb)
  clear hb HB3
  go_wp2
  go_ret
  exact ⟨rfl, HB4.out⟩
end Go.Proofs.Ytnmbojgjefhoaaa
