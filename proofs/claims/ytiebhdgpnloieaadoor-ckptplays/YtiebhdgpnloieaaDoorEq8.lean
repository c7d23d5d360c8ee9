/- Two arrays of bytes, held against each other. -/
import Derived.Test.YtiebhdgpnloieaaDoorCg
import Derived.ChangeKeysEq
namespace Go.Proofs.YtiebhdgpnloieaaDoor
open Go Go.RowKit
theorem part_byte (X : List UInt8) (i : Nat) (h : i < X.length) (w : World) : (part 5 (Lib.byteCells X).toArray (i * 1)).run Tryd.prog w = .ok (.int .u8 ((X[i].toNat : Nat) : Int)) w := by
  have u5 := Tryd.underlying5
  have a5 := Tryd.isAgg5
  have z5 := Tryd.sizeOf5
  have e : (Lib.byteCells X).toArray[i]? = some (.int .u8 ((X[i].toNat : Nat) : Int)) := by
    unfold Lib.byteCells
    rw [List.getElem?_toArray, List.getElem?_map, List.getElem?_eq_getElem h]
    rfl
  rw [Nat.mul_one]
  unfold part
  simp [Sem.run_bind, a5, z5, e]
theorem items_bytes (d : Nat) (X Y : List UInt8) (w : World) : ∀ (is : List Nat), (∀ i ∈ is, i < X.length ∧ i < Y.length) → (Op.eqItems (d + 1) 5 1 (Lib.byteCells X).toArray (Lib.byteCells Y).toArray is).run Tryd.prog w = .ok (decide (∀ i ∈ is, X[i]? = Y[i]?)) w
  | [], _ => by simp [Op.eqItems]
  | i :: is, h => by
    have hi := h i (by simp)
    have ih := items_bytes d X Y w is (fun j hj => h j (by simp [hj]))
    have he := run_equalIn_int (P := Tryd.prog) w d 5 .u8 .u8 ((X[i].toNat : Nat) : Int) ((Y[i].toNat : Nat) : Int) Tryd.underlying5
    simp only [Op.eqItems, Sem.run_bind, part_byte X i hi.1 w, part_byte Y i hi.2 w, Result.andThen_ok]
    rw [he]
    simp only [Result.andThen_ok]
    by_cases e : X[i] = Y[i]
    · have e2 : ((X[i].toNat : Nat) : Int) = ((Y[i].toNat : Nat) : Int) := by rw [e]
      have e3 : X[i]? = Y[i]? := by rw [List.getElem?_eq_getElem hi.1, List.getElem?_eq_getElem hi.2, e]
      rw [e2]
      simp only [beq_self_eq_true, Bool.not_true, Bool.false_eq_true, if_false]
      rw [ih]
      refine congrArg (fun b => Result.ok b w) (decide_eq_decide.2 ?_)
      simp [e3]
    · have e2 : ¬ ((X[i].toNat : Nat) : Int) = ((Y[i].toNat : Nat) : Int) := fun h => e (UInt8.toNat_inj.1 (by omega))
      have e3 : ¬ X[i]? = Y[i]? := by rw [List.getElem?_eq_getElem hi.1, List.getElem?_eq_getElem hi.2]; simpa using e
      have e4 : (((X[i].toNat : Nat) : Int) == ((Y[i].toNat : Nat) : Int)) = false := beq_eq_false_iff_ne.2 e2
      rw [e4]
      simp [e3]
theorem eq89 (X Y : List UInt8) (w : World) (hX : X.length = 256) (hY : Y.length = 256) : (Op.equalIn 10000 89 (.agg (Lib.byteCells X).toArray) (.agg (Lib.byteCells Y).toArray)).run Tryd.prog w = .ok (decide (X = Y)) w := by
  obtain ⟨i0, hi, _, _, _⟩ := info_parts (P := Tryd.prog) (e := 5) (z := .int .u8 0) (size := 1) (bytes := 1) (by kernel_rfl)
  have hu : Tryd.prog.underlying 89 = some (.array 256 5) := by kernel_rfl
  have hc : Tryd.prog.cellsOf 5 = 1 := by kernel_rfl
  have h1 := run_equalIn_array w 9999 (Lib.byteCells X).toArray (Lib.byteCells Y).toArray hu hi
  rw [hc] at h1
  refine h1.trans ((items_bytes 9998 X Y w (List.range 256) (fun i hi => by rw [List.mem_range] at hi; omega)).trans ?_)
  refine congrArg (fun b => Result.ok b w) (decide_eq_decide.2 ?_)
  constructor
  · intro h
    apply List.ext_getElem?
    intro i
    by_cases hi : i < 256
    · exact h i (List.mem_range.2 hi)
    · rw [List.getElem?_eq_none (by omega), List.getElem?_eq_none (by omega)]
  · rintro rfl i _
    rfl
end Go.Proofs.YtiebhdgpnloieaaDoor
