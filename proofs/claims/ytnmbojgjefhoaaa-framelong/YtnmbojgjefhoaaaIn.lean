/- How what comes in is read, and how it reads behind the call. -/
import Derived.Test.YtnmbojgjefhoaaaFrameReads
import Derived.Test.YtnmbojgjefhoaaaFrameLong
import Derived.Test.YtnmbojgjefhoaaaFrameBack
import Derived.Test.YtnmbojgjefhoaaaFrameTurned
import Derived.Test.YtnmbojgjefhoaaaRows
import Derived.ProofKit
import Derived.OpenShut
import Derived.Lib.SmallJoins
import Derived.Deep.Slices
import Derived.Deep.Strs
import Derived.SizedLaws
namespace Go.Proofs.Ytnmbojgjefhoaaa
open Go Go.ChangeShapes Go.WideShapes Go.ChangeAt Go.RowKit Go.Joins Go.Deep

theorem nat_of_wf32 {x : Int} (h : (Lit.int .u32 x).wf = true) : ∃ m : Nat, x = (m : Int) ∧ m < 4294967296 := by
  simp [Lit.wf, IntKind.min, IntKind.max, IntKind.signed, IntKind.bits] at h
  exact ⟨x.toNat, by omega, by omega⟩
theorem nat_of_wf16 {x : Int} (h : (Lit.int .u16 x).wf = true) : ∃ m : Nat, x = (m : Int) ∧ m < 65536 := by
  simp [Lit.wf, IntKind.min, IntKind.max, IntKind.signed, IntKind.bits] at h
  exact ⟨x.toNat, by omega, by omega⟩
theorem i8_of_wf {x : Int} (h : (Lit.int .i8 x).wf = true) : -128 ≤ x ∧ x ≤ 127 := by
  simp [Lit.wf, IntKind.min, IntKind.max, IntKind.signed, IntKind.bits] at h
  omega
theorem Try.own : ownKnob Try.prog.godebug = none := by kernel_rfl
theorem Try.laidOut : laidOutB Try.prog = true := by kernel_rfl
theorem cells9 : Try.prog.cellsOf 9 = 1 := by kernel_rfl
theorem bytes9 : Try.prog.bytesOf 9 = 16 := by kernel_rfl
theorem shut_text {H : Type} {enc : TypeId × Value → H} {W : World} {base : Nat} {sp : Nat → Bool} {held : Bool} {s : ByteArray} (hs : s.size ≤ maxLen) :
    DataW.Trod enc Try.prog W base sp held 9 (.string s) (.lit (.string s.data.toList)) [] :=
  ⟨1, by simp [DataW.trod, Value.cells, Try.underlying9, hs]⟩
theorem text_reach {H : Type} {ts : List TypeId} {ds : List (DataW H)} (h : (DataW.weightsEach Try.prog ts ds).all (· ≤ reachBytes) = true) (j : Nat) {s : ByteArray} (ht : ts[j]? = some 9) (hd : ds[j]? = some (.lit (.string s.data.toList))) : s.size ≤ 140737488351232 := by
  have := sized_string h ht hd
  have e : s.data.toList.length = s.size := by simp
  rw [e] at this
  exact this
theorem weightsAll_mem {H : Type} (P : Program) (e : TypeId) : ∀ (l : List (DataW H)) (x : DataW H), x ∈ l → ∀ n ∈ DataW.weights P e x, n ∈ DataW.weightsAll P e l
  | [], _, h, _, _ => absurd h (by simp)
  | y :: l, x, h, n, hn => by
    rw [DataW.weightsAll]
    rcases List.mem_cons.1 h with rfl | h
    · exact List.mem_append_left _ hn
    · exact List.mem_append_right _ (weightsAll_mem P e l x h n hn)
/-- A list of texts that comes in. -/
theorem open_list {H : Type} {enc : TypeId × Value → H} {W : World} {base : Nat} {sp : Nat → Bool} {held : Bool} {a : Option Addr} {len cap : Nat} {d : DataW H} {p : List MemPlace} {ts : List TypeId} {ds : List (DataW H)}
    (hsz : (DataW.weightsEach Try.prog ts ds).all (· ≤ reachBytes) = true) (ht : ts[0]? = some 32) (hd : ds[0]? = some d)
    (h : DataW.Trod enc Try.prog W base sp held 32 (.slice a len cap) d p) :
    len ≤ cap ∧ ∃ L : List ByteArray, L.length = len ∧ StrsAt W a L ∧ len ≤ 140737488351232 ∧ ∀ t ∈ L, t.size ≤ 140737488351232 := by
  obtain ⟨fuel, hf⟩ := h
  rcases open_strs Try.underlying32 Try.underlying9 cells9 hf with ⟨hcs, _⟩ | ⟨a', len', cap', m, Sx, hcs, hb, hl, hm, hmm, hx, hcell⟩
  · simp [Value.cells] at hcs
    obtain ⟨rfl, rfl, rfl⟩ := hcs
    exact ⟨Nat.le_refl _, [], rfl, Or.inl rfl, by omega, by simp⟩
  · simp [Value.cells] at hcs
    obtain ⟨rfl, rfl, rfl⟩ := hcs
    have hlm : len ≤ m := by rw [hmm]; split <;> omega
    have hde : d = .slice ((List.range len).map fun i => .lit (.string (Sx i).data.toList)) ((List.range (m - len)).map fun j => .lit (.string (Sx (len + j)).data.toList)) := congrArg Prod.fst hx
    subst hde
    have hw : ∀ n ∈ DataW.weights Try.prog 32 (.slice ((List.range len).map fun i => (.lit (.string (Sx i).data.toList) : DataW H)) ((List.range (m - len)).map fun j => .lit (.string (Sx (len + j)).data.toList))), n ≤ 140737488351232 := fun n hn => by
      have h1 : n ≤ reachBytes := of_decide_eq_true (List.all_eq_true.1 hsz n (DataW.weights_mem_each ht hd n hn))
      exact h1
    rw [DataW.weights, Try.underlying32] at hw
    simp only at hw
    have hlen : len ≤ 140737488351232 := by
      have := hw _ (List.mem_cons_self ..)
      rw [List.length_map, List.length_map, List.length_range, List.length_range, bytes9] at this
      omega
    have hstr : ∀ i, i < len → (Sx i).size ≤ 140737488351232 := fun i hi => by
      refine hw _ (List.mem_cons_of_mem _ (List.mem_append_left _ (weightsAll_mem _ _ _ (.lit (.string (Sx i).data.toList)) (List.mem_map.2 ⟨i, List.mem_range.2 hi, rfl⟩) _ ?_)))
      rw [DataW.weights]
      simp
    refine ⟨hl, (List.range len).map Sx, by simp, ?_, hlen, fun t ht => ?_⟩
    · by_cases h0 : len = 0
      · left; subst h0; rfl
      · right
        obtain ⟨b, off, spot⟩ := a'
        have hs : spot = none := by
          have := (hcell 0 (by omega)).1
          cases spot with
          | none => rfl
          | some s =>
            exfalso
            simp [Addr.add, World.cell?] at this
            split at this <;> simp at this
        subst hs
        refine ⟨b, off, rfl, fun j hj => ?_⟩
        have hj' : j < len := by simpa using hj
        have := (hcell j (by omega)).1
        have hadd : (⟨b, off, none⟩ : Addr).add j = ⟨b, off + j, none⟩ := by unfold Addr.add; split <;> simp_all
        rw [hadd] at this
        rw [this]
        simp
    · obtain ⟨i, hi, rfl⟩ := List.mem_map.1 ht
      exact hstr i (List.mem_range.1 hi)
end Go.Proofs.Ytnmbojgjefhoaaa
