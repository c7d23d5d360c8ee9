/- For the laws BlockKeeps and BlockEnds: what steps write; one disk. -/
import Derived.Test.YtffniclijiekkaaKept
namespace Go.Proofs.Ytffniclijiekkaa
open Go Go.RowKit

/-- The block that a step writes. -/
def blk (n : Nat) (x : Stp) : Nat := (x.b % 65536).toNat % n
/-- What a list of steps writes. -/
def wrs (n : Nat) (l : List Stp) : List (Nat × ByteArray) := l.map fun x => (blk n x, fullT x.byte)
theorem blk_lt {n : Nat} (h : 1 ≤ n) (x : Stp) : blk n x < n := Nat.mod_lt _ (by omega)
theorem wrs_take (n : Nat) (l : List Stp) (k : Nat) (h : k < l.length) : wrs n (l.take (k + 1)) = wrs n (l.take k) ++ [(blk n l[k], fullT l[k].byte)] := by
  unfold wrs
  rw [List.take_succ_eq_append_getElem h, List.map_append]
  rfl
theorem write_at (S : List ByteArray) (L : List (Nat × ByteArray)) (b c : Nat) (h : b < S.length) : (⟨S, L, -1⟩ : St).write (b : Int) (fullT c) = (0, ⟨S, L ++ [(b, fullT c)], -1⟩) := by
  unfold St.write
  rw [if_neg (by show ¬ ((-1 : Int) = 0); omega), if_neg (fun hh => hh ⟨by omega, by show (b : Int) < (S.length : Int); omega⟩), if_neg (by rw [fullT_size]; decide)]
  show (0, (⟨S, L ++ [((b : Int).toNat, fullT c)], counted (-1)⟩ : St)) = _
  rw [Int.toNat_natCast]
  rfl
theorem w64_nat {y : Nat} (h : y < 100000) : wrap64 (y : Int) = (y : Int) := by unfold wrap64; omega
theorem i64_nat {y : Nat} (h : y < 100000) : IntKind.i64.wrap (y : Int) = (y : Int) := by
  rw [IntKind.wrap_i64]
  omega
theorem u16_mod (b : Int) : IntKind.u16.wrap b = b % 65536 := by simp [IntKind.wrap, IntKind.bits, IntKind.signed]
theorem u16_nat (b : Int) : ∃ y : Nat, IntKind.u16.wrap b = (y : Int) ∧ y < 65536 := ⟨(b % 65536).toNat, by rw [u16_mod]; omega, by omega⟩
theorem blk_of {n y : Nat} {x : Stp} (h : IntKind.u16.wrap x.b = (y : Int)) : Int.tmod (y : Int) (n : Int) = (blk n x : Int) := by
  rw [u16_mod] at h
  unfold blk
  rw [h, Int.toNat_natCast, Int.tmod_eq_emod_of_nonneg (by omega), Int.natCast_emod]
theorem wrs_ok {n : Nat} {S : List ByteArray} (h1 : 1 ≤ n) (h2 : n ≤ 16) (hS : S.length = n) (hf : ∀ s ∈ S, s.size = 256) (l : List Stp) : (⟨S, wrs n l, -1⟩ : St).Ok :=
  ⟨by show S.length ≤ _; omega, by show 1 ≤ S.length; omega, hf, fun w hw => by
    obtain ⟨x, _, rfl⟩ := List.mem_map.1 hw
    exact ⟨by show blk n x < S.length; rw [hS]; exact blk_lt h1 x, fullT_size _⟩, by show (-1 : Int) ≤ -1 ∧ (-1 : Int) ≤ _; omega⟩
/-- One disk, behind B. -/
structure One (DAt : World → Nat → St → (Nat → Prop) → Prop) (B : Nat) (w u : World) (p : Nat) (F : Nat → Prop) (st : St) : Prop where
  d : DAt u p st F
  fromD : ∀ k, F k → B ≤ k
  below : Below B w u
  size : B ≤ w.heap.size
theorem One.old {DAt : World → Nat → St → (Nat → Prop) → Prop} (C : Con DAt) {B : Nat} {w u v : World} {p : Nat} {F : Nat → Prop} {st : St} (h : One DAt B w u p F st) (hb : Below u.heap.size u v) : One DAt B w v p F st :=
  ⟨C.below h.d hb, h.fromD, h.below.trans (hb.mono (Nat.le_trans h.size h.below.size)), h.size⟩
theorem One.next {DAt : World → Nat → St → (Nat → Prop) → Prop} {B : Nat} {w u v : World} {p : Nat} {F F' : Nat → Prop} {st st' : St} (h : One DAt B w u p F st) (hd : DAt v p st' F') (hl : Loc F F' u v) : One DAt B w v p F' st' :=
  have hs := Nat.le_trans h.size h.below.size
  ⟨hd, hl.beyond h.fromD hs, h.below.trans (hl.below h.fromD hs), h.size⟩
theorem step_cells {w z : World} {b o : Nat} {x : Stp} (h : StepAt w b o x) (hb : Below w.heap.size w z) : z.cell? ⟨b, o + 1, none⟩ = some (.int .i64 x.b) ∧ z.cell? ⟨b, o + 2, none⟩ = some (.int .u8 (x.byte : Int)) := by
  have g := h.old hb
  exact ⟨g.2.1, g.2.2.1⟩
end Go.Proofs.Ytffniclijiekkaa
