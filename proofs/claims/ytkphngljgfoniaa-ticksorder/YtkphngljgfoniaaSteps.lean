/- Scripts of two numbers a step, as they lie in memory; rows of numbers of one's own. -/
import Derived.Test.YtkphngljgfoniaaCon
import Derived.Deep.WholeRow
import Derived.Deep.MidRow
namespace Go.Proofs.Ytkphngljgfoniaa
open Go Go.RowKit

theorem row_cell {w : World} {base : Nat} {e : TypeId} {size n : Nat} {a : Option Addr} {c : Nat} {xs : List Value} (h : w.ownsRow base e size (.slice a n c) n xs) (hn : 0 < n) : ∃ g, a = some ⟨g, 0, none⟩ ∧ ∀ j, j < n * size → w.cell? ⟨g, j, none⟩ = xs[j]? := by
  rcases h.2 with ⟨h1, h2⟩ | ⟨g, cap, cur, h1, _⟩
  · omega
  · cases h1
    exact ⟨g, rfl, fun j hj => World.ownsRow.cellAt h j hj⟩
theorem slice_of {w : World} {base : Nat} {e : TypeId} {size n : Nat} {v : Value} {xs : List Value} (h : w.ownsRow base e size v n xs) : ∃ a c, v = .slice a n c ∧ n ≤ c := by
  rcases h.2 with ⟨rfl, h0⟩ | ⟨g, cap, cur, rfl, h1, hg, hn, _⟩
  · exact ⟨none, 0, by rw [h0], by omega⟩
  · exact ⟨_, cap, rfl, hn⟩
theorem row_type {w : World} {base : Nat} {e : TypeId} {size n : Nat} {v : Value} {xs : List Value} (h : w.ownsRow base e size v n xs) {g : Nat} (hg : v.ownBlock = some g) : ∃ cur, w.heap[g]? = some (.cells cur e (0, 0)) := by
  rcases h.2 with ⟨rfl, _⟩ | ⟨g', cap, cur, rfl, h1, hg', hr⟩
  · cases hg
  · simp [Value.ownBlock] at hg
    subst hg
    exact ⟨cur, hg'⟩
theorem heap_set3 {u : World} {p i : Nat} {cs : Array Value} {t : TypeId} (h : u.heap[p]? = some (.cells cs t (0, 0))) (v : Value) : (u.setCell ⟨p, i, none⟩ v).heap[p]? = some (.cells (cs.setIfInBounds i v) t (0, 0)) := by
  rw [setCell_eq_setRow u p i cs t (0, 0) v h]
  exact setRow_heap u p cs _ t _ h
/-- A row of numbers of one's own, at block g. -/
def NumsAt (u : World) (g : Nat) (c : Nat) (l : List Int) : Prop := u.ownsRow 0 2 1 (.slice (some ⟨g, 0, none⟩) l.length c) l.length (l.map (Value.int .i64))
theorem NumsAt.cell {u : World} {g c : Nat} {l : List Int} (h : NumsAt u g c l) (k : Nat) (hk : k < l.length) : u.cell? ⟨g, k, none⟩ = some (.int .i64 l[k]) := by
  have e := World.ownsRow.cellAt h k (by omega)
  rw [e]
  simp [hk]
theorem NumsAt.free {u : World} {g c : Nat} {l : List Int} (h : NumsAt u g c l) (k : Nat) : u.frozen? ⟨g, k, none⟩ = false := World.ownsRow.frozenAt h k
theorem NumsAt.lt {u : World} {g c : Nat} {l : List Int} (h : NumsAt u g c l) : g < u.heap.size := own_lt h rfl
theorem NumsAt.same {u v : World} {g c : Nat} {l : List Int} (h : NumsAt u g c l) (hb : v.heap[g]? = u.heap[g]?) : NumsAt v g c l := own_same h (fun k hk => by
  simp [Value.ownBlock] at hk
  subst hk
  exact hb)
theorem NumsAt.below {u v : World} {g c : Nat} {l : List Int} (h : NumsAt u g c l) (hb : Below u.heap.size u v) : NumsAt v g c l := h.same (hb.block g h.lt)
theorem NumsAt.set {u : World} {g c : Nat} {l : List Int} (h : NumsAt u g c l) (k : Nat) (x : Int) : NumsAt (u.setCell ⟨g, k, none⟩ (.int .i64 x)) g c (l.set k x) := by
  have := (World.ownsRow.stored h k (.int .i64 x)).1
  unfold NumsAt
  rw [List.length_set, List.map_set]
  exact this
theorem NumsAt.new (u : World) (n : Nat) (hn : n ≤ 4096) : NumsAt (u.alloc (.cells (Array.replicate n (.int .i64 0)) 2)) u.heap.size n (List.replicate n 0) := by
  unfold NumsAt
  rw [List.length_replicate, List.map_replicate]
  have h := World.ownsRow_lit (base := 0) (e := 2) (size := 1) u (Array.replicate n (.int .i64 0)) n (Nat.zero_le _) (by unfold maxLen; omega) (by simp)
  rw [Array.toList_replicate] at h
  exact h
theorem info_int : (Try.prog.info? 2).map (fun i => (i.zero, i.size, i.bytes)) = some (some (.int .i64 0), 1, 8) := by kernel_rfl
/-- So many numbers 0. -/
def zeros (n : Nat) : Array Value := Array.replicate n (.int .i64 0)
theorem nmake (n : Nat) (hn : n ≤ 4096) (u : World) : (Instr.makeSlice 31 (.int .i64 (n : Int)) (.int .i64 (n : Int))).run Try.prog u = .ok (.slice (some ⟨u.heap.size, 0, none⟩) n n) (u.alloc (.cells (zeros n) 2)) := by
  obtain ⟨i, hi, hz0, hz1, hz2⟩ := info_parts info_int
  have h := run_makeSlice (P := Try.prog) (w := u) 31 2 i (.int .i64 0) Try.underlying31 hi hz0 .i64 .i64 (n : Int) (n : Int) (by omega) (by omega) (by rw [hz1]; omega) (by rw [hz2]; omega) (by omega)
  rw [hz1, Int.toNat_natCast] at h
  have e : madeCells (Value.int .i64 0).cells (n * 1) = zeros n := by
    unfold madeCells zeros
    apply Array.ext
    · simp
    · intro i h1 h2
      simp [Value.cells, Nat.mod_one]
  rw [e] at h
  exact h
/-- The numbers of a list lie in block b from o on, two a step. -/
def StepsAt (w : World) (a : Option Addr) (l : List (Int × Int)) : Prop := l = [] ∨ ∃ b off, a = some ⟨b, off, none⟩ ∧ ∀ j (hj : j < l.length), w.cell? ⟨b, off + j * 2, none⟩ = some (.int .i64 l[j].1) ∧ w.cell? ⟨b, off + j * 2 + 1, none⟩ = some (.int .i64 l[j].2)
theorem StepsAt.old {u v : World} {a : Option Addr} {l : List (Int × Int)} (h : StepsAt u a l) (hb : Below u.heap.size u v) : StepsAt v a l := by
  rcases h with h0 | ⟨b, off, rfl, hc⟩
  · exact Or.inl h0
  · exact Or.inr ⟨b, off, rfl, fun j hj => ⟨(hb.cell (p := ⟨b, off + j * 2, none⟩) (World.block_lt_of_cell? u _ (hc j hj).1)).trans (hc j hj).1, (hb.cell (p := ⟨b, off + j * 2 + 1, none⟩) (World.block_lt_of_cell? u _ (hc j hj).2)).trans (hc j hj).2⟩⟩
theorem StepsAt.there {u : World} {a : Option Addr} {l : List (Int × Int)} (h : StepsAt u a l) (k : Nat) (hk : k < l.length) : ∃ b off, a = some ⟨b, off, none⟩ ∧ u.cell? ⟨b, off + k * 2, none⟩ = some (.int .i64 l[k].1) ∧ u.cell? ⟨b, off + k * 2 + 1, none⟩ = some (.int .i64 l[k].2) := by
  rcases h with h0 | ⟨b, off, rfl, hc⟩
  · rw [h0] at hk; exact absurd hk (by simp)
  · exact ⟨b, off, rfl, hc k hk⟩
end Go.Proofs.Ytkphngljgfoniaa
