/- The document's own disk: New. What the laws ask of the program's disk: a structure of contracts. The document's own log: may. The document's own disk by its footprint: contracts in the form of the program's. -/
import Derived.Test.YtchhojkhfdkhfaaGreatDoorM03
import Derived.Deep.RegionLaw
import Derived.Deep.WholeRow
import Derived.Deep.AppendLies
namespace Go.Proofs.YtchhojkhfdkhfaaGreatDoor
open Go Go.RowKit

theorem info9 : (Tryz.prog.info? 9).map (fun i => (i.zero, i.size, i.bytes)) = some (some (.string ⟨#[]⟩), 1, 16) := by kernel_rfl
theorem info5 : (Tryz.prog.info? 5).map (fun i => (i.zero, i.size, i.bytes)) = some (some (.int .u8 0), 1, 1) := by kernel_rfl
theorem add_at (g j : Nat) : (⟨g, 0, none⟩ : Addr).add j = ⟨g, j, none⟩ := by unfold Addr.add; split <;> simp_all
end Go.Proofs.YtchhojkhfdkhfaaGreatDoor
namespace Go.Proofs.YtchhojkhfdkhfaaGreatDoor
open Go Go.RowKit

/-- DAt u p st F: the program's disk lies at block p, is st, and its blocks are F. -/
structure Con (DAt : World → Nat → St → (Nat → Prop) → Prop) : Prop where
  lt : ∀ {u : World} {p : Nat} {st : St} {F : Nat → Prop}, DAt u p st F → ∀ k, F k → k < u.heap.size
  same : ∀ {u v : World} {p : Nat} {st : St} {F : Nat → Prop}, DAt u p st F → (∀ k, F k → v.heap[k]? = u.heap[k]?) → DAt v p st F
  new : ∀ (n : Nat) (u : World), 1 ≤ n → n ≤ 4096 → Calls Tryz.prog 10 #[.int .i64 (n : Int)] u fun e v => ∃ p F, e = .returned (.tuple #[.pointer (some ⟨p, 0, none⟩), .int .i64 0]) ∧ DAt v p (St.new n) F ∧ (∀ k, F k → u.heap.size ≤ k) ∧ Below u.heap.size u v
  newNot : ∀ (n : Int) (u : World), (-9223372036854775808 ≤ n ∧ n ≤ 9223372036854775807) → (n < 1 ∨ 4096 < n) → Calls Tryz.prog 10 #[.int .i64 n] u fun e v => e = .returned (.tuple #[.pointer none, .int .i64 2]) ∧ Below u.heap.size u v
  size : ∀ (p : Nat) (st : St) (F : Nat → Prop) (u : World), DAt u p st F → st.Ok → Calls Tryz.prog 58 #[.pointer (some ⟨p, 0, none⟩)] u fun e v => e = .returned (.int .i64 (st.sure.length : Int)) ∧ Below u.heap.size u v
  read : ∀ (p : Nat) (st : St) (F : Nat → Prop) (b : Int) (u : World), DAt u p st F → st.Ok → st.loose.length ≤ 10000 → (-9223372036854775808 ≤ b ∧ b ≤ 9223372036854775807) →
    Calls Tryz.prog 112 #[.pointer (some ⟨p, 0, none⟩), .int .i64 b] u fun e v => e = .returned (.tuple #[.string (st.read b).1, .int .i64 (((st.read b).2 : Nat) : Int)]) ∧ Below u.heap.size u v
  write : ∀ (p : Nat) (st : St) (F : Nat → Prop) (b : Int) (d : ByteArray) (u : World), DAt u p st F → st.Ok → st.loose.length ≤ 10000 → (-9223372036854775808 ≤ b ∧ b ≤ 9223372036854775807) → d.size ≤ 140737488351232 →
    Calls Tryz.prog 34 #[.pointer (some ⟨p, 0, none⟩), .int .i64 b, .string d] u fun e v => e = .returned (.int .i64 (((st.write b d).1 : Nat) : Int)) ∧ ∃ F', DAt v p (st.write b d).2 F' ∧ Loc F F' u v
  sync : ∀ (p : Nat) (st : St) (F : Nat → Prop) (u : World), DAt u p st F → st.Ok → st.loose.length ≤ 10000 →
    Calls Tryz.prog 54 #[.pointer (some ⟨p, 0, none⟩)] u fun e v => e = .returned (.int .i64 ((st.sync.1 : Nat) : Int)) ∧ ∃ F', DAt v p st.sync.2 F' ∧ Loc F F' u v
  fuse : ∀ (p : Nat) (st : St) (F : Nat → Prop) (n : Int) (u : World), DAt u p st F → st.Ok → (-9223372036854775808 ≤ n ∧ n ≤ 9223372036854775807) →
    Calls Tryz.prog 25 #[.pointer (some ⟨p, 0, none⟩), .int .i64 n] u fun e v => e = .returned (.int .i64 0) ∧ ∃ F', DAt v p (st.fuse n) F' ∧ Loc F F' u v
  crash : ∀ (p : Nat) (st : St) (F : Nat → Prop) (a : Option Addr) (c : Nat) (picks : List Int) (u : World), DAt u p st F → st.Ok → st.loose.length ≤ 10000 → IntsAt u a picks → Apart a picks F → picks.length ≤ 140737488351232 → (∀ x ∈ picks, -9223372036854775808 ≤ x ∧ x ≤ 9223372036854775807) →
    Calls Tryz.prog 26 #[.pointer (some ⟨p, 0, none⟩), .slice a picks.length c] u fun e v => e = .returned (.int .i64 0) ∧ ∃ F', DAt v p (st.crash picks) F' ∧ Loc F F' u v
  loose : ∀ (p : Nat) (st : St) (F : Nat → Prop) (u : World), DAt u p st F → st.Ok → st.loose.length ≤ 10000 →
    Calls Tryz.prog 16 #[.pointer (some ⟨p, 0, none⟩)] u fun e v => ∃ a c, e = .returned (.slice a st.loose.length c) ∧ IntsAt v a (st.loose.map fun w => (w.1 : Int)) ∧ Below u.heap.size u v
  sure : ∀ (p : Nat) (st : St) (F : Nat → Prop) (u : World), DAt u p st F → st.Ok →
    Calls Tryz.prog 14 #[.pointer (some ⟨p, 0, none⟩)] u fun e v => e = .returned (.string st.text) ∧ Below u.heap.size u v
  nread : ∀ (b : Int) (u : World), Calls Tryz.prog 112 #[.pointer none, .int .i64 b] u fun e v => e = .returned (.tuple #[.string ⟨#[]⟩, .int .i64 1]) ∧ Below u.heap.size u v
  nwrite : ∀ (b : Int) (s : ByteArray) (u : World), Calls Tryz.prog 34 #[.pointer none, .int .i64 b, .string s] u fun e v => e = .returned (.int .i64 1) ∧ Below u.heap.size u v
  nsync : ∀ (u : World), Calls Tryz.prog 54 #[.pointer none] u fun e v => e = .returned (.int .i64 1) ∧ Below u.heap.size u v
  nfuse : ∀ (n : Int) (u : World), Calls Tryz.prog 25 #[.pointer none, .int .i64 n] u fun e v => e = .returned (.int .i64 1) ∧ Below u.heap.size u v
  ncrash : ∀ (u : World), Calls Tryz.prog 26 #[.pointer none, .slice none 0 0] u fun e v => e = .returned (.int .i64 1) ∧ Below u.heap.size u v
  nsize : ∀ (u : World), Calls Tryz.prog 58 #[.pointer none] u fun e v => e = .returned (.int .i64 0) ∧ Below u.heap.size u v
  nloose : ∀ (u : World), Calls Tryz.prog 16 #[.pointer none] u fun e v => ∃ a c, e = .returned (.slice a 0 c) ∧ Below u.heap.size u v
  nsure : ∀ (u : World), Calls Tryz.prog 14 #[.pointer none] u fun e v => e = .returned (.string ⟨#[]⟩) ∧ Below u.heap.size u v
theorem Con.below {DAt : World → Nat → St → (Nat → Prop) → Prop} (C : Con DAt) {u v : World} {p : Nat} {st : St} {F : Nat → Prop} (h : DAt u p st F) (hb : Below u.heap.size u v) : DAt v p st F := C.same h (fun k hk => hb.block k (C.lt h k hk))

/-- The bytes of a list lie in block b, from its head on, and may be written. -/
def BytesAt (u : World) (b : Nat) (l : List UInt8) : Prop := ∀ j (hj : j < l.length), u.cell? ⟨b, j, none⟩ = some (.int .u8 ((l[j].toNat : Nat) : Int)) ∧ u.frozen? ⟨b, j, none⟩ = false
theorem BytesAt.set {u : World} {b : Nat} {l : List UInt8} (h : BytesAt u b l) (k v : Nat) (hk : k < l.length) (hv : v < 256) :
    BytesAt (u.setCell ⟨b, k, none⟩ (.int .u8 (v : Int))) b (l.set k (UInt8.ofNat v)) := by
  intro j hj
  have hj' : j < l.length := by simpa using hj
  refine ⟨?_, by rw [World.frozen?_setCell]; exact (h j hj').2⟩
  by_cases e : k = j
  · subst e
    rw [World.cell?_setCell_same _ _ _ (h k hk).1, List.getElem_set_self]
    rw [UInt8.toNat_ofNat', Nat.mod_eq_of_lt hv]
  · rw [World.cell?_setCell_other u ⟨b, k, none⟩ ⟨b, j, none⟩ _ (fun hh => e (congrArg Addr.off hh)), List.getElem_set_ne e]
    exact (h j hj').1
theorem free_of {u : World} {b : Nat} {cs : Array Value} {t : TypeId} (h : u.heap[b]? = some (.cells cs t (0, 0))) (j : Nat) : u.frozen? ⟨b, j, none⟩ = false := by simp [World.frozen?, h]
end Go.Proofs.YtchhojkhfdkhfaaGreatDoor
namespace Go.Proofs.YtchhojkhfdkhfaaGreatDoor
open Go Go.RowKit
/-- Are the blocks there? -/
abbrev St.may (st : St) (o n : Int) : Prop := 1 ≤ n ∧ 0 ≤ o ∧ o < (st.sure.length : Int) ∧ n ≤ (st.sure.length : Int) - o
end Go.Proofs.YtchhojkhfdkhfaaGreatDoor
namespace Go.Proofs.YtchhojkhfdkhfaaGreatDoor
open Go Go.RowKit
/-- The document's disk lies at block p, is st, and its blocks are F. -/
def RD (u : World) (p : Nat) (st : St) (F : Nat → Prop) : Prop := ∃ vS vL, F = RF p vS vL ∧ RAt u p vS vL st
theorem RD.lt {u : World} {p : Nat} {st : St} {F : Nat → Prop} (h : RD u p st F) : ∀ k, F k → k < u.heap.size := by
  obtain ⟨vS, vL, rfl, h⟩ := h
  exact h.lt
theorem RD.same {u v : World} {p : Nat} {st : St} {F : Nat → Prop} (h : RD u p st F) (hb : ∀ k, F k → v.heap[k]? = u.heap[k]?) : RD v p st F := by
  obtain ⟨vS, vL, rfl, h⟩ := h
  exact ⟨vS, vL, rfl, h.same hb⟩
theorem RD.below {u v : World} {p : Nat} {st : St} {F : Nat → Prop} (h : RD u p st F) (hb : Below u.heap.size u v) : RD v p st F := h.same (fun k hk => hb.block k (h.lt k hk))
theorem rd_write (p : Nat) (st : St) (F : Nat → Prop) (b : Int) (d : ByteArray) (u : World) (h : RD u p st F) (hok : st.Ok) (hl : st.loose.length ≤ 100000) :
    Calls Tryz.prog 35 #[.pointer (some ⟨p, 0, none⟩), .int .i64 b, .string d] u fun e v => e = .returned (.int .i64 (((st.write b d).1 : Nat) : Int)) ∧ ∃ F', RD v p (st.write b d).2 F' ∧ Loc F F' u v := by
  obtain ⟨vS, vL, rfl, h⟩ := h
  refine (rWrite p vS vL st b d u h hok hl).mono ?_
  rintro e v ⟨rfl, vL', h2, l2⟩
  exact ⟨rfl, _, ⟨vS, vL', rfl, h2⟩, l2⟩
theorem rd_sync (p : Nat) (st : St) (F : Nat → Prop) (u : World) (h : RD u p st F) (hok : st.Ok) (hl : st.loose.length ≤ 100000) :
    Calls Tryz.prog 97 #[.pointer (some ⟨p, 0, none⟩)] u fun e v => e = .returned (.int .i64 ((st.sync.1 : Nat) : Int)) ∧ ∃ F', RD v p st.sync.2 F' ∧ Loc F F' u v := by
  obtain ⟨vS, vL, rfl, h⟩ := h
  refine (rSync p vS vL st u h hok hl).mono ?_
  rintro e v ⟨rfl, vL', h2, l2⟩
  exact ⟨rfl, _, ⟨vS, vL', rfl, h2⟩, l2⟩
end Go.Proofs.YtchhojkhfdkhfaaGreatDoor
