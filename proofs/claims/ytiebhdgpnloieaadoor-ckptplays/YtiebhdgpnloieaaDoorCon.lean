/- What the laws ask of the program's disk: a structure of contracts. -/
import Derived.Test.YtiebhdgpnloieaaDoorGRef
namespace Go.Proofs.YtiebhdgpnloieaaDoor
open Go Go.RowKit

/-- DAt u p st F: the program's disk lies at block p, is st, and its blocks are F. -/
structure Con (DAt : World → Nat → St → (Nat → Prop) → Prop) : Prop where
  lt : ∀ {u : World} {p : Nat} {st : St} {F : Nat → Prop}, DAt u p st F → ∀ k, F k → k < u.heap.size
  same : ∀ {u v : World} {p : Nat} {st : St} {F : Nat → Prop}, DAt u p st F → (∀ k, F k → v.heap[k]? = u.heap[k]?) → DAt v p st F
  new : ∀ (n : Nat) (u : World), 1 ≤ n → n ≤ 4096 → Calls Tryd.prog 10 #[.int .i64 (n : Int)] u fun e v => ∃ p F, e = .returned (.tuple #[.pointer (some ⟨p, 0, none⟩), .int .i64 0]) ∧ DAt v p (St.new n) F ∧ (∀ k, F k → u.heap.size ≤ k) ∧ Below u.heap.size u v
  newNot : ∀ (n : Int) (u : World), (-9223372036854775808 ≤ n ∧ n ≤ 9223372036854775807) → (n < 1 ∨ 4096 < n) → Calls Tryd.prog 10 #[.int .i64 n] u fun e v => e = .returned (.tuple #[.pointer none, .int .i64 2]) ∧ Below u.heap.size u v
  size : ∀ (p : Nat) (st : St) (F : Nat → Prop) (u : World), DAt u p st F → st.Ok → Calls Tryd.prog 41 #[.pointer (some ⟨p, 0, none⟩)] u fun e v => e = .returned (.int .i64 (st.sure.length : Int)) ∧ Below u.heap.size u v
  read : ∀ (p : Nat) (st : St) (F : Nat → Prop) (b : Int) (u : World), DAt u p st F → st.Ok → st.loose.length ≤ 10000 → (-9223372036854775808 ≤ b ∧ b ≤ 9223372036854775807) →
    Calls Tryd.prog 63 #[.pointer (some ⟨p, 0, none⟩), .int .i64 b] u fun e v => e = .returned (.tuple #[.string (st.read b).1, .int .i64 (((st.read b).2 : Nat) : Int)]) ∧ Below u.heap.size u v
  write : ∀ (p : Nat) (st : St) (F : Nat → Prop) (b : Int) (d : ByteArray) (u : World), DAt u p st F → st.Ok → st.loose.length ≤ 10000 → (-9223372036854775808 ≤ b ∧ b ≤ 9223372036854775807) → d.size ≤ 140737488351232 →
    Calls Tryd.prog 25 #[.pointer (some ⟨p, 0, none⟩), .int .i64 b, .string d] u fun e v => e = .returned (.int .i64 (((st.write b d).1 : Nat) : Int)) ∧ ∃ F', DAt v p (st.write b d).2 F' ∧ Loc F F' u v
  sync : ∀ (p : Nat) (st : St) (F : Nat → Prop) (u : World), DAt u p st F → st.Ok → st.loose.length ≤ 10000 →
    Calls Tryd.prog 38 #[.pointer (some ⟨p, 0, none⟩)] u fun e v => e = .returned (.int .i64 ((st.sync.1 : Nat) : Int)) ∧ ∃ F', DAt v p st.sync.2 F' ∧ Loc F F' u v
  fuse : ∀ (p : Nat) (st : St) (F : Nat → Prop) (n : Int) (u : World), DAt u p st F → st.Ok → (-9223372036854775808 ≤ n ∧ n ≤ 9223372036854775807) →
    Calls Tryd.prog 18 #[.pointer (some ⟨p, 0, none⟩), .int .i64 n] u fun e v => e = .returned (.int .i64 0) ∧ ∃ F', DAt v p (st.fuse n) F' ∧ Loc F F' u v
  crash : ∀ (p : Nat) (st : St) (F : Nat → Prop) (a : Option Addr) (c : Nat) (picks : List Int) (u : World), DAt u p st F → st.Ok → st.loose.length ≤ 10000 → IntsAt u a picks → Apart a picks F → picks.length ≤ 140737488351232 → (∀ x ∈ picks, -9223372036854775808 ≤ x ∧ x ≤ 9223372036854775807) →
    Calls Tryd.prog 19 #[.pointer (some ⟨p, 0, none⟩), .slice a picks.length c] u fun e v => e = .returned (.int .i64 0) ∧ ∃ F', DAt v p (st.crash picks) F' ∧ Loc F F' u v
  loose : ∀ (p : Nat) (st : St) (F : Nat → Prop) (u : World), DAt u p st F → st.Ok → st.loose.length ≤ 10000 →
    Calls Tryd.prog 15 #[.pointer (some ⟨p, 0, none⟩)] u fun e v => ∃ a c, e = .returned (.slice a st.loose.length c) ∧ IntsAt v a (st.loose.map fun w => (w.1 : Int)) ∧ Below u.heap.size u v
  sure : ∀ (p : Nat) (st : St) (F : Nat → Prop) (u : World), DAt u p st F → st.Ok →
    Calls Tryd.prog 13 #[.pointer (some ⟨p, 0, none⟩)] u fun e v => e = .returned (.string st.text) ∧ Below u.heap.size u v
  nread : ∀ (b : Int) (u : World), Calls Tryd.prog 63 #[.pointer none, .int .i64 b] u fun e v => e = .returned (.tuple #[.string ⟨#[]⟩, .int .i64 1]) ∧ Below u.heap.size u v
  nwrite : ∀ (b : Int) (s : ByteArray) (u : World), Calls Tryd.prog 25 #[.pointer none, .int .i64 b, .string s] u fun e v => e = .returned (.int .i64 1) ∧ Below u.heap.size u v
  nsync : ∀ (u : World), Calls Tryd.prog 38 #[.pointer none] u fun e v => e = .returned (.int .i64 1) ∧ Below u.heap.size u v
  nfuse : ∀ (n : Int) (u : World), Calls Tryd.prog 18 #[.pointer none, .int .i64 n] u fun e v => e = .returned (.int .i64 1) ∧ Below u.heap.size u v
  ncrash : ∀ (u : World), Calls Tryd.prog 19 #[.pointer none, .slice none 0 0] u fun e v => e = .returned (.int .i64 1) ∧ Below u.heap.size u v
  nsize : ∀ (u : World), Calls Tryd.prog 41 #[.pointer none] u fun e v => e = .returned (.int .i64 0) ∧ Below u.heap.size u v
  nloose : ∀ (u : World), Calls Tryd.prog 15 #[.pointer none] u fun e v => ∃ a c, e = .returned (.slice a 0 c) ∧ Below u.heap.size u v
  nsure : ∀ (u : World), Calls Tryd.prog 13 #[.pointer none] u fun e v => e = .returned (.string ⟨#[]⟩) ∧ Below u.heap.size u v
theorem Con.below {DAt : World → Nat → St → (Nat → Prop) → Prop} (C : Con DAt) {u v : World} {p : Nat} {st : St} {F : Nat → Prop} (h : DAt u p st F) (hb : Below u.heap.size u v) : DAt v p st F := C.same h (fun k hk => hb.block k (C.lt h k hk))

/-- A block of one byte. -/
def fullT (c : Nat) : ByteArray := ⟨(List.replicate 256 (UInt8.ofNat c)).toArray⟩
theorem fullT_size (c : Nat) : (fullT c).size = 256 := by
  show (List.replicate 256 (UInt8.ofNat c)).toArray.size = 256
  rw [List.size_toArray, List.length_replicate]
/-- The bytes of a list lie in block b, from its head on, and may be written. -/
def BytesAt (u : World) (b : Nat) (l : List UInt8) : Prop := ∀ j (hj : j < l.length), u.cell? ⟨b, j, none⟩ = some (.int .u8 ((l[j].toNat : Nat) : Int)) ∧ u.frozen? ⟨b, j, none⟩ = false
theorem BytesAt.set {u : World} {b : Nat} {l : List UInt8} (h : BytesAt u b l) (k v : Nat) (hk : k < l.length) (hv : v < 256) :
    BytesAt (u.setCell ⟨b, k, none⟩ (.int .u8 (v : Int))) b (l.set k (UInt8.ofNat v)) := by
  intro j hj
  have hj' : j < l.length := by simpa using hj
  refine ⟨?_, by rw [World.frozen?_setCell]; exact (h j hj').2⟩
  by_cases e : k = j
  · subst e
    rw [World.cell?_setCell_same _ _ _ (h k hk).1, List.getElem_set_self]
    rw [UInt8.toNat_ofNat', Nat.mod_eq_of_lt hv]
  · rw [World.cell?_setCell_other u ⟨b, k, none⟩ ⟨b, j, none⟩ _ (fun hh => e (congrArg Addr.off hh)), List.getElem_set_ne e]
    exact (h j hj').1
theorem fill_next (c : UInt8) (k : Nat) (h : k < 256) : (List.replicate k c ++ List.replicate (256 - k) 0).set k c = List.replicate (k + 1) c ++ List.replicate (256 - (k + 1)) 0 := by
  rw [List.set_append_right _ _ (by rw [List.length_replicate]; exact Nat.le_refl _), List.length_replicate, Nat.sub_self, show 256 - k = (256 - (k + 1)) + 1 from by omega, List.replicate_succ, List.set_cons_zero, List.replicate_succ', List.append_assoc]
  rfl
theorem free_of {u : World} {b : Nat} {cs : Array Value} {t : TypeId} (h : u.heap[b]? = some (.cells cs t (0, 0))) (j : Nat) : u.frozen? ⟨b, j, none⟩ = false := by simp [World.frozen?, h]
end Go.Proofs.YtiebhdgpnloieaaDoor
