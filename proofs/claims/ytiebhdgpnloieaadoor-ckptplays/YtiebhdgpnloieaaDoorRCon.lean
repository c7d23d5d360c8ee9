/- The document's own disk by its footprint: contracts in the form of the program's. -/
import Derived.Test.YtiebhdgpnloieaaDoorGRef
namespace Go.Proofs.YtiebhdgpnloieaaDoor
open Go Go.RowKit
/-- The document's disk lies at block p, is st, and its blocks are F. -/
def RD (u : World) (p : Nat) (st : St) (F : Nat → Prop) : Prop := ∃ vS vL, F = RF p vS vL ∧ RAt u p vS vL st
theorem RD.lt {u : World} {p : Nat} {st : St} {F : Nat → Prop} (h : RD u p st F) : ∀ k, F k → k < u.heap.size := by
  obtain ⟨vS, vL, rfl, h⟩ := h
  exact h.lt
theorem RD.same {u v : World} {p : Nat} {st : St} {F : Nat → Prop} (h : RD u p st F) (hb : ∀ k, F k → v.heap[k]? = u.heap[k]?) : RD v p st F := by
  obtain ⟨vS, vL, rfl, h⟩ := h
  exact ⟨vS, vL, rfl, h.same hb⟩
theorem RD.below {u v : World} {p : Nat} {st : St} {F : Nat → Prop} (h : RD u p st F) (hb : Below u.heap.size u v) : RD v p st F := h.same (fun k hk => hb.block k (h.lt k hk))
theorem rd_write (p : Nat) (st : St) (F : Nat → Prop) (b : Int) (d : ByteArray) (u : World) (h : RD u p st F) (hok : st.Ok) (hl : st.loose.length ≤ 100000) :
    Calls Tryd.prog 27 #[.pointer (some ⟨p, 0, none⟩), .int .i64 b, .string d] u fun e v => e = .returned (.int .i64 (((st.write b d).1 : Nat) : Int)) ∧ ∃ F', RD v p (st.write b d).2 F' ∧ Loc F F' u v := by
  obtain ⟨vS, vL, rfl, h⟩ := h
  refine (rWrite p vS vL st b d u h hok hl).mono ?_
  rintro e v ⟨rfl, vL', h2, l2⟩
  exact ⟨rfl, _, ⟨vS, vL', rfl, h2⟩, l2⟩
theorem rd_sync (p : Nat) (st : St) (F : Nat → Prop) (u : World) (h : RD u p st F) (hok : st.Ok) (hl : st.loose.length ≤ 100000) :
    Calls Tryd.prog 46 #[.pointer (some ⟨p, 0, none⟩)] u fun e v => e = .returned (.int .i64 ((st.sync.1 : Nat) : Int)) ∧ ∃ F', RD v p st.sync.2 F' ∧ Loc F F' u v := by
  obtain ⟨vS, vL, rfl, h⟩ := h
  refine (rSync p vS vL st u h hok hl).mono ?_
  rintro e v ⟨rfl, vL', h2, l2⟩
  exact ⟨rfl, _, ⟨vS, vL', rfl, h2⟩, l2⟩
theorem rd_read (p : Nat) (st : St) (F : Nat → Prop) (b : Int) (u : World) (h : RD u p st F) (hok : st.Ok) (hl : st.loose.length ≤ 100000) :
    Calls Tryd.prog 28 #[.pointer (some ⟨p, 0, none⟩), .int .i64 b] u fun e v => e = .returned (.tuple #[.string (st.read b).1, .int .i64 (((st.read b).2 : Nat) : Int)]) ∧ v = u := by
  obtain ⟨vS, vL, rfl, h⟩ := h
  exact rRead p vS vL st b u h hok hl
theorem rd_fuse (p : Nat) (st : St) (F : Nat → Prop) (n : Int) (u : World) (h : RD u p st F) (hn : n ≤ 9223372036854775807) :
    Calls Tryd.prog 24 #[.pointer (some ⟨p, 0, none⟩), .int .i64 n] u fun e v => (∃ x, e = .returned x) ∧ RD v p (st.fuse n) F ∧ Loc F F u v := by
  obtain ⟨vS, vL, rfl, h⟩ := h
  refine (rFuse p vS vL st n u h hn).mono ?_
  rintro e v ⟨he, h2, l2⟩
  exact ⟨he, ⟨vS, vL, rfl, h2⟩, l2⟩
theorem rd_sure (p : Nat) (st : St) (F : Nat → Prop) (u : World) (h : RD u p st F) (hok : st.Ok) :
    Calls Tryd.prog 14 #[.pointer (some ⟨p, 0, none⟩)] u fun e v => e = .returned (.string st.text) ∧ v = u := by
  obtain ⟨vS, vL, rfl, h⟩ := h
  exact rSure p vS vL st u h hok
theorem rd_crash (p : Nat) (st : St) (F : Nat → Prop) (a : Option Addr) (c : Nat) (picks : List Int) (u : World) (h : RD u p st F) (hok : st.Ok) (hl : st.loose.length ≤ 100000) (hP : IntsAt u a picks) (hap : Apart a picks F) (hpl : picks.length ≤ 140737488351232) :
    Calls Tryd.prog 23 #[.pointer (some ⟨p, 0, none⟩), .slice a picks.length c] u fun e v => (∃ x, e = .returned x) ∧ ∃ F', RD v p (st.crash picks) F' ∧ Loc F F' u v := by
  obtain ⟨vS, vL, rfl, h⟩ := h
  refine (rCrash p vS vL st a c picks u h hok hl hP hap hpl).mono ?_
  rintro e v ⟨he, vL', h2, l2⟩
  exact ⟨he, _, ⟨vS, vL', rfl, h2⟩, l2⟩
theorem rd_new (n : Nat) (u : World) (h1 : 1 ≤ n) (h2 : n ≤ 4096) :
    Calls Tryd.prog 11 #[.int .i64 (n : Int)] u fun e v => ∃ p F, e = .returned (.tuple #[.pointer (some ⟨p, 0, none⟩), .int .i64 0]) ∧ RD v p (St.new n) F ∧ (∀ k, F k → u.heap.size ≤ k) ∧ Below u.heap.size u v := by
  refine (rNew n u h1 h2).mono ?_
  rintro e v ⟨p, vS, rfl, h, _, hF, hb⟩
  exact ⟨p, _, rfl, ⟨vS, _, rfl, h⟩, hF, hb⟩
end Go.Proofs.YtiebhdgpnloieaaDoor
