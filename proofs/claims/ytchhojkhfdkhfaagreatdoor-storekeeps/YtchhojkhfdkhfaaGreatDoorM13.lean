/- A buffer of bytes of the call's own, whatever mark its block bears: appending one byte. Buffers of bytes: where they begin, what text they are; what Block makes. -/
import Derived.Test.YtchhojkhfdkhfaaGreatDoorM04
import Derived.Test.YtchhojkhfdkhfaaGreatDoorM00
import Derived.Deep.Onto
import Derived.Deep.AppendLies
namespace Go.Proofs.YtchhojkhfdkhfaaGreatDoor
open Go Go.RowKit Frm
/-- A buffer that lies at B or later: its bytes; its spare cells may be written. -/
def Buf (B : Nat) (w0 u : World) (v : Value) (n : Nat) (l : List Value) : Prop :=
  ∃ g cap, v = .slice (some ⟨g, 0, none⟩) n cap ∧ B ≤ g ∧ g < u.heap.size ∧ n ≤ cap ∧ l.length = n ∧ (∀ j x, l[j]? = some x → u.cell? ⟨g, j, none⟩ = some x) ∧
    (∀ j, n ≤ j → j < cap → (u.cell? ⟨g, j, none⟩).isSome = true ∧ u.frozen? ⟨g, j, none⟩ = false) ∧ Below B w0 u
theorem Buf.form {B : Nat} {w0 u : World} {v : Value} {n : Nat} {l : List Value} (h : Buf B w0 u v n l) : ∃ g cap, v = .slice (some ⟨g, 0, none⟩) n cap := by
  obtain ⟨g, cap, h1, _⟩ := h
  exact ⟨g, cap, h1⟩
theorem Buf.alloc {B : Nat} {w0 u : World} {v : Value} {n : Nat} {l : List Value} (h : Buf B w0 u v n l) (hB : B ≤ u.heap.size) (o : Obj) : Buf B w0 (u.alloc o) v n l := by
  obtain ⟨g, cap, h1, h2, h3, h4, h5, h6, h7, h8⟩ := h
  have hb : (u.alloc o).heap[g]? = u.heap[g]? := Below.heap_alloc u o g h3
  refine ⟨g, cap, h1, h2, by simp; omega, h4, h5, fun j x hx => ?_, fun j a b => ?_, h8.alloc hB o⟩
  · rw [World.cell?_of_block (a := ⟨g, j, none⟩) hb]; exact h6 j x hx
  · rw [World.cell?_of_block (a := ⟨g, j, none⟩) hb, World.frozen?_of_block (a := ⟨g, j, none⟩) hb]; exact h7 j a b
theorem Buf.own {B C : Nat} {w0 u : World} {v : Value} {n : Nat} {l : List Value} (h : u.ownsRow C 5 1 v n l) (hn : 0 < n) (hC : B ≤ C) (hb : Below B w0 u) : Buf B w0 u v n l := by
  rcases h.2 with ⟨_, h0⟩ | ⟨g, cap, cur, rfl, hg, hh, hc, _, hs, ht⟩
  · omega
  · have hlt := (Array.getElem?_eq_some_iff.1 hh).1
    have hl := h.1
    rw [Nat.mul_one] at hs ht hl
    refine ⟨g, cap, rfl, by omega, hlt, hc, hl, fun j x hx => ?_, fun j a b => ?_, hb⟩
    · have hj : j < l.length := (List.getElem?_eq_some_iff.1 hx).1
      rw [← ht, List.getElem?_take_of_lt (by omega)] at hx
      simp only [World.cell?, hh]
      simpa using hx
    · simp [World.cell?, World.frozen?, hh]
      omega
end Go.Proofs.YtchhojkhfdkhfaaGreatDoor
namespace Go.Proofs.YtchhojkhfdkhfaaGreatDoor
open Go Go.RowKit Frm
def lenOf : Value → Nat
  | .slice _ n _ => n
  | _ => 0
theorem Buf.size {B : Nat} {w0 u : World} {v : Value} {n : Nat} {l : List Value} (h : Buf B w0 u v n l) : B ≤ u.heap.size := by
  obtain ⟨g, cap, _, h2, h3, _⟩ := h
  omega
theorem Buf.below {B : Nat} {w0 u : World} {v : Value} {n : Nat} {l : List Value} (h : Buf B w0 u v n l) : Below B w0 u := by
  obtain ⟨g, cap, _, _, _, _, _, _, _, h8⟩ := h
  exact h8
/-- What Block makes. -/
theorem blk_list (s : ByteArray) (k lo hi : Nat) (hlo : lo = min (k * 255) s.size) (hhi : hi = min (lo + 255) s.size) : (⟨((s.extract lo hi).data.toList ++ List.replicate (255 - (hi - lo)) 0 ++ [UInt8.ofNat (hi - lo)]).toArray⟩ : ByteArray) = blkOf s k := by
  have h1 : hi - lo = cnt k s.size := by unfold cnt; omega
  have h2 : s.extract lo hi = s.extract (k * 255) (k * 255 + 255) := by
    by_cases e : k * 255 ≤ s.size
    · refine bytes_ext (by rw [ByteArray.size_extract, ByteArray.size_extract]; omega) (fun j hj => ?_)
      rw [ByteArray.size_extract] at hj
      by_cases e2 : k * 255 + 255 ≤ s.size
      · rw [show lo = k * 255 from by omega, show hi = k * 255 + 255 from by omega]
      · apply congrArg (byteAt · j)
        apply ByteArray.ext
        rw [ByteArray.data_extract, ByteArray.data_extract, show lo = k * 255 from by omega]
        apply Array.ext
        · have : s.data.size = s.size := rfl
          simp; omega
        · intro i a b; simp
    · refine bytes_ext (by rw [ByteArray.size_extract, ByteArray.size_extract]; omega) (fun j hj => ?_)
      rw [ByteArray.size_extract] at hj
      omega
  unfold blkOf
  rw [h1, h2]
  apply ByteArray.ext
  rw [ByteArray.data_append, ByteArray.data_append]
  unfold zs oneB
  simp
end Go.Proofs.YtchhojkhfdkhfaaGreatDoor
