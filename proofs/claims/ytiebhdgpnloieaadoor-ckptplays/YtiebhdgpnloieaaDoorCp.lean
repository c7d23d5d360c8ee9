/- Checkpoints, plain: numbers as bytes, heads, a text's blocks. -/
import Derived.Test.YtiebhdgpnloieaaDoorGPlain
import Derived.Test.YtiebhdgpnloieaaDoorGFrm
namespace Go.Proofs.YtiebhdgpnloieaaDoor
open Frm

/-- n bytes 0. -/
def zs (n : Nat) : ByteArray := ⟨(List.replicate n 0).toArray⟩
theorem zs_size (n : Nat) : (zs n).size = n := by
  show (List.replicate n (0 : UInt8)).toArray.size = n
  rw [List.size_toArray, List.length_replicate]
theorem byteAt_zs (n j : Nat) (h : j < n) : byteAt (zs n) j = some 0 := by
  unfold byteAt zs
  simp [h]
theorem bytes_ext {s t : ByteArray} (hs : s.size = t.size) (h : ∀ j, j < s.size → byteAt s j = byteAt t j) : s = t := by
  apply ByteArray.ext
  apply Array.ext hs
  intro i h1 h2
  have := h i h1
  unfold byteAt at this
  rw [Array.getElem?_eq_getElem h1, Array.getElem?_eq_getElem h2] at this
  exact Option.some.inj this
/-- The i-th byte of a number, the lowest first. -/
def lowAt (x i : Nat) : UInt8 := UInt8.ofNat (x / 256 ^ i % 256)
theorem lowAt_toNat (x i : Nat) : (lowAt x i).toNat = x / 256 ^ i % 256 := by
  unfold lowAt
  rw [UInt8.toNat_ofNat', Nat.mod_eq_of_lt (by omega)]
/-- A number's bytes. -/
def lowL (x n : Nat) : List UInt8 := (List.range n).map (lowAt x)
theorem lowL_length (x n : Nat) : (lowL x n).length = n := by unfold lowL; simp
theorem lowL_succ (x n : Nat) : lowL x (n + 1) = lowL x n ++ [lowAt x n] := by unfold lowL; rw [List.range_succ, List.map_append]; rfl
/-- The number that bytes say. -/
def numL : List UInt8 → Nat
  | [] => 0
  | a :: l => a.toNat + 256 * numL l
theorem numL_snoc : ∀ (l : List UInt8) (a : UInt8), numL (l ++ [a]) = numL l + a.toNat * 256 ^ l.length
  | [], a => by simp [numL]
  | b :: l, a => by
    rw [List.cons_append]
    unfold numL
    rw [numL_snoc l a, List.length_cons, Nat.pow_succ, Nat.mul_add, Nat.mul_left_comm, Nat.mul_comm (256 ^ l.length) 256]
    omega
theorem numL_lt : ∀ (l : List UInt8), numL l < 256 ^ l.length
  | [] => by simp [numL]
  | a :: l => by
    have h := numL_lt l
    have ha := a.toNat_lt
    unfold numL
    rw [List.length_cons, Nat.pow_succ]
    omega
theorem numL_low : ∀ (n x : Nat), numL (lowL x n) = x % 256 ^ n
  | 0, x => by show numL [] = _; rw [Nat.pow_zero, Nat.mod_one]; rfl
  | n + 1, x => by
    rw [lowL_succ, numL_snoc, numL_low n x, lowL_length, lowAt_toNat, Nat.pow_succ, Nat.mod_mul]
    rw [Nat.mul_comm]
/-- Bytes that are lower, and less: a number of which the lowest bytes are made 0 is not greater. -/
theorem numL_zeroed : ∀ (l : List UInt8) (c : Nat), numL (List.replicate (min c l.length) 0 ++ l.drop c) ≤ numL l
  | [], c => by simp
  | a :: l, 0 => by simp
  | a :: l, c + 1 => by
    have h := numL_zeroed l c
    rw [List.length_cons, show min (c + 1) (l.length + 1) = min c l.length + 1 from by omega, List.replicate_succ, List.cons_append, List.drop_succ_cons]
    unfold numL
    have : (0 : UInt8).toNat = 0 := rfl
    omega
/-- The sum of a text. -/
def sumT (t : ByteArray) : Nat := more 0 (bytesOf t)
theorem sumT_lt (t : ByteArray) : sumT t < 4294967296 := more_lt (by omega) t
/-- The head of a number and a text. -/
def headL (g : Nat) (t : ByteArray) : List UInt8 := lowL g 8 ++ lowL t.size 4 ++ lowL (sumT t) 4 ++ List.replicate 239 0 ++ [165]
def headT (g : Nat) (t : ByteArray) : ByteArray := ⟨(headL g t).toArray⟩
theorem headL_length (g : Nat) (t : ByteArray) : (headL g t).length = 256 := by
  unfold headL
  rw [List.length_append, List.length_append, List.length_append, List.length_append, lowL_length, lowL_length, lowL_length, List.length_replicate]
  rfl
theorem headT_size (g : Nat) (t : ByteArray) : (headT g t).size = 256 := by
  show (headL g t).toArray.size = 256
  rw [List.size_toArray, headL_length]
/-- How many blocks so many bytes have. -/
def nb (n : Nat) : Nat := (n + 255) / 256
/-- The k-th block of a text. -/
def blkT (t : ByteArray) (k : Nat) : ByteArray := t.extract (k * 256) (k * 256 + 256) ++ zs (256 - min 256 (t.size - k * 256))
theorem cutT_size (t : ByteArray) (k : Nat) : (t.extract (k * 256) (k * 256 + 256)).size = min 256 (t.size - k * 256) := by
  rw [ByteArray.size_extract]; omega
theorem blkT_size (t : ByteArray) (k : Nat) : (blkT t k).size = 256 := by
  unfold blkT
  rw [ByteArray.size_append, cutT_size, zs_size]
  omega
theorem blkT_data (t : ByteArray) (k j : Nat) (hj : j < 256) (h : k * 256 + j < t.size) : byteAt (blkT t k) j = byteAt t (k * 256 + j) := by
  unfold blkT
  rw [byteAt_append_left (by rw [cutT_size]; omega)]
  unfold byteAt
  rw [ByteArray.data_extract, Array.getElem?_extract, if_pos (by have : t.data.size = t.size := rfl; omega)]
theorem blkT_rest (t : ByteArray) (k j : Nat) (hj : j < 256) (h : t.size ≤ k * 256 + j) : byteAt (blkT t k) j = some 0 := by
  unfold blkT
  rw [byteAt_append_right (by rw [cutT_size]; omega), cutT_size]
  exact byteAt_zs _ _ (by omega)
/-- How many bytes a text may have. -/
def room (n : Int) : Int := if n < 4 ∨ 4096 < n ∨ n % 2 ≠ 0 then 0 else (n / 2 - 1) * 256
theorem room_pos {n : Int} (h : room n ≠ 0) : 4 ≤ n ∧ n ≤ 4096 ∧ n % 2 = 0 ∧ room n = (n / 2 - 1) * 256 := by
  unfold room at *
  split at h
  · exact absurd rfl h
  · rename_i h1
    rw [if_neg h1]
    omega
/-- May the blocks be, and are they there? -/
abbrev St.mayC (st : St) (o n : Int) : Prop := room n ≠ 0 ∧ 0 ≤ o ∧ o ≤ (st.sure.length : Int) - n
/-- First the one; if it went well, the other. -/
def andT (r : Nat × St) (f : St → Nat × St) : Nat × St := if r.1 = 0 then f r.2 else r
/-- Blocks of a text, from the i-th on, so many: up to the first error. -/
def putsT (o : Nat) (t : ByteArray) : Nat → Nat → St → Nat × St
  | 0, _, st => (0, st)
  | n + 1, i, st => andT (st.write ((o + i : Nat) : Int) (blkT t i)) (putsT o t n (i + 1))
/-- A text is saved in the slot at block a. -/
def saveAt (a : Nat) (g : Nat) (t : ByteArray) (st : St) : Nat × St :=
  andT (andT (andT (andT (andT (st.write (a : Int) zblock) St.sync) (putsT (a + 1) t (nb t.size) 0)) St.sync) (fun s => s.write (a : Int) (headT g t))) St.sync
/-- Where the slot of a number begins. -/
def slotAt (o n : Int) (g : Nat) : Nat := o.toNat + g % 2 * (n.toNat / 2)
/-- Save. -/
def St.save (st : St) (o n : Int) (g : Nat) (t : ByteArray) : Nat × St :=
  if ¬ st.mayC o n then (2, st) else if g < 1 ∨ 4611686018427387904 < g then (2, st) else if room n < (t.size : Int) then (4, st) else saveAt (slotAt o n g) g t st
/-- What a slot's blocks tell: the number (0: they are not whole), the text. -/
def wholeT (l : List ByteArray) (odd : Nat) : Nat × ByteArray :=
  let h := l.getD 0 noText
  let g := numL (h.data.toList.take 8)
  let n := numL ((h.data.toList.drop 8).take 4)
  if g < 1 ∨ 4611686018427387904 < g ∨ g % 2 ≠ odd ∨ (l.length - 1) * 256 < n then (0, noText)
  else
    let b := joined ((l.drop 1).take (nb n))
    if h = headT g (b.extract 0 n) ∧ b.extract n b.size = zs (b.size - n) then (g, b.extract 0 n) else (0, noText)
/-- The blocks of a disk from a on. -/
def blocksAt (st : St) (a k : Nat) : List ByteArray := (List.range k).map fun i => stands st.sure (a + i) st.loose.reverse
/-- Load. -/
def St.load (st : St) (o n : Int) : (Nat × ByteArray) × Nat :=
  if ¬ st.mayC o n then ((0, noText), 2) else if st.left = 0 then ((0, noText), 50)
  else
    let a := wholeT (blocksAt st (slotAt o n 0) (n.toNat / 2)) 0
    let b := wholeT (blocksAt st (slotAt o n 1) (n.toNat / 2)) 1
    if a.1 = 0 ∧ b.1 = 0 then ((0, noText), 5) else if b.1 < a.1 then (a, 0) else (b, 0)
end Go.Proofs.YtiebhdgpnloieaaDoor
