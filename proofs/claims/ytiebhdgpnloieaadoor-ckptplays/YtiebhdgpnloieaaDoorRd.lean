/- The document's own checkpoints: what a slot's blocks tell. -/
import Derived.Test.YtiebhdgpnloieaaDoorRb
import Derived.Test.YtiebhdgpnloieaaDoorRc
import Derived.Test.YtiebhdgpnloieaaDoorCl
namespace Go.Proofs.YtiebhdgpnloieaaDoor
open Go Go.RowKit Frm
/-- Texts that lie at an address. -/
def TextsAt (w : World) (b off : Nat) (l : List ByteArray) : Prop := ∀ j (hj : j < l.length), w.cell? ⟨b, off + j, none⟩ = some (.string l[j])
/-- Are bytes all 0 from one on? -/
def zfrom (b : ByteArray) (i j : Nat) : Prop := ∀ k, i ≤ k → k < j → byteAt b k = some 0
theorem joined_split (l : List ByteArray) (k : Nat) : joined l = joined (l.take k) ++ joined (l.drop k) := by
  have h : ∀ (m : List ByteArray) (s : ByteArray), m.foldl (fun s t => s ++ t) s = s ++ joined m := by
    intro m
    induction m with
    | nil => intro s; show s = s ++ noText; exact (ByteArray.append_empty).symm
    | cons x m ih =>
      intro s
      rw [List.foldl_cons, ih, show joined (x :: m) = x ++ joined m from by unfold joined; rw [List.foldl_cons, ih]; show (noText ++ x) ++ _ = _; rw [show noText ++ x = x from ByteArray.empty_append]; rfl, ByteArray.append_assoc]
  conv => lhs; rw [← List.take_append_drop k l]
  unfold joined
  rw [List.foldl_append, h]
  rfl
set_option maxRecDepth 20000 in
/-- What the document's way finds: all bytes behind the head, joined. -/
theorem whole_way (l : List ByteArray) (odd : Nat) (h : ByteArray) (hl0 : l.getD 0 noText = h) (hf : ∀ t ∈ l, t.size = 256) (g n : Nat) (hg : numL (h.data.toList.take 8) = g) (hn : numL ((h.data.toList.drop 8).take 4) = n) (hle : n ≤ (l.length - 1) * 256) (hok : ¬ (g < 1 ∨ 4611686018427387904 < g ∨ g % 2 ≠ odd)) :
    (h = headT g ((joined (l.drop 1)).extract 0 n) ∧ zfrom (joined (l.drop 1)) n (nb n * 256) → wholeT l odd = (g, (joined (l.drop 1)).extract 0 n)) ∧
    (¬ (h = headT g ((joined (l.drop 1)).extract 0 n) ∧ zfrom (joined (l.drop 1)) n (nb n * 256)) → wholeT l odd = (0, noText)) := by
  have hnb : nb n ≤ l.length - 1 := by unfold nb; omega
  have hnb2 : n ≤ nb n * 256 := by unfold nb; omega
  have hsz : (joined ((l.drop 1).take (nb n))).size = nb n * 256 := by
    rw [joined_size _ (fun t ht => hf t (List.mem_of_mem_drop (List.mem_of_mem_take ht))), List.length_take, List.length_drop, Nat.min_eq_left hnb, Nat.mul_comm]
  have hsp := joined_split (l.drop 1) (nb n)
  have hall : (joined (l.drop 1)).size = (l.length - 1) * 256 := by
    rw [joined_size _ (fun t ht => hf t (List.mem_of_mem_drop ht)), List.length_drop, Nat.mul_comm]
  have hat : ∀ k, k < nb n * 256 → byteAt (joined (l.drop 1)) k = byteAt (joined ((l.drop 1).take (nb n))) k := fun k hk => by
    rw [hsp, byteAt_append_left (by omega)]
  have hex : (joined (l.drop 1)).extract 0 n = (joined ((l.drop 1).take (nb n))).extract 0 n := by
    refine bytes_ext (by rw [ByteArray.size_extract, ByteArray.size_extract]; omega) (fun j hj => ?_)
    rw [ByteArray.size_extract] at hj
    have e : ∀ (b : ByteArray), n ≤ b.size → byteAt (b.extract 0 n) j = byteAt b j := fun b hb => by
      unfold byteAt
      rw [ByteArray.data_extract, Array.getElem?_extract, if_pos (by have : b.data.size = b.size := rfl; omega), Nat.zero_add]
    rw [e _ (by omega), e _ (by omega), hat j (by omega)]
  have hz : zfrom (joined (l.drop 1)) n (nb n * 256) ↔ (joined ((l.drop 1).take (nb n))).extract n (joined ((l.drop 1).take (nb n))).size = zs ((joined ((l.drop 1).take (nb n))).size - n) := by
    rw [hsz]
    generalize joined ((l.drop 1).take (nb n)) = b at *
    have e : ∀ j, j < nb n * 256 - n → byteAt (b.extract n (nb n * 256)) j = byteAt b (n + j) := fun j hj => by
      unfold byteAt
      rw [ByteArray.data_extract, Array.getElem?_extract, if_pos (by have : b.data.size = b.size := rfl; omega)]
    constructor
    · intro hz
      refine bytes_ext (by rw [ByteArray.size_extract, zs_size]; omega) (fun j hj => ?_)
      rw [ByteArray.size_extract] at hj
      rw [e j (by omega), byteAt_zs _ _ (by omega), ← hat _ (by omega)]
      exact hz _ (by omega) (by omega)
    · intro he k h1 h2
      have := e (k - n) (by omega)
      rw [he, byteAt_zs _ _ (by omega), show n + (k - n) = k from by omega] at this
      rw [hat k h2]
      exact this.symm
  rw [whole_eq l odd h hl0, hg, hn, if_neg (by omega), ← hex]
  constructor
  · intro hh
    rw [if_pos ⟨hh.1, hz.1 hh.2⟩]
  · intro hh
    rw [if_neg (fun x => hh ⟨x.1, hz.2 x.2⟩)]
end Go.Proofs.YtiebhdgpnloieaaDoor
