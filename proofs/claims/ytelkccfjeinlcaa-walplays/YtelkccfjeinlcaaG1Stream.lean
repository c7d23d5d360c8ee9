/- Package wal's streamOf, by the library's own builder. -/
import Derived.Test.YtelkccfjeinlcaaG1ReadOn
import Derived.Shelf.Strings.Builder2
namespace Go.Proofs.Ytelkccfjeinlcaa
open Go Go.RowKit Frm Go.Shelf
def bldRen2 : Ren := ⟨fun x => if x = 165 then 35 else if x = 166 then 69 else if x = 169 then 37 else if x = 240 then 64 else if x = 241 then 65 else if x = 276 then 82 else if x = 277 then 83 else x, fun t => if t = 72 then 77 else if t = 70 then 75 else if t = 37 then 65 else if t = 75 then 81 else if t = 80 then 41 else if t = 164 then 136 else if t = 127 then 118 else t, fun g => g⟩
theorem lays166 : Lays.n166 Try.prog bldRen2 := by
  constructor <;> first | kernel_rfl | (intro w; kernel_rfl)
theorem lays169b : Lays.n169 Try.prog bldRen2 := by
  constructor <;> first | kernel_rfl | (intro w; kernel_rfl)
theorem bldX2 : Builder.Extra Try.prog bldRen2 := by
  constructor
  · constructor <;> kernel_rfl
  all_goals first | kernel_rfl | (intro w; kernel_rfl) | decide
theorem bWriteString (b : Nat) (bs : List Value) (s : ByteArray) (w : World) (h : Lib.IsBuilder 77 5 b b bs w) (hlen : bs.length + s.size ≤ 140737488355328) (hBw : b ≤ w.heap.size) :
    Calls Try.prog 69 #[.pointer (some ⟨b, 0, none⟩), .string s] w fun e w' => e = .returned (.tuple #[.int .i64 s.size, .nilIface]) ∧ (Lib.BuilderAt 77 5 b b (.pointer (some ⟨b, 0, none⟩)) (bs ++ Lib.strCells s) w' ∧ Below b w w') := Any.Builder_WriteString lays166 bldX2 b b bs s w h hlen hBw
theorem bString2 (b : Nat) (l : List UInt8) (w : World) (h : Lib.IsBuilder 77 5 b b (Lib.byteCells l) w) (hBw : b ≤ w.heap.size) :
    Calls Try.prog 37 #[.pointer (some ⟨b, 0, none⟩)] w fun e w' => e = .returned (.string ⟨l.toArray⟩) ∧ Below b w w' := Any.Builder_String_any lays169b bldX2 b b l w h hBw
theorem new_builder (w : World) : Lib.IsBuilder 77 5 w.heap.size w.heap.size [] (w.alloc (.cells #[.pointer none, .slice none 0 0] 77)) :=
  Or.inl ⟨Nat.le_refl _, .slice none 0 0, World.alloc_heap_new w _, World.ownsRow_nil _ _ _ _, by simp [Value.ownBlock]⟩
theorem bc_app (a b : List UInt8) : Lib.byteCells a ++ Lib.byteCells b = Lib.byteCells (a ++ b) := by unfold Lib.byteCells; rw [List.map_append]
theorem heads_take (l : List ByteArray) (k : Nat) (h : k < l.length) : (heads (l.take (k + 1))).data.toList = (heads (l.take k)).data.toList ++ (l[k].extract 0 (countOf l[k])).data.toList := by
  rw [take_snoc h, heads_append]
  show (heads (List.take k l) ++ (l[k].extract 0 (countOf l[k]) ++ noText)).data.toList = _
  rw [ByteArray.data_append, ByteArray.data_append]
  simp [noText]
set_option maxRecDepth 10000 in
set_option maxHeartbeats 2000000 in
theorem stream_any (l : List ByteArray) (a : Option Addr) (c : Nat) (w : World) (hl : StrsAt w a l) (h256 : ∀ b ∈ l, b.size = 256) (hn : l.length ≤ 4096) :
    Calls Try.prog 42 #[.slice a l.length c] w fun e w' => e = .returned (.string (heads l)) ∧ Below w.heap.size w w' := by
  have HNB := hide (new_builder w)
  have HB0 := hide ((Below.refl w.heap.size w).alloc (Nat.le_refl _) (.cells #[.pointer none, .slice none 0 0] 77))
  have HL := hide hl
  have H256 := hide h256
  clear hl h256
  go_enter Try.func42, Try.ntmps42
  go_wp2_with fail
  generalize w.alloc (.cells #[.pointer none, .slice none 0 0] 77) = W at *
  go_loopw [5, 8] (fun _ i wr => ∃ k : Nat, k ≤ l.length ∧ i = .int .i64 (k : Int) ∧ Lib.IsBuilder 77 5 w.heap.size w.heap.size (Lib.byteCells (heads (l.take k)).data.toList) wr ∧ Below w.heap.size w wr) (fun _ i _ => l.length - (intOf i).toNat)
  case atStart => exact ⟨0, Nat.zero_le _, rfl, HNB.out, HB0.out⟩
  case round =>
    obtain ⟨k, hk, rfl, hbd, hbl⟩ := hrel
    have HBD := hide hbd
    have HBL := hide hbl
    have hszw := hbl.size
    clear hbd hbl
    by_cases hlt : k < l.length
    · obtain ⟨b, off, rfl, hc⟩ : ∃ b off, a = some ⟨b, off, none⟩ ∧ ∀ j (hj : j < l.length), wr.cell? ⟨b, off + j, none⟩ = some (.string l[j]) := by
        rcases HL.out.below HBL.out with rfl | h
        · exact absurd hlt (by simp)
        · exact h
      have hck := hc k hlt
      have hz : (k : Int) < (l.length : Int) := by omega
      have hw2 : IntKind.i64.wrap ((k : Int) + 1) = (k : Int) + 1 := by rw [IntKind.wrap_i64]; omega
      have h2 := H256.out _ (List.getElem_mem hlt)
      have hcl := countOf_le l[k]
      have hz3 : ((countOf l[k] : Nat) : Int) ≤ (l[k].size : Int) := by omega
      have HH := hide (heads_take l k hlt)
      have hlen : (Lib.byteCells (heads (l.take k)).data.toList).length ≤ 4096 * 255 := by
        rw [Lib.byteCells_length, ← Lib.size_eq]
        have := heads_size (l.take k) (fun x hx => H256.out x (List.mem_of_mem_take hx))
        rw [List.length_take] at this
        have e : min k l.length = k := by omega
        rw [e] at this
        have : k * 255 ≤ 4096 * 255 := by omega
        omega
      have KC := hide (count_any l[k] wr h2)
      have KW := hide (bWriteString w.heap.size (Lib.byteCells (heads (l.take k)).data.toList) (l[k].extract 0 (countOf l[k])) wr HBD.out (by rw [ByteArray.size_extract]; omega) hszw)
      have HC := hide hc
      clear hc hlen
      generalize l[k] = t at *
      generalize hcn : countOf t = cn at *
      have HCN := hide hcn
      clear hcn
      go_wp2_with fail
      refine KC.out.mono ?_
      rintro e w1 ⟨rfl, hw1⟩
      obtain rfl := hw1.symm
      go_wp2_with fail
      refine KW.out.mono ?_
      rintro e w2 ⟨rfl, hbd2, hbl2⟩
      have HBD2 := hide hbd2
      have HBL2 := hide (HBL.out.trans hbl2)
      clear hbd2 hbl2
      go_wp2
      go_roundw
      case rel => exact ⟨k + 1, hlt, by go_num, by rw [HH.out, ← bc_app]; exact Or.inr HBD2.out, HBL2.out⟩
      case measure => simp [intOf]; omega
    · have hkl : k = l.length := by omega
      subst hkl
      rw [List.take_of_length_le (Nat.le_refl _)] at HBD
      have KS := hide (bString2 w.heap.size (heads l).data.toList wr HBD.out hszw)
      go_wp2_with fail
      refine KS.out.mono ?_
      rintro e w2 ⟨rfl, hbl2⟩
      have HBL2 := hide (HBL.out.trans hbl2)
      clear hbl2
      go_wp2
      go_ret
      exact ⟨rfl, HBL2.out⟩
end Go.Proofs.Ytelkccfjeinlcaa
