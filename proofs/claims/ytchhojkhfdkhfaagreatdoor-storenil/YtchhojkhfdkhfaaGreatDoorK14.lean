/- Package wal's Clear. Logs, plain: what Open, Append and Clear leave of a disk's form. Package wal's streamOf, by the library's own builder. Package wal's Open: what lies in memory on its way. A disk that holds just a log's blocks, any number of them, plain. The document's own log: Open. The document's own stores: Blocks, may, log, Make. The document's own stores: Make, Open. -/
import Derived.Test.YtchhojkhfdkhfaaGreatDoorK13
import Derived.Test.YtchhojkhfdkhfaaGreatDoorK05
import Derived.Shelf.Strings.Builder2
import Derived.Test.YtchhojkhfdkhfaaGreatDoorK12
import Derived.Test.YtchhojkhfdkhfaaGreatDoorK11
import Derived.Test.YtchhojkhfdkhfaaGreatDoorK02
import Derived.Test.YtchhojkhfdkhfaaGreatDoorK09
import Derived.Test.YtchhojkhfdkhfaaGreatDoorK04
namespace Go.Proofs.YtchhojkhfdkhfaaGreatDoor
open Go Go.RowKit Frm
theorem zeros_succ (n b : Nat) (st : St) : zeros (n + 1) b st = if (st.write ((b : Nat) : Int) zblock).1 = 0 then zeros n (b + 1) (st.write ((b : Nat) : Int) zblock).2 else st.write ((b : Nat) : Int) zblock := rfl
/-- Between two writes. -/
structure Clr (w : World) (q o N : Nat) (st : St) (F : Nat → Prop) (B k : Nat) (cur : St) (F' : Nat → Prop) (u : World) : Prop where
  rest : zeros N o st = zeros (N - k) (o + k) cur
  disk : DAt u q cur F'
  loc : Loc F F' w u
  ok : cur.Ok
  few : cur.loose.length ≤ st.loose.length + k
  box : u.cell? ⟨B, 0, none⟩ = some (.string ⟨#[]⟩)
  notB : ¬ F' B
theorem clear_of {st : St} {o N : Nat} : ((zeros N o st).1 ≠ 0 → walClear st o N = zeros N o st) ∧ ((zeros N o st).1 = 0 → walClear st o N = (zeros N o st).2.sync) := by
  unfold walClear
  exact ⟨fun h => by rw [if_pos h], fun h => by rw [if_neg (by rw [h]; simp)]⟩
set_option maxRecDepth 10000 in
set_option maxHeartbeats 2000000 in
theorem clear_any (q o N : Nat) (st : St) (F : Nat → Prop) (w : World) (hD : DAt w q st F) (hok : st.Ok) (hl : st.loose.length + N ≤ 10000) (hN : o + N ≤ st.sure.length) (h1 : 1 ≤ N) :
    Calls Tryz.prog 77 #[.pointer (some ⟨q, 0, none⟩), .int .i64 (o : Int), .int .i64 (N : Int)] w fun e w' => e = .returned (.int .i64 (((walClear st o N).1 : Nat) : Int)) ∧ ∃ F', DAt w' q (walClear st o N).2 F' ∧ Loc F F' w w' := by
  have hfew := hok.few
  obtain ⟨W, hW⟩ : ∃ W, w.alloc (.cells #[.pointer (some ⟨q, 0, none⟩), .int .i64 (o : Int), .int .i64 (N : Int)] 163) = W := ⟨_, rfl⟩
  have hbW : Below w.heap.size w W := by rw [← hW]; exact (Below.refl _ _).alloc (Nat.le_refl _) _
  have hszW : W.heap.size = w.heap.size + 1 := by rw [← hW]; simp
  have harea : W.heap[w.heap.size]? = some (.cells #[.pointer (some ⟨q, 0, none⟩), .int .i64 (o : Int), .int .i64 (N : Int)] 163 (0, 0)) := by rw [← hW]; exact World.alloc_heap_new w _
  have hc0 : W.cell? ⟨w.heap.size, 0, none⟩ = some (.pointer (some ⟨q, 0, none⟩)) := by simp [World.cell?, harea]
  have hc1 : W.cell? ⟨w.heap.size, 1, none⟩ = some (.int .i64 (o : Int)) := by simp [World.cell?, harea]
  have hc2 : W.cell? ⟨w.heap.size, 2, none⟩ = some (.int .i64 (N : Int)) := by simp [World.cell?, harea]
  have hmay : st.may (o : Int) (N : Int) := by unfold St.may; omega
  have KF : Hid (Calls Tryz.prog 105 #[.agg #[.pointer (some ⟨q, 0, none⟩), .int .i64 (o : Int), .int .i64 (N : Int)]] W fun e w' => e = .returned (.int .i64 0) ∧ Below W.heap.size W w') := by
    have := fault_any q (o : Int) (N : Int) st F W (con.below hD hbW) hok (by omega)
    rw [if_pos hmay] at this
    exact this
  have HS : Hid (∀ w1, Below W.heap.size W w1 → Clr w q o N st F w1.heap.size 0 st F (w1.alloc (.cells #[.string ⟨#[]⟩] 9))) := fun w1 hb1 => by
    have hb2 : Below w.heap.size w (w1.alloc (.cells #[.string ⟨#[]⟩] 9)) := (hbW.trans (hb1.mono (by omega))).alloc (by have := hb1.size; omega) _
    exact ⟨rfl, con.below hD hb2, Loc.of_below F hb2, hok, Nat.le_refl _, by simp [go_sem], fun hf => by have := con.lt hD _ hf; have := hb1.size; omega⟩
  have HC := hide (clear_of (st := st) (o := o) (N := N))
  have ho4 : o ≤ 4096 := by omega
  have hN4 : N ≤ 4096 := by omega
  clear hD hok hN hbW harea hmay
  generalize walClear st o N = M at *
  go_enter Tryz.func77, Tryz.ntmps77
  go_wp2_with fail
  refine KF.out.mono ?_
  rintro e w1 ⟨rfl, hb1⟩
  have HS1 := hide (HS.out w1 hb1)
  clear hb1
  go_wp2_with fail
  refine (blocks_any ⟨#[]⟩ _).mono ?_
  rintro e w2 ⟨rfl, rfl⟩
  go_wp2_with fail
  generalize w1.alloc (.cells #[.string ⟨#[]⟩] 9) = W2 at *
  generalize w1.heap.size = B at *
  go_loopw [10, 11, 23] (fun _ _ c wr => ∃ k : Nat, k ≤ N ∧ c = .int .i64 (k : Int) ∧ ∃ cur F', Clr w q o N st F B k cur F' wr) (fun _ _ c _ => N - (intOf c).toNat)
  case atStart => exact ⟨0, Nat.zero_le _, rfl, st, F, HS1.out⟩
  case round =>
    obtain ⟨k, hk, rfl, cur, F', hc⟩ := hrel
    by_cases hlt : k < N
    · have hz : (k : Int) < (N : Int) := by omega
      have hw : wrap64 ((o : Int) + (k : Int)) = ((o + k : Nat) : Int) := by unfold wrap64; omega
      have hw2 : IntKind.i64.wrap ((k : Int) + 1) = (k : Int) + 1 := by rw [IntKind.wrap_i64]; omega
      have KB : Hid (Calls Tryz.prog 129 #[.int .i64 (k : Int), .pointer (some ⟨B, 0, none⟩)] wr fun e w' => e = .returned (.string zblock) ∧ Below wr.heap.size wr w') := by
        have := blk_any ⟨#[]⟩ B k wr hc.box (by omega)
        have e : blkOf ⟨#[]⟩ k = zblock := blkOf_none k
        rw [e] at this
        exact this
      have hze : zeros N o st = if (cur.write ((o + k : Nat) : Int) zblock).1 = 0 then zeros (N - (k + 1)) (o + (k + 1)) (cur.write ((o + k : Nat) : Int) zblock).2 else cur.write ((o + k : Nat) : Int) zblock := by
        rw [hc.rest, show N - k = N - (k + 1) + 1 from by omega, zeros_succ, Nat.add_assoc]
      have HZE := hide hze
      have KW : Hid (∀ u, DAt u q cur F' → Calls Tryz.prog 34 #[.pointer (some ⟨q, 0, none⟩), .int .i64 ((o + k : Nat) : Int), .string zblock] u fun e v => e = .returned (.int .i64 (((cur.write ((o + k : Nat) : Int) zblock).1 : Nat) : Int)) ∧ ∃ F2, DAt v q (cur.write ((o + k : Nat) : Int) zblock).2 F2 ∧ Loc F' F2 u v) := fun u hu => write_any q cur F' _ zblock u hu hc.ok (by have := hc.few; omega)
      have HCl := hide hc
      have HOK := hide (hc.ok.write ((o + k : Nat) : Int) zblock)
      have HFW := hide (write_loose cur ((o + k : Nat) : Int) zblock)
      clear hze hc
      generalize zblock = zb at *
      by_cases he : (cur.write ((o + k : Nat) : Int) zb).1 = 0
      · rw [he] at KW
        have HZ2 : Hid (zeros N o st = zeros (N - (k + 1)) (o + (k + 1)) (cur.write ((o + k : Nat) : Int) zb).2) := by
          have := HZE.out
          rw [if_pos he] at this
          exact this
        clear he
        generalize (cur.write ((o + k : Nat) : Int) zb).2 = nx at *
        go_wp2_with fail
        refine KB.out.mono ?_
        rintro e w3 ⟨rfl, hb3⟩
        have KW3 := hide (KW.out w3 (con.below HCl.out.disk hb3))
        have HB3 := hide hb3
        clear hb3
        go_wp2_with fail
        refine KW3.out.mono ?_
        rintro e w4 ⟨rfl, F2, hd4, hl4⟩
        have HD4 := hide hd4
        have HL4 := hide hl4
        clear hd4 hl4
        go_wp2
        go_roundw
        case rel =>
          refine ⟨k + 1, hlt, by go_num, nx, F2, ⟨HZ2.out, HD4.out, HCl.out.loc.trans ((Loc.of_below _ HB3.out).trans HL4.out), HOK.out, by have := HFW.out; have := HCl.out.few; omega, ?_, fun hf => ?_⟩⟩
          · exact cellLoc HL4.out HCl.out.notB (cellB HB3.out HCl.out.box)
          · rcases HL4.out.own B hf with h | h
            · exact HCl.out.notB h
            · have := World.block_lt_of_cell? _ _ HCl.out.box
              have := HB3.out.size
              simp only at *
              omega
        case measure => simp [intOf]; omega
      · have hez : ¬ ((((cur.write ((o + k : Nat) : Int) zb).1 : Nat) : Int) = 0) := by omega
        have HZ2 : Hid (M = cur.write ((o + k : Nat) : Int) zb) := by
          have := HZE.out
          rw [if_neg he] at this
          have h2 := HC.out.1 (by rw [this]; exact he)
          rw [this] at h2
          exact h2
        clear he
        generalize cur.write ((o + k : Nat) : Int) zb = nx at *
        go_wp2_with fail
        refine KB.out.mono ?_
        rintro e w3 ⟨rfl, hb3⟩
        have KW3 := hide (KW.out w3 (con.below HCl.out.disk hb3))
        have HB3 := hide hb3
        clear hb3
        go_wp2_with fail
        refine KW3.out.mono ?_
        rintro e w4 ⟨rfl, F2, hd4, hl4⟩
        have HD4 := hide hd4
        have HL4 := hide hl4
        clear hd4 hl4
        go_wp2
        go_ret
        exact ⟨by rw [HZ2.out]; rfl, F2, by rw [HZ2.out]; exact HD4.out, HCl.out.loc.trans ((Loc.of_below _ HB3.out).trans HL4.out)⟩
    · have hkN : k = N := by omega
      subst hkN
      have hze : zeros k o st = (0, cur) := by rw [hc.rest, Nat.sub_self]; rfl
      have HM : Hid (M = cur.sync) := by
        have := HC.out.2 (by rw [hze])
        rw [hze] at this
        exact this
      have KS := hide (con.sync q cur F' wr hc.disk hc.ok (by have := hc.few; omega))
      have HCl := hide hc
      clear hze hc
      go_wp2_with fail
      refine KS.out.mono ?_
      rintro e w4 ⟨rfl, F2, hd4, hl4⟩
      have HD4 := hide hd4
      have HL4 := hide hl4
      clear hd4 hl4
      go_wp2
      go_ret
      exact ⟨by rw [HM.out]; rfl, F2, by rw [HM.out]; exact HD4.out, HCl.out.loc.trans HL4.out⟩
end Go.Proofs.YtchhojkhfdkhfaaGreatDoor
namespace Go.Proofs.YtchhojkhfdkhfaaGreatDoor
open Frm
/-- A disk in form, so many blocks, so many loose writes at the most. -/
structure Form (n c : Nat) (st : St) : Prop where
  ok : st.Ok
  len : st.sure.length = n
  few : st.loose.length ≤ c
theorem Form.more {n c c' : Nat} {st : St} (h : Form n c st) (hc : c ≤ c') : Form n c' st := ⟨h.ok, h.len, Nat.le_trans h.few hc⟩
theorem Form.write {n c : Nat} {st : St} (h : Form n c st) (b : Int) (d : ByteArray) : Form n (c + 1) (st.write b d).2 :=
  ⟨h.ok.write b d, by rw [write_sure]; exact h.len, by have := write_loose st b d; have := h.few; omega⟩
theorem Form.sync {n c : Nat} {st : St} (h : Form n c st) : Form n c st.sync.2 := by
  refine ⟨h.ok.sync, ?_, ?_⟩
  · unfold St.sync
    split
    · exact h.len
    · show (laid _ _).length = n
      rw [laid_length]; exact h.len
  · unfold St.sync
    split
    · exact h.few
    · exact Nat.zero_le _
theorem Form.fuse {n c : Nat} {st : St} (h : Form n c st) (k : Int) (hk : k ≤ 9223372036854775807) : Form n c (st.fuse k) := ⟨h.ok.fuse k hk, h.len, h.few⟩
theorem Form.crash {n c : Nat} {st : St} (h : Form n c st) (p : List Int) : Form n 0 (st.crash p) := ⟨h.ok.crash p, by show (crashed _ _ _ _).length = n; rw [crashed_length]; exact h.len, Nat.le_refl _⟩
theorem puts_sure (o : Nat) : ∀ (l : List (ByteArray × ByteArray)) (i : Nat) (st : St), (puts o l i st).2.sure = st.sure
  | [], _, _ => rfl
  | x :: l, i, st => by
    rw [puts_cons]
    split
    · exact puts_sure o l _ _
    · split
      · rw [puts_sure o l _ _, write_sure]
      · exact write_sure _ _ _
theorem Form.puts {n c : Nat} {st : St} (h : Form n c st) (o N : Nat) (a b : Nat → ByteArray) : Form n (c + N) (puts o (prs N a b) 0 st).2 := by
  have h1 := lay_len o N a b st h.ok
  exact ⟨h1.1, by rw [puts_sure]; exact h.len, by have := h.few; omega⟩
theorem Form.made {n c : Nat} {st : St} (h : Form n c st) (o N : Nat) (a b : Nat → ByteArray) : Form n (c + N) (made o (prs N a b) st).2 := by
  unfold Go.Proofs.YtchhojkhfdkhfaaGreatDoor.made
  split
  · exact h.puts o N a b
  · split
    · exact h.puts o N a b
    · exact (h.puts o N a b).sync
theorem Form.open {n c : Nat} {st : St} (h : Form n c st) (o N : Nat) : Form n (c + N + N) (walOpen st o N).2 := by
  unfold walOpen
  split
  · exact h.more (by omega)
  · split
    · exact h.more (by omega)
    · split
      · exact (h.made o N _ _).more (by omega)
      · split
        · exact (h.made o N _ _).made o N _ _
        · exact (h.made o N _ _).made o N _ _
theorem Form.append {n c : Nat} {st : St} (h : Form n c st) (o N : Nat) (s t : ByteArray) : Form n (c + N) (walAppend st o N s t).2.2 := by
  unfold walAppend
  split
  · exact h.more (by omega)
  · split
    · exact h.more (by omega)
    · split
      · exact h.puts o N _ _
      · exact h.puts o N _ _
theorem Form.zeros {n : Nat} : ∀ (N c o : Nat) (st : St), Form n c st → Form n (c + N) (zeros N o st).2
  | 0, _, _, _, h => h
  | N + 1, c, o, st, h => by
    rw [zeros_succ]
    split
    · exact (Form.zeros N (c + 1) (o + 1) _ (h.write _ _)).more (by omega)
    · exact (h.write _ _).more (by omega)
theorem Form.clear {n c : Nat} {st : St} (h : Form n c st) (o N : Nat) : Form n (c + N) (walClear st o N).2 := by
  unfold walClear
  split
  · exact Form.zeros N c o st h
  · exact (Form.zeros N c o st h).sync
theorem Form.new {n : Nat} (h1 : 1 ≤ n) (h2 : n ≤ 4096) : Form n 0 (St.new n) := ⟨St.Ok.new h1 h2, by unfold St.new; simp, Nat.le_refl _⟩
theorem kept_size (l : List ByteArray) (h : ∀ b ∈ l, b.size = 256) : (kept l).size ≤ l.length * 255 := by
  unfold kept
  rw [ByteArray.size_extract]
  have h1 := heads_size (upTo l) (fun b hb => h b (by rw [upTo_prefix] at hb; exact List.mem_of_mem_take hb))
  rw [heads_upTo] at h1
  have h2 := Nat.mul_le_mul_right 255 (upTo_le l)
  exact Nat.le_trans (Nat.le_trans (Nat.sub_le _ _) (Nat.min_le_right _ _)) (Nat.le_trans h1 h2)
theorem open_size {st : St} (hok : st.Ok) (o N : Nat) (hN : o + N ≤ st.sure.length) : (walOpen st o N).1.2.1.size ≤ N * 255 := by
  have h1 := kept_size (reads st o N) (fun b hb => by
    obtain ⟨i, hi, rfl⟩ := List.getElem_of_mem hb
    rw [reads_at]
    exact at_size hok _ (by rw [reads_length] at hi; omega))
  rw [reads_length] at h1
  unfold walOpen
  split
  · exact Nat.zero_le _
  · split
    · exact Nat.zero_le _
    · split
      · exact Nat.zero_le _
      · split
        · exact Nat.zero_le _
        · exact h1
end Go.Proofs.YtchhojkhfdkhfaaGreatDoor
namespace Go.Proofs.YtchhojkhfdkhfaaGreatDoor
open Go Go.RowKit Frm Go.Shelf
def bldRen2 : Ren := ⟨fun x => if x = 165 then 37 else if x = 166 then 135 else if x = 169 then 39 else if x = 240 then 74 else if x = 241 then 75 else if x = 276 then 103 else if x = 277 then 104 else x, fun t => if t = 72 then 88 else if t = 70 then 86 else if t = 37 then 77 else if t = 75 then 92 else if t = 80 then 44 else if t = 164 then 159 else if t = 127 then 128 else t, fun g => g⟩
theorem lays166 : Lays.n166 Tryz.prog bldRen2 := by
  constructor <;> first | kernel_rfl | (intro w; kernel_rfl)
theorem lays169b : Lays.n169 Tryz.prog bldRen2 := by
  constructor <;> first | kernel_rfl | (intro w; kernel_rfl)
theorem bldX2 : Builder.Extra Tryz.prog bldRen2 := by
  constructor
  · constructor <;> kernel_rfl
  all_goals first | kernel_rfl | (intro w; kernel_rfl) | decide
theorem bWriteString (b : Nat) (bs : List Value) (s : ByteArray) (w : World) (h : Lib.IsBuilder 88 5 b b bs w) (hlen : bs.length + s.size ≤ 140737488355328) (hBw : b ≤ w.heap.size) :
    Calls Tryz.prog 135 #[.pointer (some ⟨b, 0, none⟩), .string s] w fun e w' => e = .returned (.tuple #[.int .i64 s.size, .nilIface]) ∧ (Lib.BuilderAt 88 5 b b (.pointer (some ⟨b, 0, none⟩)) (bs ++ Lib.strCells s) w' ∧ Below b w w') := Any.Builder_WriteString lays166 bldX2 b b bs s w h hlen hBw
theorem bString2 (b : Nat) (l : List UInt8) (w : World) (h : Lib.IsBuilder 88 5 b b (Lib.byteCells l) w) (hBw : b ≤ w.heap.size) :
    Calls Tryz.prog 39 #[.pointer (some ⟨b, 0, none⟩)] w fun e w' => e = .returned (.string ⟨l.toArray⟩) ∧ Below b w w' := Any.Builder_String_any lays169b bldX2 b b l w h hBw
theorem new_builder (w : World) : Lib.IsBuilder 88 5 w.heap.size w.heap.size [] (w.alloc (.cells #[.pointer none, .slice none 0 0] 88)) :=
  Or.inl ⟨Nat.le_refl _, .slice none 0 0, World.alloc_heap_new w _, World.ownsRow_nil _ _ _ _, by simp [Value.ownBlock]⟩
theorem bc_app (a b : List UInt8) : Lib.byteCells a ++ Lib.byteCells b = Lib.byteCells (a ++ b) := by unfold Lib.byteCells; rw [List.map_append]
theorem heads_take (l : List ByteArray) (k : Nat) (h : k < l.length) : (heads (l.take (k + 1))).data.toList = (heads (l.take k)).data.toList ++ (l[k].extract 0 (countOf l[k])).data.toList := by
  rw [take_snoc h, heads_append]
  show (heads (List.take k l) ++ (l[k].extract 0 (countOf l[k]) ++ noText)).data.toList = _
  rw [ByteArray.data_append, ByteArray.data_append]
  simp [noText]
set_option maxRecDepth 10000 in
set_option maxHeartbeats 2000000 in
theorem stream_any (l : List ByteArray) (a : Option Addr) (c : Nat) (w : World) (hl : StrsAt w a l) (h256 : ∀ b ∈ l, b.size = 256) (hn : l.length ≤ 4096) :
    Calls Tryz.prog 119 #[.slice a l.length c] w fun e w' => e = .returned (.string (heads l)) ∧ Below w.heap.size w w' := by
  have HNB := hide (new_builder w)
  have HB0 := hide ((Below.refl w.heap.size w).alloc (Nat.le_refl _) (.cells #[.pointer none, .slice none 0 0] 88))
  have HL := hide hl
  have H256 := hide h256
  clear hl h256
  go_enter Tryz.func119, Tryz.ntmps119
  go_wp2_with fail
  generalize w.alloc (.cells #[.pointer none, .slice none 0 0] 88) = W at *
  go_loopw [5, 8] (fun _ i wr => ∃ k : Nat, k ≤ l.length ∧ i = .int .i64 (k : Int) ∧ Lib.IsBuilder 88 5 w.heap.size w.heap.size (Lib.byteCells (heads (l.take k)).data.toList) wr ∧ Below w.heap.size w wr) (fun _ i _ => l.length - (intOf i).toNat)
  case atStart => exact ⟨0, Nat.zero_le _, rfl, HNB.out, HB0.out⟩
  case round =>
    obtain ⟨k, hk, rfl, hbd, hbl⟩ := hrel
    have HBD := hide hbd
    have HBL := hide hbl
    have hszw := hbl.size
    clear hbd hbl
    by_cases hlt : k < l.length
    · obtain ⟨b, off, rfl, hc⟩ : ∃ b off, a = some ⟨b, off, none⟩ ∧ ∀ j (hj : j < l.length), wr.cell? ⟨b, off + j, none⟩ = some (.string l[j]) := by
        rcases HL.out.below HBL.out with rfl | h
        · exact absurd hlt (by simp)
        · exact h
      have hck := hc k hlt
      have hz : (k : Int) < (l.length : Int) := by omega
      have hw2 : IntKind.i64.wrap ((k : Int) + 1) = (k : Int) + 1 := by rw [IntKind.wrap_i64]; omega
      have h2 := H256.out _ (List.getElem_mem hlt)
      have hcl := countOf_le l[k]
      have hz3 : ((countOf l[k] : Nat) : Int) ≤ (l[k].size : Int) := by omega
      have HH := hide (heads_take l k hlt)
      have hlen : (Lib.byteCells (heads (l.take k)).data.toList).length ≤ 4096 * 255 := by
        rw [Lib.byteCells_length, ← Lib.size_eq]
        have := heads_size (l.take k) (fun x hx => H256.out x (List.mem_of_mem_take hx))
        rw [List.length_take] at this
        have e : min k l.length = k := by omega
        rw [e] at this
        have : k * 255 ≤ 4096 * 255 := by omega
        omega
      have KC := hide (count_any l[k] wr h2)
      have KW := hide (bWriteString w.heap.size (Lib.byteCells (heads (l.take k)).data.toList) (l[k].extract 0 (countOf l[k])) wr HBD.out (by rw [ByteArray.size_extract]; omega) hszw)
      have HC := hide hc
      clear hc hlen
      generalize l[k] = t at *
      generalize hcn : countOf t = cn at *
      have HCN := hide hcn
      clear hcn
      go_wp2_with fail
      refine KC.out.mono ?_
      rintro e w1 ⟨rfl, hw1⟩
      obtain rfl := hw1.symm
      go_wp2_with fail
      refine KW.out.mono ?_
      rintro e w2 ⟨rfl, hbd2, hbl2⟩
      have HBD2 := hide hbd2
      have HBL2 := hide (HBL.out.trans hbl2)
      clear hbd2 hbl2
      go_wp2
      go_roundw
      case rel => exact ⟨k + 1, hlt, by go_num, by rw [HH.out, ← bc_app]; exact Or.inr HBD2.out, HBL2.out⟩
      case measure => simp [intOf]; omega
    · have hkl : k = l.length := by omega
      subst hkl
      rw [List.take_of_length_le (Nat.le_refl _)] at HBD
      have KS := hide (bString2 w.heap.size (heads l).data.toList wr HBD.out hszw)
      go_wp2_with fail
      refine KS.out.mono ?_
      rintro e w2 ⟨rfl, hbl2⟩
      have HBL2 := hide (HBL.out.trans hbl2)
      clear hbl2
      go_wp2
      go_ret
      exact ⟨rfl, HBL2.out⟩
end Go.Proofs.YtchhojkhfdkhfaaGreatDoor
namespace Go.Proofs.YtchhojkhfdkhfaaGreatDoor
open Go Go.RowKit Frm Go.Shelf
theorem OB_nil (k : Nat) : ¬ OB (.slice none 0 0) k := fun h => by cases h
theorem loc_nil {v : Value} {u w : World} (h : Loc (OB (.slice none 0 0)) (OB v) u w) : Below u.heap.size u w := ⟨h.os, h.tape, h.output, h.size, fun k hk => h.block k hk (OB_nil k)⟩
set_option maxRecDepth 10000 in
set_option maxHeartbeats 1000000 in
/-- A disk that stands still is not read. -/
theorem readOn_down (q o N : Nat) (st : St) (F : Nat → Prop) (w : World) (hD : DAt w q st F) (hok : st.Ok) (hl : st.loose.length ≤ 10000) (hN : o + N ≤ st.sure.length) (h1 : 1 ≤ N) (h0 : st.left = 0) :
    Calls Tryz.prog 117 #[.agg #[.pointer (some ⟨q, 0, none⟩), .int .i64 (o : Int), .int .i64 (N : Int)], .slice none 0 0, .func (.func 118) #[] #[]] w fun e w' => e = .returned (.tuple #[.slice none 0 0, .int .i64 50]) ∧ Below w.heap.size w w' := by
  have hfew := hok.few
  have hb : Below w.heap.size w (w.alloc (.cells #[.pointer (some ⟨q, 0, none⟩), .int .i64 (o : Int), .int .i64 (N : Int)] 163)) := (Below.refl _ _).alloc (Nat.le_refl _) _
  have KR : Hid (Calls Tryz.prog 112 #[.pointer (some ⟨q, 0, none⟩), .int .i64 (o : Int)] (w.alloc (.cells #[.pointer (some ⟨q, 0, none⟩), .int .i64 (o : Int), .int .i64 (N : Int)] 163)) fun e v => e = .returned (.tuple #[.string noText, .int .i64 50]) ∧ Below (w.alloc (.cells #[.pointer (some ⟨q, 0, none⟩), .int .i64 (o : Int), .int .i64 (N : Int)] 163)).heap.size (w.alloc (.cells #[.pointer (some ⟨q, 0, none⟩), .int .i64 (o : Int), .int .i64 (N : Int)] 163)) v) := by
    have := con.read q st F (o : Int) _ (con.below hD hb) hok hl (by omega)
    rw [read_down _ h0] at this
    exact this
  have hz : (0 : Int) < (N : Int) := by omega
  have hw : wrap64 (o : Int) = (o : Int) := by unfold wrap64; omega
  have HB := hide hb
  generalize noText = nt at *
  clear hb hD hok hl h0 hN
  go_enter Tryz.func117, Tryz.ntmps117
  go_wp2_with fail
  go_loopw [1, 8, 9, 10] (fun bv i _ _ wr => bv = .slice none 0 0 ∧ i = .int .i64 0 ∧ wr = w.alloc (.cells #[.pointer (some ⟨q, 0, none⟩), .int .i64 (o : Int), .int .i64 (N : Int)] 163)) (fun _ _ _ _ _ => 0)
  case atStart => exact ⟨rfl, rfl, rfl⟩
  case round =>
    obtain ⟨rfl, rfl, rfl⟩ := hrel
    go_wp2_with fail
    refine KR.out.mono ?_
    rintro e w1 ⟨rfl, hb1⟩
    have HB1 := hide (HB.out.trans (hb1.mono (by simp)))
    clear hb1
    go_wp2
    go_ret2
    exact ⟨rfl, HB1.out⟩
/-- Behind the two readings: all blocks, and the records that were found. -/
structure Got (w : World) (q o N : Nat) (st : St) (F : Nat → Prop) (W : World) (v vR : Value) : Prop where
  disk : DAt W q st F
  below : Below w.heap.size w W
  area : W.heap[w.heap.size]? = some (.cells #[.pointer (some ⟨q, 0, none⟩), .int .i64 (o : Int), .int .i64 (N : Int)] 163 (0, 0))
  blocks : OwnL W 0 v (reads st o N)
  newB : ∀ k, OB v k → w.heap.size < k
  recs : OwnL W (w.heap.size + 1) vR (scn (streamOf (reads st o N))).1
theorem own_kept {w u : World} {b : Nat} {v : Value} {l : List ByteArray} (h : OwnL w b v l) (hb : ∀ k, OB v k → u.heap[k]? = w.heap[k]?) : OwnL u b v l := own_same h (fun g hg => hb g hg)
theorem own_up {w : World} {b b' : Nat} {v : Value} {l : List ByteArray} (h : OwnL w b v l) (hb : ∀ k, OB v k → b' ≤ k) : OwnL w b' v l := by
  refine ⟨h.1, ?_⟩
  rcases h.2 with h0 | ⟨g, cap, cur, rfl, h1, hg, hr⟩
  · exact Or.inl h0
  · exact Or.inr ⟨g, cap, cur, rfl, hb g rfl, hg, hr⟩
theorem own_ge {w : World} {b : Nat} {v : Value} {l : List ByteArray} (h : OwnL w b v l) {k : Nat} (hk : OB v k) : b ≤ k := (World.ownsRow.lt h k hk).1
/-- The second reading leaves the records where they were. -/
theorem Got.mk' {w W w2 w3 w4 w5 : World} {q o N : Nat} {st : St} {F : Nat → Prop} {v v' vR : Value} (hD : DAt W q st F) (hF : ∀ k, F k → k < w.heap.size) (hb : Below w.heap.size w W) (hsz : W.heap.size = w.heap.size + 1) (ha : W.heap[w.heap.size]? = some (.cells #[.pointer (some ⟨q, 0, none⟩), .int .i64 (o : Int), .int .i64 (N : Int)] 163 (0, 0)))
    (h2 : Loc (OB (.slice none 0 0)) (OB v) W w2) (hv : OwnL w2 0 v (upTo (reads st o N))) (h3 : Below w2.heap.size w2 w3) (h4 : Below w3.heap.size w3 w4) (hR : OwnL w4 w3.heap.size vR (scn (streamOf (reads st o N))).1)
    (h5 : Loc (OB v) (OB v') w4 w5) (hv' : OwnL w5 0 v' (reads st o N)) : Got w q o N st F w5 v' vR := by
  have b2 := loc_nil h2
  have b4 : Below W.heap.size W w4 := (b2.trans (h3.mono b2.size)).trans (h4.mono (Nat.le_trans b2.size h3.size))
  have hvn : ∀ k, OB v k → W.heap.size ≤ k := fun k hk => by
    rcases h2.own k hk with h | h
    · exact absurd h (OB_nil k)
    · exact h
  have keep : ∀ k, k < W.heap.size → w5.heap[k]? = W.heap[k]? := fun k hk => (h5.block k (Nat.lt_of_lt_of_le hk b4.size) (fun ho => by have := hvn k ho; omega)).trans (b4.block k hk)
  refine ⟨con.same hD (fun k hk => keep k (by have := hF k hk; omega)), ⟨h5.os.trans (b4.os.trans hb.os), h5.tape.trans (b4.tape.trans hb.tape), h5.output.trans (b4.output.trans hb.output), by have := h5.size; have := b4.size; have := hb.size; omega, fun k hk => (keep k (by omega)).trans (hb.block k hk)⟩, (keep _ (by omega)).trans ha, hv', fun k hk => ?_, ?_⟩
  · rcases h5.own k hk with h | h
    · have := hvn k h; omega
    · have := b4.size; omega
  · have hsz3 : w.heap.size + 1 ≤ w3.heap.size := by have := b2.size; have := h3.size; omega
    refine own_kept (own_up hR (fun k hk => Nat.le_trans hsz3 (own_ge hR hk))) (fun k hk => h5.block k (World.ownsRow.lt hR k hk).2 (fun ho => ?_))
    have e1 := own_ge hR hk
    have e2 : k < w2.heap.size := own_lt0 hv ho
    have := h3.size
    omega
end Go.Proofs.YtchhojkhfdkhfaaGreatDoor
namespace Go.Proofs.YtchhojkhfdkhfaaGreatDoor
open Go Go.RowKit Frm
/-- n blocks of a stream, all sure. -/
def bare (n : Nat) (S : ByteArray) : St := ⟨(List.range n).map (blkOf S), [], -1⟩
theorem bare_at (n : Nat) (S : ByteArray) (k : Nat) (hk : k < n) : (bare n S).sure.getD k noText = blkOf S k := by
  show ((List.range n).map (blkOf S)).getD k noText = _
  rw [List.getD_eq_getElem?_getD, List.getElem?_eq_getElem (by simp; exact hk)]
  simp
theorem bare_reads (n : Nat) (S : ByteArray) : reads (bare n S) 0 n = (List.range n).map (blkOf S) := by
  unfold reads
  apply List.map_congr_left
  intro i hi
  rw [at_bare _ rfl, Nat.zero_add, bare_at n S i (List.mem_range.1 hi)]
set_option maxRecDepth 4000 in
theorem stream_blocks (n : Nat) (S : ByteArray) (h : S.size ≤ n * 255) : streamOf ((List.range n).map (blkOf S)) = S := by
  obtain ⟨ms, _, h2, h3, h4, h5, _⟩ := stream_good S S.size ((List.range n).map (blkOf S)) 0 (fun i hi => ⟨S.size, Nat.le_refl _, Nat.le_refl _, by
    have := Good.pre S (0 + i) S.size (Nat.le_refl _)
    rw [pre_all] at this
    simpa using this⟩) (by omega)
  have hl : ((List.range n).map (blkOf S)).length = n := by simp
  have : ms = S.size := by
    rw [hl] at h5 h3
    rcases h5 with h | h
    · omega
    · omega
  rw [h4, this, Nat.zero_mul, pre_all]
theorem scn_cat (all : List ByteArray) (hs : ∀ t ∈ all, t.size ≤ 65536) : scn (cat all) = (all, (cat all).size, 0) := by
  have he : ends all all.length = (cat all).size := by unfold ends; rw [List.take_length]
  have := scn_cut all (cat all).size all.length hs (Nat.le_refl _) (by rw [he]; exact Nat.le_refl _) (Nat.le_refl _) (fun h => absurd h (Nat.lt_irrefl _))
  rw [pre_all, List.take_length, he, if_pos rfl] at this
  exact this
theorem recount_self (S : ByteArray) (k : Nat) : recount (blkOf S k) S k = blkOf S k := by
  unfold recount
  have hb := blkOf_size S k
  rw [part_join (blkOf S k) 0 255 256 (by omega) (by omega) (by omega)]
  conv => lhs; rw [← hb]
  exact pre_all _
theorem made_same (o n : Nat) (a : Nat → ByteArray) (st : St) : made o (prs n a a) st = (0, st) := by
  have h : ∀ x ∈ prs n a a, x.1 = x.2 := prs_same (fun _ _ => rfl)
  have hw : ∀ (l : List (ByteArray × ByteArray)) (i : Nat), (∀ x ∈ l, x.1 = x.2) → wl o l i = [] := by
    intro l
    induction l with
    | nil => intro _ _; rfl
    | cons x l ih =>
      intro i hx
      have e : wl o (x :: l) i = if x.1 = x.2 then wl o l (i + 1) else (o + i, x.2) :: wl o l (i + 1) := rfl
      rw [e, if_pos (hx x (by simp)), ih (i + 1) (fun y hy => hx y (List.mem_cons_of_mem _ hy))]
  unfold made
  rw [puts_equal o _ 0 st h, if_neg (by simp), if_pos (hw _ 0 h)]
theorem mended_eq (o n : Nat) (a : Nat → ByteArray) (s : ByteArray) (st : St) : mended o n a s st = if (made o (prs n a (fun i => recount (a i) s i)) st).1 ≠ 0 then made o (prs n a (fun i => recount (a i) s i)) st else made o (prs n (fun i => recount (a i) s i) (blkOf s)) (made o (prs n a (fun i => recount (a i) s i)) st).2 := rfl
theorem walOpen_eq (st : St) (o n : Nat) : walOpen st o n = if st.left = 0 then ((50, noText, []), st) else if (scn (streamOf (reads st o n))).2.2 = 41 ∨ (scn (streamOf (reads st o n))).2.2 = 4 then ((60, noText, []), st)
    else if (mended o n (fun i => st.at (o + i)) (kept (reads st o n)) st).1 ≠ 0 then (((mended o n (fun i => st.at (o + i)) (kept (reads st o n)) st).1, noText, []), (mended o n (fun i => st.at (o + i)) (kept (reads st o n)) st).2)
    else ((0, kept (reads st o n), (scn (streamOf (reads st o n))).1), (mended o n (fun i => st.at (o + i)) (kept (reads st o n)) st).2) := by
  unfold walOpen
  rw [mended_eq]
  split
  · rfl
  · split
    · rfl
    · by_cases h1 : (made o (prs n (fun i => st.at (o + i)) (fun i => recount (st.at (o + i)) (kept (reads st o n)) i)) st).1 ≠ 0
      · rw [if_pos h1, if_pos h1, if_pos h1]
      · rw [if_neg h1, if_neg h1]
/-- A log that is whole is found as it is. -/
theorem open_bare (n : Nat) (all : List ByteArray) (hs : ∀ t ∈ all, t.size ≤ 65536) (hf : (cat all).size ≤ n * 255) : walOpen (bare n (cat all)) 0 n = ((0, cat all, all), bare n (cat all)) := by
  have hr := bare_reads n (cat all)
  have hst : streamOf (reads (bare n (cat all)) 0 n) = cat all := by rw [hr]; exact stream_blocks n _ hf
  have hk : kept (reads (bare n (cat all)) 0 n) = cat all := by
    unfold kept
    rw [hst, scn_cat all hs]
    exact pre_all _
  have hm : mended 0 n (fun i => (bare n (cat all)).at (0 + i)) (cat all) (bare n (cat all)) = (0, bare n (cat all)) := by
    have e : prs n (fun i => (bare n (cat all)).at (0 + i)) (fun i => recount ((bare n (cat all)).at (0 + i)) (cat all) i) = prs n (blkOf (cat all)) (blkOf (cat all)) := prs_congr (fun i hi => by rw [at_bare _ rfl, Nat.zero_add, bare_at n _ i hi]) (fun i hi => by rw [at_bare _ rfl, Nat.zero_add, bare_at n _ i hi, recount_self])
    have e2 : prs n (fun i => recount ((bare n (cat all)).at (0 + i)) (cat all) i) (blkOf (cat all)) = prs n (blkOf (cat all)) (blkOf (cat all)) := prs_congr (fun i hi => by rw [at_bare _ rfl, Nat.zero_add, bare_at n _ i hi, recount_self]) (fun _ _ => rfl)
    rw [mended_eq, e, made_same, if_neg (by simp), e2, made_same]
  rw [walOpen_eq, if_neg (by show ¬ ((-1 : Int) = 0); decide), hst, scn_cat all hs, if_neg (by simp), hk, hm, if_neg (by simp)]
theorem crashed_nothing : ∀ (l : List (Nat × ByteArray)) (i : Nat) (s : List ByteArray), (∀ w ∈ l, w.1 < s.length ∧ w.2.size = 256) → crashed s [] i l = s
  | [], _, _, _ => rfl
  | w :: l, i, s, h => by
    have hw := h w (by simp)
    have ht : torn (s.getD w.1 noText) w.2 (([] : List Int).getD i 0) = s.getD w.1 noText := by
      show torn _ _ 0 = _
      unfold torn
      have e : (max (min (0 : Int) 256) 0).toNat = 0 := by decide
      rw [e, pre_all]
      apply ByteArray.ext
      rw [ByteArray.data_append, ByteArray.data_extract]
      simp
    have e : s.set w.1 (s.getD w.1 noText) = s := by
      rw [List.getD_eq_getElem?_getD, List.getElem?_eq_getElem hw.1, Option.getD_some]
      exact List.set_getElem_self hw.1
    have eu : crashed s [] i (w :: l) = crashed (s.set w.1 (torn (s.getD w.1 noText) w.2 (([] : List Int).getD i 0))) [] (i + 1) l := rfl
    rw [eu, ht, e]
    exact crashed_nothing l (i + 1) s (fun x hx => h x (List.mem_cons_of_mem _ hx))
end Go.Proofs.YtchhojkhfdkhfaaGreatDoor
namespace Go.Proofs.YtchhojkhfdkhfaaGreatDoor
open Go Go.RowKit Frm
/-- The document's log in memory. -/
def RLAt (u : World) (p q o n : Nat) (s : ByteArray) (b : Bool) : Prop := u.heap[p]? = some (.cells #[.pointer (some ⟨q, 0, none⟩), .int .i64 (o : Int), .int .i64 (n : Int), .string s, .bool b] 57 (0, 0))
theorem RLAt.lt {u : World} {p q o n : Nat} {s : ByteArray} {b : Bool} (h : RLAt u p q o n s b) : p < u.heap.size := (Array.getElem?_eq_some_iff.1 h).1
theorem RLAt.same {u v : World} {p q o n : Nat} {s : ByteArray} {b : Bool} (h : RLAt u p q o n s b) (hv : v.heap[p]? = u.heap[p]?) : RLAt v p q o n s b := hv.trans h
/-- Two rows of one's own, made since W0. -/
structure Two (W0 : World) (vc vw : Value) (cs ws : List ByteArray) (u : World) : Prop where
  below : Below W0.heap.size W0 u
  c : OwnL u W0.heap.size vc cs
  w : OwnL u W0.heap.size vw ws
  apart : ∀ k, OB vc k → ¬ OB vw k
theorem Two.keep {W0 : World} {vc vw : Value} {cs ws : List ByteArray} {u v : World} (h : Two W0 vc vw cs ws u) (hb : Below u.heap.size u v) : Two W0 vc vw cs ws v := ⟨bnext h.below hb, h.c.below hb, h.w.below hb, h.apart⟩
theorem Two.drewN {W0 : World} {vc vw : Value} {cs ws : List ByteArray} {u : World} (h : Two W0 vc vw cs ws u) (n : Nat) : Two W0 vc vw cs ws (u.drewN n) := h.keep (below_drewN (Below.refl _ _) n)
theorem Two.grow {W0 : World} {vc vw : Value} {cs ws : List ByteArray} {u u' : World} {t : ByteArray} {g cap : Nat} (h : Two W0 vc vw cs ws u)
    (hown : u'.ownsRow W0.heap.size 9 1 (.slice (some ⟨g, 0, none⟩) (cs.length + 1) cap) (cs.length + 1) (cs.map Value.string ++ [.string t])) (hg : (u.alloc (.cells #[.string t] 9)).grownBy u' vc.ownBlock) (hat : vc.ownBlock = some g ∨ g = u.heap.size + 1) :
    Two W0 (.slice (some ⟨g, 0, none⟩) (cs.length + 1) cap) vw (cs ++ [t]) ws u' := by
  have hb : Below u.heap.size u (u.alloc (.cells #[.string t] 9)) := (Below.refl _ _).alloc (Nat.le_refl _) _
  have hs := h.below.size
  refine ⟨(h.below.trans (hb.mono hs)).grown hg (by simp; omega) (fun k e => own_ge h.c e), ?_, ?_, fun k hk hw => ?_⟩
  · rw [map_snoc] at hown
    unfold OwnL
    rw [List.length_append]
    exact hown
  · exact own_kept (h.w.below hb) (fun k hk => hg.block k (by have := own_lt0 (own_up h.w (fun _ _ => Nat.zero_le _)) hk; simp; omega) (fun e => h.apart k e.symm hk))
  · have e : g = k := by unfold OB at hk; simp [Value.ownBlock] at hk; exact hk
    subst e
    rcases hat with h1 | h1
    · exact h.apart g h1 hw
    · have := own_lt0 (own_up h.w (fun _ _ => Nat.zero_le _)) hw
      omega
theorem Clear.loc {F F' : Nat → Prop} {a : Option Addr} {u v : World} (hc : Clear F a) (hl : Loc F F' u v) (hlt : ∀ b off, a = some ⟨b, off, none⟩ → b < u.heap.size) : Clear F' a := fun b off e hf => by
  rcases hl.own b hf with h | h
  · exact hc b off e h
  · have := hlt b off e; omega
theorem own_form {u : World} {b : Nat} {v : Value} {l : List ByteArray} (h : OwnL u b v l) : ∃ a c, v = .slice a l.length c ∧ StrsAt u a l ∧ ∀ k off, a = some ⟨k, off, none⟩ → OB v k := by
  obtain ⟨a, c, rfl, hs⟩ := h.strs
  exact ⟨a, c, rfl, hs, fun k off e => by rw [e]; rfl⟩
end Go.Proofs.YtchhojkhfdkhfaaGreatDoor
namespace Go.Proofs.YtchhojkhfdkhfaaGreatDoor
open Go Go.RowKit Frm
def confV (ck lg : Int) : Value := .agg #[.int .i64 ck, .int .i64 lg]
theorem blocks_pos {ck lg : Int} (h : blocksC ck lg ≠ 0) : 2 ≤ ck ∧ ck ≤ 256 ∧ 1 ≤ lg ∧ lg ≤ 1024 ∧ 2 * ck + 2 * lg ≤ 4096 ∧ blocksC ck lg = 2 * ck + 2 * lg := by
  unfold blocksC at *
  split at h
  · exact absurd rfl h
  · rename_i h1
    rw [if_neg h1]
    split at h
    · exact absurd rfl h
    · rename_i h2
      rw [if_neg h2]
      omega
end Go.Proofs.YtchhojkhfdkhfaaGreatDoor
namespace Go.Proofs.YtchhojkhfdkhfaaGreatDoor
open Go Go.RowKit Frm
theorem mayS_nat {st : St} {ck lg : Int} (h : st.mayS ck lg) : ∃ k l : Nat, ck = (k : Int) ∧ lg = (l : Int) ∧ 2 ≤ k ∧ k ≤ 256 ∧ 1 ≤ l ∧ l ≤ 1024 ∧ 2 * k + 2 * l ≤ 4096 ∧ 2 * k + 2 * l ≤ st.sure.length := by
  have q := blocks_pos h.1
  have q2 := h.2
  exact ⟨ck.toNat, lg.toNat, by omega, by omega, by omega, by omega, by omega, by omega, by omega, by omega⟩
theorem cellB8 {u v : World} {a : Addr} {y : Value} (hb : Below u.heap.size u v) (h : u.cell? a = some y) : v.cell? a = some y := (hb.cell (World.block_lt_of_cell? u _ h)).trans h
/-- What a call on the document's disk says. -/
def RSays8 (p : Nat) (F : Nat → Prop) (u : World) (r : Nat × St) (e : Ending) (v : World) : Prop := e = .returned (.int .i64 ((r.1 : Nat) : Int)) ∧ ∃ F', RD v p r.2 F' ∧ Loc F F' u v
theorem cell_same8 {u v : World} {B : Nat} (h : v.heap[B]? = u.heap[B]?) (i : Nat) : v.cell? ⟨B, i, none⟩ = u.cell? ⟨B, i, none⟩ := by simp [World.cell?, h]
/-- The document's disk, and a conf in a box, since w. -/
structure Bx (w : World) (F0 : Nat → Prop) (B p : Nat) (k l : Int) (st : St) (F : Nat → Prop) (u : World) : Prop where
  r : RD u p st F
  b0 : u.cell? ⟨B, 0, none⟩ = some (.int .i64 k)
  b1 : u.cell? ⟨B, 1, none⟩ = some (.int .i64 l)
  nB : ¬ F B
  loc : Loc F0 F w u
theorem Bx.keep {w : World} {F0 : Nat → Prop} {B p : Nat} {k l : Int} {st : St} {F : Nat → Prop} {u v : World} (h : Bx w F0 B p k l st F u) (hb : Below u.heap.size u v) : Bx w F0 B p k l st F v :=
  ⟨h.r.below hb, cellB8 hb h.b0, cellB8 hb h.b1, h.nB, h.loc.trans (Loc.of_below _ hb)⟩
theorem Bx.step {w : World} {F0 : Nat → Prop} {B p : Nat} {k l : Int} {st st2 : St} {F F' : Nat → Prop} {u v : World} (h : Bx w F0 B p k l st F u) (hr : RD v p st2 F') (hl : Loc F F' u v) : Bx w F0 B p k l st2 F' v := by
  have hlt : B < u.heap.size := World.block_lt_of_cell? u _ h.b0
  have hs := hl.block B hlt h.nB
  refine ⟨hr, (cell_same8 hs 0).trans h.b0, (cell_same8 hs 1).trans h.b1, fun hf => ?_, h.loc.trans hl⟩
  rcases hl.own B hf with h1 | h1
  · exact h.nB h1
  · omega
theorem Bx.c01 {w : World} {F0 : Nat → Prop} {B p : Nat} {k l : Int} {st : St} {F : Nat → Prop} {u : World} (h : Bx w F0 B p k l st F u) : u.cell? ⟨B, 0, none⟩ = some (.int .i64 k) ∧ u.cell? ⟨B, 1, none⟩ = some (.int .i64 l) := ⟨h.b0, h.b1⟩
theorem Bx.says {w : World} {F0 : Nat → Prop} {B p : Nat} {k l : Int} {r : Nat × St} {F : Nat → Prop} {u : World} (h : Bx w F0 B p k l r.2 F u) : RSays8 p F0 w r (.returned (.int .i64 ((r.1 : Nat) : Int))) u := ⟨rfl, F, h.r, h.loc⟩
end Go.Proofs.YtchhojkhfdkhfaaGreatDoor
