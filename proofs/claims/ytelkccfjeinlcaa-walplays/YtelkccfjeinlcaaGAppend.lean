/- Package wal's Append: what its ways share. Package wal's Clear. Package wal's Append: a record is laid. Package wal's Append: the disk stands still in its midst. -/
import Derived.Test.YtelkccfjeinlcaaGTail
import Derived.Test.YtelkccfjeinlcaaGLayA
namespace Go.Proofs.Ytelkccfjeinlcaa
open Go Go.RowKit Frm
theorem bgrow0 (u : World) (ob : Obj) : Below u.heap.size u (u.alloc ob) := (Below.refl _ _).alloc (Nat.le_refl _) _
theorem cellAl {u : World} {a : Addr} {v : Value} (h : u.cell? a = some v) (ob : Obj) : (u.alloc ob).cell? a = some v := cellB (bgrow0 u ob) h
theorem cellLoc {F F' : Nat → Prop} {u v : World} {a : Addr} {x : Value} (hl : Loc F F' u v) (hF : ¬ F a.block) (h : u.cell? a = some x) : v.cell? a = some x := (World.cell?_of_block (hl.block a.block (World.block_lt_of_cell? u _ h) hF)).trans h
/-- What Append leaves: the log's stream, the disk. -/
def Apd (p q o n : Nat) (s : ByteArray) (b : Bool) (st : St) (F : Nat → Prop) (w : World) (x : Int) (e : Ending) (w' : World) : Prop :=
  e = .returned (.int .i64 x) ∧ LAt w' p q o n s b ∧ ∃ F', DAt w' q st F' ∧ Loc (fun k => F k ∨ k = p) (fun k => F' k ∨ k = p) w w' ∧ ¬ F' p
theorem Apd.same {p q o n : Nat} {s : ByteArray} {b : Bool} {st : St} {F : Nat → Prop} {w w' : World} {x : Int} (hL : LAt w p q o n s b) (hD : DAt w q st F) (hp : ¬ F p) (hb : Below w.heap.size w w') : Apd p q o n s b st F w x (.returned (.int .i64 x)) w' :=
  ⟨rfl, hL.same (hb.block p hL.lt), F, con.below hD hb, Loc.of_below _ hb, hp⟩
set_option maxHeartbeats 400000 in
theorem append_broken (p q o n : Nat) (s t : ByteArray) (st : St) (F : Nat → Prop) (w : World) (hL : LAt w p q o n s true) (hD : DAt w q st F) (hp : ¬ F p) :
    Calls Try.prog 20 #[.pointer (some ⟨p, 0, none⟩), .string t] w (Apd p q o n s true st F w 3) := by
  have c0 := hL.c0
  have c5 := hL.c5
  have H := hide (fun x => Apd.same (x := x) hL hD hp (Below.refl _ _))
  clear hL hD hp
  go_enter Try.func20, Try.ntmps20
  go_wp2
  go_ret
  exact H.out 3
set_option maxHeartbeats 400000 in
theorem append_nil (t : ByteArray) (w : World) : Calls Try.prog 20 #[.pointer none, .string t] w fun e w' => e = .returned (.int .i64 1) ∧ w' = w := by
  go_enter Try.func20, Try.ntmps20
  go_wp2
  go_ret
  exact ⟨rfl, rfl⟩
set_option maxHeartbeats 400000 in
theorem append_long' (p q o n : Nat) (s t : ByteArray) (st : St) (F : Nat → Prop) (w : World) (hL : LAt w p q o n s false) (hD : DAt w q st F) (hp : ¬ F p) (ht : 65536 < t.size) (ht2 : t.size ≤ maxLen) :
    Calls Try.prog 20 #[.pointer (some ⟨p, 0, none⟩), .string t] w (Apd p q o n s false st F w 4) := by
  have c0 := hL.c0
  have c5 := hL.c5
  have KF := hide (frame_long t w ht ht2)
  have H := hide (fun x => Apd.same (x := x) hL hD hp (Below.refl _ _))
  clear hL hD hp ht ht2
  go_enter Try.func20, Try.ntmps20
  go_wp2_with fail
  refine KF.out.mono ?_
  rintro e w1 ⟨rfl, hw1⟩
  obtain rfl := hw1.symm
  go_wp2
  go_ret
  exact H.out 4
set_option maxHeartbeats 400000 in
theorem append_full' (p q o n : Nat) (s t : ByteArray) (st : St) (F : Nat → Prop) (w : World) (hL : LAt w p q o n s false) (hD : DAt w q st F) (hp : ¬ F p) (ht : t.size ≤ 65536) (hn : n ≤ 200) (hs : s.size ≤ n * 255) (hfit : n * 255 < s.size + (t.size + 8)) :
    Calls Try.prog 20 #[.pointer (some ⟨p, 0, none⟩), .string t] w (Apd p q o n s false st F w 6) := by
  have c0 := hL.c0
  have c5 := hL.c5
  have KF := hide (frame_any t w ht)
  have hz : (n : Int) * 255 - (s.size : Int) < ((frm t).size : Int) := by rw [frm_size]; omega
  have HLt := hide hL
  have HR := hide (fun u (hu : LAt u p q o n s false) => room_any p q o n s false u hu (by omega) hs)
  have H := hide (fun x w' hb => Apd.same (x := x) (w' := w') hL hD hp hb)
  clear hL hD hp ht hn hs hfit
  generalize frm t = f at *
  go_enter Try.func20, Try.ntmps20
  go_wp2_with fail
  refine KF.out.mono ?_
  rintro e w1 ⟨rfl, hb1⟩
  have KR := hide (HR.out w1 (HLt.out.same (hb1.block p HLt.out.lt)))
  have HB := hide hb1
  clear hb1
  go_wp2_with fail
  refine KR.out.mono ?_
  rintro e w2 ⟨rfl, m, rfl⟩
  go_wp2
  go_ret
  exact H.out 6 _ (below_drewN HB.out m)
/-- What lay finds when Append calls it. -/
theorem append_lay (q o n : Nat) (s f : ByteArray) (st : St) (F : Nat → Prop) (w u : World) (hD : DAt w q st F) (hok : st.Ok) (hlo : st.loose.length + n ≤ 10000) (ho : o + n ≤ 4096) (hfit : s.size + f.size ≤ n * 255) (hb : Below w.heap.size w u) :
    Calls Try.prog 49 #[.agg #[.pointer (some ⟨q, 0, none⟩), .int .i64 ((o + s.size / 255 : Nat) : Int), .int .i64 ((((tailOf s ++ f).size + 254) / 255 : Nat) : Int)], .func (.func 66) #[] #[.pointer (some ⟨u.heap.size, 0, none⟩)], .func (.func 66) #[] #[.pointer (some ⟨u.heap.size + 1, 0, none⟩)]] ((u.alloc (.cells #[.string (tailOf s)] 9)).alloc (.cells #[.string (tailOf s ++ f)] 9)) fun e w' =>
      (∃ b, e = .returned (.tuple #[.bool b, .int .i64 (((puts o (prs n (blkOf s) (blkOf (s ++ f))) 0 st).1 : Nat) : Int)])) ∧ ∃ F', DAt w' q (puts o (prs n (blkOf s) (blkOf (s ++ f))) 0 st).2 F' ∧ Loc F F' ((u.alloc (.cells #[.string (tailOf s)] 9)).alloc (.cells #[.string (tailOf s ++ f)] 9)) w' := by
  have hF := con.lt hD
  have hsz : (tailOf s ++ f).size = s.size % 255 + f.size := by rw [ByteArray.size_append, tail_size]
  have hb2 : Below w.heap.size w ((u.alloc (.cells #[.string (tailOf s)] 9)).alloc (.cells #[.string (tailOf s ++ f)] 9)) := (hb.alloc hb.size _).alloc (by have := hb.size; simp; omega) _
  have hus := hb.size
  have g0 : ((u.alloc (.cells #[.string (tailOf s)] 9)).alloc (.cells #[.string (tailOf s ++ f)] 9)).cell? ⟨u.heap.size, 0, none⟩ = some (.string (tailOf s)) := cellAl (by simp [go_sem]) _
  have g1 : ((u.alloc (.cells #[.string (tailOf s)] 9)).alloc (.cells #[.string (tailOf s ++ f)] 9)).cell? ⟨u.heap.size + 1, 0, none⟩ = some (.string (tailOf s ++ f)) := by
    have := (Boxed.new (u.alloc (.cells #[.string (tailOf s)] 9)) 9 (.string (tailOf s ++ f))).cell
    rw [World.size_alloc] at this
    exact this
  have hlast : ((u.alloc (.cells #[.string (tailOf s)] 9)).alloc (.cells #[.string (tailOf s ++ f)] 9)).heap.size = u.heap.size + 2 := by simp
  generalize (u.alloc (.cells #[.string (tailOf s)] 9)).alloc (.cells #[.string (tailOf s ++ f)] 9) = W at *
  have hT : ((tailOf s ++ f).size + 254) / 255 ≤ n := by rw [hsz]; omega
  have hT2 : s.size / 255 + ((tailOf s ++ f).size + 254) / 255 ≤ n := by rw [hsz]; omega
  have key := lay_66_66 q (o + s.size / 255) (((tailOf s ++ f).size + 254) / 255) u.heap.size (u.heap.size + 1) (blkOf (tailOf s)) (blkOf (tailOf s ++ f)) st F (fun k => k = u.heap.size ∨ k = u.heap.size + 1) W (con.below hD hb2) hok (by omega) (by omega) (by omega)
    (fun k hk => ⟨by omega, fun hf => by have := hF k hf; omega⟩)
    (fun v i hv hi => blk_any _ _ i v (hv.cell (Or.inr rfl) g1) (by omega)) (fun v i hv hi => blk_any _ _ i v (hv.cell (Or.inl rfl) g0) (by omega))
  refine key.mono ?_
  rintro e w' ⟨rfl, F', hd, hl⟩
  rw [puts_touched o n s f st hfit] at hd ⊢
  exact ⟨⟨_, rfl⟩, F', hd, hl⟩
theorem Loc.or {F F' P : Nat → Prop} {u v : World} (h : Loc F F' u v) : Loc (fun k => F k ∨ P k) (fun k => F' k ∨ P k) u v :=
  ⟨h.os, h.tape, h.output, h.size, fun k hk hn => h.block k hk (fun hf => hn (Or.inl hf)), fun k hk => by
    rcases hk with h1 | h1
    · rcases h.own k h1 with h2 | h2
      · exact Or.inl (Or.inl h2)
      · exact Or.inr h2
    · exact Or.inl (Or.inr h1)⟩
/-- Behind lay: where the log and the disk are. -/
structure Laid (p q o n : Nat) (s : ByteArray) (st : St) (F F7 : Nat → Prop) (w w7 : World) : Prop where
  log : LAt w7 p q o n s false
  disk : DAt w7 q st F7
  loc : Loc (fun k => F k ∨ k = p) (fun k => F7 k ∨ k = p) w w7
  notp : ¬ F7 p
theorem Laid.mk' {p q o n : Nat} {s : ByteArray} {st : St} {F F7 : Nat → Prop} {w u w7 : World} {o1 o2 : Obj} (hL : LAt w p q o n s false) (hp : ¬ F p) (hb : Below w.heap.size w u) (hd : DAt w7 q st F7) (hl : Loc F F7 ((u.alloc o1).alloc o2) w7) : Laid p q o n s st F F7 w w7 := by
  have hb2 : Below w.heap.size w ((u.alloc o1).alloc o2) := (hb.alloc hb.size _).alloc (by have := hb.size; simp; omega) _
  have hlt := hL.lt
  have hs := hb2.size
  refine ⟨hL.same ((hl.block p (by omega) hp).trans (hb2.block p hlt)), hd, (Loc.of_below _ hb2).trans hl.or, fun hf => ?_⟩
  rcases hl.own p hf with h | h
  · exact hp h
  · omega
theorem Laid.broken {p q o n : Nat} {s : ByteArray} {st : St} {F F7 : Nat → Prop} {w w7 : World} (h : Laid p q o n s st F F7 w w7) (x : Int) : Apd p q o n s true st F w x (.returned (.int .i64 x)) (w7.setCell ⟨p, 5, none⟩ (.bool true)) := by
  refine ⟨rfl, ?_, F7, con.same h.disk (fun k hk => Below.heap_setCell w7 _ _ k (fun e => h.notp (by rw [show k = p from e] at hk; exact hk))), h.loc.trans (Loc.setCell w7 ⟨p, 5, none⟩ _ (Or.inr rfl)), h.notp⟩
  have := heap_set3 (i := 5) h.log (.bool true)
  exact this
theorem Laid.at8 {p q o n : Nat} {s : ByteArray} {v : Value} {st : St} {F F7 : Nat → Prop} {w w7 w8 : World} (h : Laid p q o n s st F F7 w w7) (hb : Below (w7.setCell ⟨p, 3, none⟩ v).heap.size (w7.setCell ⟨p, 3, none⟩ v) w8) : w8.cell? ⟨p, 4, none⟩ = some (.string (tailOf s)) ∧ w8.frozen? ⟨p, 4, none⟩ = false := by
  have hsz : (w7.setCell ⟨p, 3, none⟩ v).heap.size = w7.heap.size := by simp [World.setCell]
  have e8 : w8.heap[p]? = _ := (hb.block p (by rw [hsz]; exact h.log.lt)).trans (heap_set3 (i := 3) h.log v)
  exact ⟨by simp [World.cell?, e8], by simp [World.frozen?, e8]⟩
theorem Laid.done {p q o n m : Nat} {s sf T' : ByteArray} {st : St} {F F7 : Nat → Prop} {w w7 w8 : World} (h : Laid p q o n s st F F7 w w7) (hb : Below (w7.setCell ⟨p, 3, none⟩ (.int .i64 (m : Int))).heap.size (w7.setCell ⟨p, 3, none⟩ (.int .i64 (m : Int))) w8) (hm : sf.size = m) (hT : T' = tailOf sf) : Apd p q o n sf false st F w 0 (.returned (.int .i64 0)) (w8.setCell ⟨p, 4, none⟩ (.string T')) := by
  subst hm
  subst hT
  have h7 := h.log
  have hsz : (w7.setCell ⟨p, 3, none⟩ (.int .i64 (sf.size : Int))).heap.size = w7.heap.size := by simp [World.setCell]
  have e8 : w8.heap[p]? = _ := (hb.block p (by rw [hsz]; exact h7.lt)).trans (heap_set3 (i := 3) h.log (.int .i64 (sf.size : Int)))
  have ne : ∀ k, F7 k → k ≠ p := fun k hk e => h.notp (by rw [e] at hk; exact hk)
  have hd := con.lt h.disk
  refine ⟨rfl, ?_, F7, con.same h.disk (fun k hk => ?_), (h.loc.trans (Loc.setCell w7 ⟨p, 3, none⟩ _ (Or.inr rfl))).trans ((Loc.of_below _ hb).trans (Loc.setCell w8 ⟨p, 4, none⟩ _ (Or.inr rfl))), h.notp⟩
  · have := heap_set3 (i := 4) e8 (.string (tailOf sf))
    exact this
  · rw [Below.heap_setCell w8 _ _ k (ne k hk), hb.block k (by rw [hsz]; exact hd k hk), Below.heap_setCell w7 _ _ k (ne k hk)]
end Go.Proofs.Ytelkccfjeinlcaa
namespace Go.Proofs.Ytelkccfjeinlcaa
open Go Go.RowKit Frm
theorem zeros_succ (n b : Nat) (st : St) : zeros (n + 1) b st = if (st.write ((b : Nat) : Int) zblock).1 = 0 then zeros n (b + 1) (st.write ((b : Nat) : Int) zblock).2 else st.write ((b : Nat) : Int) zblock := rfl
/-- Between two writes. -/
structure Clr (w : World) (q o N : Nat) (st : St) (F : Nat → Prop) (B k : Nat) (cur : St) (F' : Nat → Prop) (u : World) : Prop where
  rest : zeros N o st = zeros (N - k) (o + k) cur
  disk : DAt u q cur F'
  loc : Loc F F' w u
  ok : cur.Ok
  few : cur.loose.length ≤ st.loose.length + k
  box : u.cell? ⟨B, 0, none⟩ = some (.string ⟨#[]⟩)
  notB : ¬ F' B
theorem clear_of {st : St} {o N : Nat} : ((zeros N o st).1 ≠ 0 → walClear st o N = zeros N o st) ∧ ((zeros N o st).1 = 0 → walClear st o N = (zeros N o st).2.sync) := by
  unfold walClear
  exact ⟨fun h => by rw [if_pos h], fun h => by rw [if_neg (by rw [h]; simp)]⟩
set_option maxRecDepth 10000 in
set_option maxHeartbeats 2000000 in
theorem clear_any (q o N : Nat) (st : St) (F : Nat → Prop) (w : World) (hD : DAt w q st F) (hok : st.Ok) (hl : st.loose.length + N ≤ 10000) (hN : o + N ≤ st.sure.length) (h1 : 1 ≤ N) :
    Calls Try.prog 18 #[.pointer (some ⟨q, 0, none⟩), .int .i64 (o : Int), .int .i64 (N : Int)] w fun e w' => e = .returned (.int .i64 (((walClear st o N).1 : Nat) : Int)) ∧ ∃ F', DAt w' q (walClear st o N).2 F' ∧ Loc F F' w w' := by
  have hfew := hok.few
  obtain ⟨W, hW⟩ : ∃ W, w.alloc (.cells #[.pointer (some ⟨q, 0, none⟩), .int .i64 (o : Int), .int .i64 (N : Int)] 87) = W := ⟨_, rfl⟩
  have hbW : Below w.heap.size w W := by rw [← hW]; exact (Below.refl _ _).alloc (Nat.le_refl _) _
  have hszW : W.heap.size = w.heap.size + 1 := by rw [← hW]; simp
  have harea : W.heap[w.heap.size]? = some (.cells #[.pointer (some ⟨q, 0, none⟩), .int .i64 (o : Int), .int .i64 (N : Int)] 87 (0, 0)) := by rw [← hW]; exact World.alloc_heap_new w _
  have hc0 : W.cell? ⟨w.heap.size, 0, none⟩ = some (.pointer (some ⟨q, 0, none⟩)) := by simp [World.cell?, harea]
  have hc1 : W.cell? ⟨w.heap.size, 1, none⟩ = some (.int .i64 (o : Int)) := by simp [World.cell?, harea]
  have hc2 : W.cell? ⟨w.heap.size, 2, none⟩ = some (.int .i64 (N : Int)) := by simp [World.cell?, harea]
  have hmay : st.may (o : Int) (N : Int) := by unfold St.may; omega
  have KF : Hid (Calls Try.prog 38 #[.agg #[.pointer (some ⟨q, 0, none⟩), .int .i64 (o : Int), .int .i64 (N : Int)]] W fun e w' => e = .returned (.int .i64 0) ∧ Below W.heap.size W w') := by
    have := fault_any q (o : Int) (N : Int) st F W (con.below hD hbW) hok (by omega)
    rw [if_pos hmay] at this
    exact this
  have HS : Hid (∀ w1, Below W.heap.size W w1 → Clr w q o N st F w1.heap.size 0 st F (w1.alloc (.cells #[.string ⟨#[]⟩] 9))) := fun w1 hb1 => by
    have hb2 : Below w.heap.size w (w1.alloc (.cells #[.string ⟨#[]⟩] 9)) := (hbW.trans (hb1.mono (by omega))).alloc (by have := hb1.size; omega) _
    exact ⟨rfl, con.below hD hb2, Loc.of_below F hb2, hok, Nat.le_refl _, by simp [go_sem], fun hf => by have := con.lt hD _ hf; have := hb1.size; omega⟩
  have HC := hide (clear_of (st := st) (o := o) (N := N))
  have ho4 : o ≤ 4096 := by omega
  have hN4 : N ≤ 4096 := by omega
  clear hD hok hN hbW harea hmay
  generalize walClear st o N = M at *
  go_enter Try.func18, Try.ntmps18
  go_wp2_with fail
  refine KF.out.mono ?_
  rintro e w1 ⟨rfl, hb1⟩
  have HS1 := hide (HS.out w1 hb1)
  clear hb1
  go_wp2_with fail
  refine (blocks_any ⟨#[]⟩ _).mono ?_
  rintro e w2 ⟨rfl, rfl⟩
  go_wp2_with fail
  generalize w1.alloc (.cells #[.string ⟨#[]⟩] 9) = W2 at *
  generalize w1.heap.size = B at *
  go_loopw [10, 11, 23] (fun _ _ c wr => ∃ k : Nat, k ≤ N ∧ c = .int .i64 (k : Int) ∧ ∃ cur F', Clr w q o N st F B k cur F' wr) (fun _ _ c _ => N - (intOf c).toNat)
  case atStart => exact ⟨0, Nat.zero_le _, rfl, st, F, HS1.out⟩
  case round =>
    obtain ⟨k, hk, rfl, cur, F', hc⟩ := hrel
    by_cases hlt : k < N
    · have hz : (k : Int) < (N : Int) := by omega
      have hw : wrap64 ((o : Int) + (k : Int)) = ((o + k : Nat) : Int) := by unfold wrap64; omega
      have hw2 : IntKind.i64.wrap ((k : Int) + 1) = (k : Int) + 1 := by rw [IntKind.wrap_i64]; omega
      have KB : Hid (Calls Try.prog 66 #[.int .i64 (k : Int), .pointer (some ⟨B, 0, none⟩)] wr fun e w' => e = .returned (.string zblock) ∧ Below wr.heap.size wr w') := by
        have := blk_any ⟨#[]⟩ B k wr hc.box (by omega)
        have e : blkOf ⟨#[]⟩ k = zblock := blkOf_none k
        rw [e] at this
        exact this
      have hze : zeros N o st = if (cur.write ((o + k : Nat) : Int) zblock).1 = 0 then zeros (N - (k + 1)) (o + (k + 1)) (cur.write ((o + k : Nat) : Int) zblock).2 else cur.write ((o + k : Nat) : Int) zblock := by
        rw [hc.rest, show N - k = N - (k + 1) + 1 from by omega, zeros_succ, Nat.add_assoc]
      have HZE := hide hze
      have KW : Hid (∀ u, DAt u q cur F' → Calls Try.prog 31 #[.pointer (some ⟨q, 0, none⟩), .int .i64 ((o + k : Nat) : Int), .string zblock] u fun e v => e = .returned (.int .i64 (((cur.write ((o + k : Nat) : Int) zblock).1 : Nat) : Int)) ∧ ∃ F2, DAt v q (cur.write ((o + k : Nat) : Int) zblock).2 F2 ∧ Loc F' F2 u v) := fun u hu => write_any q cur F' _ zblock u hu hc.ok (by have := hc.few; omega)
      have HCl := hide hc
      have HOK := hide (hc.ok.write ((o + k : Nat) : Int) zblock)
      have HFW := hide (write_loose cur ((o + k : Nat) : Int) zblock)
      clear hze hc
      generalize zblock = zb at *
      by_cases he : (cur.write ((o + k : Nat) : Int) zb).1 = 0
      · rw [he] at KW
        have HZ2 : Hid (zeros N o st = zeros (N - (k + 1)) (o + (k + 1)) (cur.write ((o + k : Nat) : Int) zb).2) := by
          have := HZE.out
          rw [if_pos he] at this
          exact this
        clear he
        generalize (cur.write ((o + k : Nat) : Int) zb).2 = nx at *
        go_wp2_with fail
        refine KB.out.mono ?_
        rintro e w3 ⟨rfl, hb3⟩
        have KW3 := hide (KW.out w3 (con.below HCl.out.disk hb3))
        have HB3 := hide hb3
        clear hb3
        go_wp2_with fail
        refine KW3.out.mono ?_
        rintro e w4 ⟨rfl, F2, hd4, hl4⟩
        have HD4 := hide hd4
        have HL4 := hide hl4
        clear hd4 hl4
        go_wp2
        go_roundw
        case rel =>
          refine ⟨k + 1, hlt, by go_num, nx, F2, ⟨HZ2.out, HD4.out, HCl.out.loc.trans ((Loc.of_below _ HB3.out).trans HL4.out), HOK.out, by have := HFW.out; have := HCl.out.few; omega, ?_, fun hf => ?_⟩⟩
          · exact cellLoc HL4.out HCl.out.notB (cellB HB3.out HCl.out.box)
          · rcases HL4.out.own B hf with h | h
            · exact HCl.out.notB h
            · have := World.block_lt_of_cell? _ _ HCl.out.box
              have := HB3.out.size
              simp only at *
              omega
        case measure => simp [intOf]; omega
      · have hez : ¬ ((((cur.write ((o + k : Nat) : Int) zb).1 : Nat) : Int) = 0) := by omega
        have HZ2 : Hid (M = cur.write ((o + k : Nat) : Int) zb) := by
          have := HZE.out
          rw [if_neg he] at this
          have h2 := HC.out.1 (by rw [this]; exact he)
          rw [this] at h2
          exact h2
        clear he
        generalize cur.write ((o + k : Nat) : Int) zb = nx at *
        go_wp2_with fail
        refine KB.out.mono ?_
        rintro e w3 ⟨rfl, hb3⟩
        have KW3 := hide (KW.out w3 (con.below HCl.out.disk hb3))
        have HB3 := hide hb3
        clear hb3
        go_wp2_with fail
        refine KW3.out.mono ?_
        rintro e w4 ⟨rfl, F2, hd4, hl4⟩
        have HD4 := hide hd4
        have HL4 := hide hl4
        clear hd4 hl4
        go_wp2
        go_ret
        exact ⟨by rw [HZ2.out]; rfl, F2, by rw [HZ2.out]; exact HD4.out, HCl.out.loc.trans ((Loc.of_below _ HB3.out).trans HL4.out)⟩
    · have hkN : k = N := by omega
      subst hkN
      have hze : zeros k o st = (0, cur) := by rw [hc.rest, Nat.sub_self]; rfl
      have HM : Hid (M = cur.sync) := by
        have := HC.out.2 (by rw [hze])
        rw [hze] at this
        exact this
      have KS := hide (con.sync q cur F' wr hc.disk hc.ok (by have := hc.few; omega))
      have HCl := hide hc
      clear hze hc
      go_wp2_with fail
      refine KS.out.mono ?_
      rintro e w4 ⟨rfl, F2, hd4, hl4⟩
      have HD4 := hide hd4
      have HL4 := hide hl4
      clear hd4 hl4
      go_wp2
      go_ret
      exact ⟨by rw [HM.out]; rfl, F2, by rw [HM.out]; exact HD4.out, HCl.out.loc.trans HL4.out⟩
set_option maxRecDepth 10000 in
set_option maxHeartbeats 1000000 in
theorem clear_not (q : Nat) (o n : Int) (st : St) (F : Nat → Prop) (w : World) (hD : DAt w q st F) (hok : st.Ok) (hn : -9223372036854775808 ≤ n ∧ n ≤ 9223372036854775807) (hmay : ¬ st.may o n) :
    Calls Try.prog 18 #[.pointer (some ⟨q, 0, none⟩), .int .i64 o, .int .i64 n] w fun e w' => e = .returned (.int .i64 2) ∧ Below w.heap.size w w' := by
  have hb := (Below.refl w.heap.size w).alloc (Nat.le_refl _) (.cells #[.pointer (some ⟨q, 0, none⟩), .int .i64 o, .int .i64 n] 87)
  have KF := hide (fault_any q o n st F _ (con.below hD hb) hok hn)
  rw [if_neg hmay] at KF
  have HB := hide hb
  clear hb hD hok hn hmay
  go_enter Try.func18, Try.ntmps18
  go_wp2_with fail
  refine KF.out.mono ?_
  rintro e w1 ⟨rfl, hb1⟩
  have HB1 := hide (HB.out.trans (hb1.mono (by simp)))
  clear hb1
  go_wp2
  go_ret
  exact ⟨rfl, HB1.out⟩
set_option maxRecDepth 10000 in
set_option maxHeartbeats 1000000 in
theorem clear_nil (o n : Int) (w : World) : Calls Try.prog 18 #[.pointer none, .int .i64 o, .int .i64 n] w fun e w' => e = .returned (.int .i64 1) ∧ Below w.heap.size w w' := by
  have hb := (Below.refl w.heap.size w).alloc (Nat.le_refl _) (.cells #[.pointer none, .int .i64 o, .int .i64 n] 87)
  have KF := hide (fault_nil o n (w.alloc (.cells #[.pointer none, .int .i64 o, .int .i64 n] 87)))
  have HB := hide hb
  clear hb
  go_enter Try.func18, Try.ntmps18
  go_wp2_with fail
  refine KF.out.mono ?_
  rintro e w1 ⟨rfl, hb1⟩
  have HB1 := hide (HB.out.trans (hb1.mono (by simp)))
  clear hb1
  go_wp2
  go_ret
  exact ⟨rfl, HB1.out⟩
end Go.Proofs.Ytelkccfjeinlcaa
namespace Go.Proofs.Ytelkccfjeinlcaa
open Go Go.RowKit Frm
set_option maxRecDepth 10000 in
set_option maxHeartbeats 4000000 in
theorem append_ok (p q o n : Nat) (s t : ByteArray) (st : St) (F : Nat → Prop) (w : World) (hL : LAt w p q o n s false) (hD : DAt w q st F) (hp : ¬ F p) (hok : st.Ok) (hlo : st.loose.length + n ≤ 10000) (ho : o + n ≤ 4096) (ht : t.size ≤ 65536) (hn : n ≤ 200) (hs : s.size ≤ n * 255) (hfit : s.size + (t.size + 8) ≤ n * 255) (hput : (puts o (prs n (blkOf s) (blkOf (s ++ frm t))) 0 st).1 = 0) :
    Calls Try.prog 20 #[.pointer (some ⟨p, 0, none⟩), .string t] w (Apd p q o n (s ++ frm t) false (puts o (prs n (blkOf s) (blkOf (s ++ frm t))) 0 st).2 F w 0) := by
  have c0 := hL.c0
  have c5 := hL.c5
  have hfs := frm_size t
  have hts := tail_size s
  have KF := hide (frame_any t w ht)
  have hz : ¬ ((n : Int) * 255 - (s.size : Int) < ((frm t).size : Int)) := by omega
  have hcat : ¬ (9223372036854775807 < (tailOf s).size + (frm t).size) := by omega
  have HLt := hide hL
  have HRm := hide (fun u (hu : LAt u p q o n s false) => room_any p q o n s false u hu (by omega) hs)
  have HTo := hide (fun u (hu : LAt u p q o n s false) => touched_any p q o n s (tailOf s ++ frm t) false u hu (by omega) (by omega) (by rw [ByteArray.size_append]; omega))
  have HLy := hide (fun u (hu : Below w.heap.size w u) => append_lay q o n s (frm t) st F w u hD hok hlo ho (by omega) hu)
  have HTl := hide (fun u => tail_any (tailOf s ++ frm t) u (by rw [ByteArray.size_append]; omega))
  have hD0 := hD
  have HPF := hide hp
  have HTA := hide (tail_app s (frm t))
  have hsum : wrap64 ((s.size : Int) + ((frm t).size : Int)) = ((s.size + (frm t).size : Nat) : Int) := by unfold wrap64; omega
  have HSA : Hid ((s ++ frm t).size = s.size + (frm t).size) := ByteArray.size_append
  have HDD := hide hD
  
  have HPU := hide hput
  rw [hput] at HLy
  clear hL hD hp hok hlo ho ht hn hs hfit hput hfs hts hD0
  generalize puts o (prs n (blkOf s) (blkOf (s ++ frm t))) 0 st = P at *
  generalize hTs : tailOf s = T at *
  generalize hsf : s ++ frm t = SF at *
  generalize frm t = f at *
  have HTs := hide hTs
  have HSf := hide hsf
  clear hTs hsf
  go_enter Try.func20, Try.ntmps20
  go_wp2_with fail
  refine KF.out.mono ?_
  rintro e w1 ⟨rfl, hb1⟩
  have hL1 : LAt w1 p q o n s false := HLt.out.same (hb1.block p HLt.out.lt)
  have d4 := hL1.c4
  rw [HTs.out] at d4
  have KR := hide (HRm.out w1 hL1)
  have HL1 := hide hL1
  have HB1 := hide hb1
  clear hL1 hb1
  go_wp2_with fail
  refine KR.out.mono ?_
  rintro e w2 ⟨rfl, m, rfl⟩
  go_wp2_with fail
  have HB2 := hide (below_drewN HB1.out m)
  have D4 : Hid ((w1.drewN m).drew.cell? ⟨p, 4, none⟩ = some (.string T)) := d4
  have HT2 : Hid (LAt (w1.drewN m).drew p q o n s false) := HL1.out
  have HB3 : Hid (Below w.heap.size w (w1.drewN m).drew) := HB2.out.drew
  clear d4 c0 c5
  generalize hNT : ((T ++ f).size + 254) / 255 = nt at *
  generalize hOT : o + s.size / 255 = ot at *
  clear hNT hOT
  generalize hX : T ++ f = X at *
  have HX := hide hX
  clear hX
  generalize w1.drewN m = w2 at *
  go_region_held3 (fun z => z.cell? ⟨p, 4, none⟩ = some (.string T))
    (first | (with_reducible exact D4.out) | ((with_reducible refine cellB hbT ?_); with_reducible assumption) | ((with_reducible refine cellLoc hlay HPF.out ?_); with_reducible assumption) | ((with_reducible refine cellAl ?_ _); with_reducible assumption))
    (first
      | (go_at_call 48; refine (HTo.out _ HT2.out).mono ?_; rintro e w5 ⟨rfl, hbT⟩; have HB5 := hide (bnext HB3.out hbT))
      | (go_at_call_of 39 (Value.string T); refine (blocks_any T _).mono ?_; rintro e w6 ⟨rfl, rfl⟩)
      | (go_at_call_of 39 (Value.string X); refine (blocks_any X _).mono ?_; rintro e w6 ⟨rfl, rfl⟩)
      | (go_at_call 49; refine (HLy.out _ HB5.out).mono ?_; rintro e w7 ⟨⟨bb, rfl⟩, F7, hd7, hlay⟩))
  have hLd := Laid.mk' HLt.out HPF.out HB5.out hd7 hlay
  have HLd := hide hLd
  have e3 := hLd.log.c3
  have f3 := hLd.log.free 3
  clear hd7 hlay hbT hLd
  go_wp2_with fail
  refine (HTl.out _).mono ?_
  rintro e w8 ⟨rfl, hb8⟩
  have e8 : w8.cell? ⟨p, 4, none⟩ = some (.string (tailOf s)) ∧ w8.frozen? ⟨p, 4, none⟩ = false := HLd.out.at8 hb8
  obtain ⟨e4, f4⟩ := e8
  have HB8 := hide hb8
  clear hb8
  go_wp2
  go_ret
  refine Laid.done HLd.out HB8.out ?_ ?_
  · exact HSA.out
  · exact HTA.out
end Go.Proofs.Ytelkccfjeinlcaa
namespace Go.Proofs.Ytelkccfjeinlcaa
open Go Go.RowKit Frm
set_option maxRecDepth 10000 in
set_option maxHeartbeats 4000000 in
theorem append_err (p q o n : Nat) (s t : ByteArray) (st : St) (F : Nat → Prop) (w : World) (hL : LAt w p q o n s false) (hD : DAt w q st F) (hp : ¬ F p) (hok : st.Ok) (hlo : st.loose.length + n ≤ 10000) (ho : o + n ≤ 4096) (ht : t.size ≤ 65536) (hn : n ≤ 200) (hs : s.size ≤ n * 255) (hfit : s.size + (t.size + 8) ≤ n * 255) (hput : (puts o (prs n (blkOf s) (blkOf (s ++ frm t))) 0 st).1 ≠ 0) :
    Calls Try.prog 20 #[.pointer (some ⟨p, 0, none⟩), .string t] w (Apd p q o n s true (puts o (prs n (blkOf s) (blkOf (s ++ frm t))) 0 st).2 F w (((puts o (prs n (blkOf s) (blkOf (s ++ frm t))) 0 st).1 : Nat) : Int)) := by
  have c0 := hL.c0
  have c5 := hL.c5
  have hfs := frm_size t
  have hts := tail_size s
  have KF := hide (frame_any t w ht)
  have hz : ¬ ((n : Int) * 255 - (s.size : Int) < ((frm t).size : Int)) := by omega
  have hcat : ¬ (9223372036854775807 < (tailOf s).size + (frm t).size) := by omega
  have HLt := hide hL
  have HRm := hide (fun u (hu : LAt u p q o n s false) => room_any p q o n s false u hu (by omega) hs)
  have HTo := hide (fun u (hu : LAt u p q o n s false) => touched_any p q o n s (tailOf s ++ frm t) false u hu (by omega) (by omega) (by rw [ByteArray.size_append]; omega))
  have HLy := hide (fun u (hu : Below w.heap.size w u) => append_lay q o n s (frm t) st F w u hD hok hlo ho (by omega) hu)
  have HTl := hide (fun u => tail_any (tailOf s ++ frm t) u (by rw [ByteArray.size_append]; omega))
  have hD0 := hD
  have HPF := hide hp
  have HTA := hide (tail_app s (frm t))
  have hsum : wrap64 ((s.size : Int) + ((frm t).size : Int)) = ((s.size + (frm t).size : Nat) : Int) := by unfold wrap64; omega
  have HSA : Hid ((s ++ frm t).size = s.size + (frm t).size) := ByteArray.size_append
  have HDD := hide hD
  have hez : ¬ ((((puts o (prs n (blkOf s) (blkOf (s ++ frm t))) 0 st).1 : Nat) : Int) = 0) := by omega
  have HPU := hide hput
  
  clear hL hD hp hok hlo ho ht hn hs hfit hput hfs hts hD0
  generalize puts o (prs n (blkOf s) (blkOf (s ++ frm t))) 0 st = P at *
  generalize hTs : tailOf s = T at *
  generalize hsf : s ++ frm t = SF at *
  generalize frm t = f at *
  have HTs := hide hTs
  have HSf := hide hsf
  clear hTs hsf
  go_enter Try.func20, Try.ntmps20
  go_wp2_with fail
  refine KF.out.mono ?_
  rintro e w1 ⟨rfl, hb1⟩
  have hL1 : LAt w1 p q o n s false := HLt.out.same (hb1.block p HLt.out.lt)
  have d4 := hL1.c4
  rw [HTs.out] at d4
  have KR := hide (HRm.out w1 hL1)
  have HL1 := hide hL1
  have HB1 := hide hb1
  clear hL1 hb1
  go_wp2_with fail
  refine KR.out.mono ?_
  rintro e w2 ⟨rfl, m, rfl⟩
  go_wp2_with fail
  have HB2 := hide (below_drewN HB1.out m)
  have D4 : Hid ((w1.drewN m).drew.cell? ⟨p, 4, none⟩ = some (.string T)) := d4
  have HT2 : Hid (LAt (w1.drewN m).drew p q o n s false) := HL1.out
  have HB3 : Hid (Below w.heap.size w (w1.drewN m).drew) := HB2.out.drew
  clear d4 c0 c5
  generalize hNT : ((T ++ f).size + 254) / 255 = nt at *
  generalize hOT : o + s.size / 255 = ot at *
  clear hNT hOT
  generalize hX : T ++ f = X at *
  have HX := hide hX
  clear hX
  generalize w1.drewN m = w2 at *
  go_region_held3 (fun z => z.cell? ⟨p, 4, none⟩ = some (.string T))
    (first | (with_reducible exact D4.out) | ((with_reducible refine cellB hbT ?_); with_reducible assumption) | ((with_reducible refine cellLoc hlay HPF.out ?_); with_reducible assumption) | ((with_reducible refine cellAl ?_ _); with_reducible assumption))
    (first
      | (go_at_call 48; refine (HTo.out _ HT2.out).mono ?_; rintro e w5 ⟨rfl, hbT⟩; have HB5 := hide (bnext HB3.out hbT))
      | (go_at_call_of 39 (Value.string T); refine (blocks_any T _).mono ?_; rintro e w6 ⟨rfl, rfl⟩)
      | (go_at_call_of 39 (Value.string X); refine (blocks_any X _).mono ?_; rintro e w6 ⟨rfl, rfl⟩)
      | (go_at_call 49; refine (HLy.out _ HB5.out).mono ?_; rintro e w7 ⟨⟨bb, rfl⟩, F7, hd7, hlay⟩))
  have hLd := Laid.mk' HLt.out HPF.out HB5.out hd7 hlay
  have HLd := hide hLd
  have e5 := hLd.log.c5
  have f5 := hLd.log.free 5
  clear hd7 hlay hbT hLd
  go_wp2
  go_ret
  exact HLd.out.broken _
end Go.Proofs.Ytelkccfjeinlcaa
