/- The document's own reader. -/
import Derived.Test.YtodndkmpjpiidaaRefWrite
namespace Go.Proofs.Ytodndkmpjpiidaa
open Go Go.RowKit

/-- A reader: its bytes, and its fault. -/
structure St where
  s : ByteArray
  e : Nat
/-- What is left behind n bytes. -/
def St.less (st : St) (n : Nat) : St := ⟨st.s.extract n st.s.size, st.e⟩
def St.bad (st : St) (e : Nat) : St := ⟨st.s, e⟩
/-- Uint. -/
def St.uint (st : St) (most : Nat) : Nat × St :=
  if st.e ≠ 0 then (0, st)
  else if (rd (bytesOf st.s)).2 = 0 then (0, st.bad 8)
  else if most < (rd (bytesOf st.s)).1 then (0, st.bad 9)
  else ((rd (bytesOf st.s)).1, st.less (rd (bytesOf st.s)).2)
/-- Int. -/
def St.int (st : St) (least most : Int) : Int × St :=
  if st.e ≠ 0 then (0, st)
  else if (rd (bytesOf st.s)).2 = 0 then (0, st.bad 8)
  else if zag (rd (bytesOf st.s)).1 < least ∨ most < zag (rd (bytesOf st.s)).1 then (0, st.bad 9)
  else (zag (rd (bytesOf st.s)).1, st.less (rd (bytesOf st.s)).2)
/-- How long a text, or a list, is, and how many bytes that number has; none: a fault. -/
def St.count0 (st : St) (most : Int) : Option (Nat × Nat) × St :=
  if st.e ≠ 0 then (none, st)
  else if (rd (bytesOf st.s)).2 = 0 then (none, st.bad 8)
  else if most < 0 ∨ most < ((rd (bytesOf st.s)).1 : Int) then (none, st.bad 4)
  else if st.s.size - (rd (bytesOf st.s)).2 < (rd (bytesOf st.s)).1 then (none, st.bad 8)
  else (some (rd (bytesOf st.s)), st)
/-- Text. -/
def St.text (st : St) (most : Int) : ByteArray × St :=
  match st.count0 most with
  | (none, st') => (⟨#[]⟩, st')
  | (some (x, n), st') => (st.s.extract n (n + x), st'.less (n + x))
/-- Count. -/
def St.count (st : St) (most : Int) : Nat × St :=
  match st.count0 most with
  | (none, st') => (0, st')
  | (some (x, n), st') => (x, st'.less n)
/-- Bool. -/
def St.bool (st : St) : Bool × St :=
  if st.e ≠ 0 then (false, st)
  else match bytesOf st.s with
    | [] => (false, st.bad 8)
    | c :: _ => if 1 < c then (false, st.bad 8) else (decide (c = 1), st.less 1)
/-- End. -/
def St.end_ (st : St) : Nat × St :=
  if st.e = 0 ∧ st.s.size ≠ 0 then (8, st.bad 8) else (st.e, st)

/-- The document's own reader lies at block p. -/
def RefAt (w : World) (p : Nat) (st : St) : Prop :=
  w.cell? ⟨p, 0, none⟩ = some (.string st.s) ∧ w.cell? ⟨p, 1, none⟩ = some (.int .i64 (st.e : Int)) ∧ w.frozen? ⟨p, 0, none⟩ = false ∧ w.frozen? ⟨p, 1, none⟩ = false
/-- All blocks that were there are as they were, but p. -/
structure But (p : Nat) (w w' : World) : Prop where
  os : w'.os = w.os
  tape : w'.tape = w.tape
  output : w'.output = w.output
  size : w.heap.size ≤ w'.heap.size
  block : ∀ k : Nat, k < w.heap.size → k ≠ p → w'.heap[k]? = w.heap[k]?
theorem But.refl (p : Nat) (w : World) : But p w w := ⟨rfl, rfl, rfl, Nat.le_refl _, fun _ _ _ => rfl⟩
theorem But.set (p : Nat) (w : World) (o : Nat) (v : Value) : But p w (w.setCell ⟨p, o, none⟩ v) :=
  ⟨rfl, rfl, rfl, by simp [World.setCell], fun k _ hk => Below.heap_setCell w ⟨p, o, none⟩ v k hk⟩
theorem But.below {B p : Nat} {w w' : World} (h : But p w w') (hB : B ≤ p) (hw : B ≤ w.heap.size) : Below B w w' :=
  ⟨h.os, h.tape, h.output, h.size, fun k hk => h.block k (by omega) (by omega)⟩
theorem RefAt.bad {w : World} {p : Nat} {st : St} (h : RefAt w p st) (e : Nat) : RefAt (w.setCell ⟨p, 1, none⟩ (.int .i64 (e : Int))) p (st.bad e) :=
  ⟨by rw [World.cell?_setCell_other w ⟨p, 1, none⟩ ⟨p, 0, none⟩ _ (fun h => by cases h)]; exact h.1, World.cell?_setCell_same _ _ _ h.2.1, by rw [World.frozen?_setCell]; exact h.2.2.1, by rw [World.frozen?_setCell]; exact h.2.2.2⟩
theorem RefAt.less {w : World} {p : Nat} {st : St} (h : RefAt w p st) (n : Nat) : RefAt (w.setCell ⟨p, 0, none⟩ (.string (st.s.extract n st.s.size))) p (st.less n) :=
  ⟨World.cell?_setCell_same _ _ _ h.1, by rw [World.cell?_setCell_other w ⟨p, 0, none⟩ ⟨p, 1, none⟩ _ (fun h => by cases h)]; exact h.2.1, by rw [World.frozen?_setCell]; exact h.2.2.1, by rw [World.frozen?_setCell]; exact h.2.2.2⟩

set_option maxHeartbeats 400000 in
theorem refFail_any (p e : Nat) (st : St) (w : World) (h : RefAt w p st) :
    Calls Try.prog 46 #[.pointer (some ⟨p, 0, none⟩), .int .i64 (e : Int)] w fun r w' => r = .returned (.tuple #[]) ∧ w' = w.setCell ⟨p, 1, none⟩ (.int .i64 (e : Int)) := by
  obtain ⟨h0, h1, f0, f1⟩ := h
  go_enter Try.func46, Try.ntmps46
  go_wp2
  go_end0
  exact ⟨rfl, rfl⟩

set_option maxRecDepth 10000 in
set_option maxHeartbeats 1000000 in
theorem refRUint_any (p most : Nat) (st : St) (w : World) (h : RefAt w p st) (hs : st.s.size ≤ maxLen) :
    Calls Try.prog 28 #[.pointer (some ⟨p, 0, none⟩), .int .u64 (most : Int)] w fun r w' => r = .returned (.int .u64 (((st.uint most).1 : Nat) : Int)) ∧ RefAt w' p (st.uint most).2 ∧ But p w w' := by
  have HN := hide (fun u => refNumber_any st.s u hs)
  have H := hide h
  obtain ⟨h0, h1, f0, f1⟩ := h
  have HF := hide (fun e => refFail_any p e st w H.out)
  have hlen : (rd (bytesOf st.s)).2 ≤ st.s.size := by
    by_cases h0 : (rd (bytesOf st.s)).2 = 0
    · omega
    · have := (enc_rd (bytesOf st.s) (rd (bytesOf st.s)).1 (rd (bytesOf st.s)).2 (bytesOf_lt _) rfl h0).2.1
      rw [bytesOf_length] at this; exact this
  unfold maxLen at hs
  unfold St.uint
  by_cases he : st.e = 0
  · rw [if_neg (by simp [he])]
    have hez : ((st.e : Nat) : Int) = 0 := by omega
    generalize rd (bytesOf st.s) = R at *
    obtain ⟨x, n⟩ := R
    simp only at *
    by_cases hn : n = 0
    · rw [if_pos hn]
      subst hn
      go_enter Try.func28, Try.ntmps28
      go_wp2_with fail
      refine (HN.out _).mono ?_
      rintro e w1 ⟨rfl, rfl⟩
      go_wp2_with fail
      refine (HF.out 8).mono ?_
      rintro e w2 ⟨rfl, rfl⟩
      go_wp2
      go_ret
      exact ⟨rfl, H.out.bad 8, But.set _ _ _ _⟩
    · rw [if_neg hn]
      have hnz : ¬ ((n : Int) = 0) := by omega
      by_cases hx : most < x
      · rw [if_pos hx]
        have hxz : (most : Int) < (x : Int) := by omega
        go_enter Try.func28, Try.ntmps28
        go_wp2_with fail
        refine (HN.out _).mono ?_
        rintro e w1 ⟨rfl, rfl⟩
        go_wp2_with fail
        refine (HF.out 9).mono ?_
        rintro e w2 ⟨rfl, rfl⟩
        go_wp2
        go_ret
        exact ⟨rfl, H.out.bad 9, But.set _ _ _ _⟩
      · rw [if_neg hx]
        have hxz : ¬ ((most : Int) < (x : Int)) := by omega
        go_enter Try.func28, Try.ntmps28
        go_wp2_with fail
        refine (HN.out _).mono ?_
        rintro e w1 ⟨rfl, rfl⟩
        go_wp2
        go_ret

        exact ⟨rfl, H.out.less n, But.set _ _ _ _⟩
  · rw [if_pos (by simpa using he)]
    have hez : ¬ (((st.e : Nat) : Int) = 0) := by omega
    generalize rd (bytesOf st.s) = R at *
    obtain ⟨x, n⟩ := R
    go_enter Try.func28, Try.ntmps28
    go_wp2_with fail
    refine (HN.out _).mono ?_
    rintro e w1 ⟨rfl, rfl⟩
    go_wp2
    go_ret
    exact ⟨rfl, H.out, But.refl _ _⟩
end Go.Proofs.Ytodndkmpjpiidaa
namespace Go.Proofs.Ytodndkmpjpiidaa
open Go Go.RowKit

theorem rdF_none : ∀ l i acc v, rdF l i acc = (v, 0) → v = 0
  | [], _, _, v, h => by unfold rdF at h; simp at h; omega
  | c :: r, i, acc, v, h => by
    unfold rdF at h
    split at h
    · simp at h; omega
    · split at h
      · simp at h; omega
      · split at h
        · split at h
          · simp at h; omega
          · simp at h
        · exact rdF_none r (i + 1) _ v h
theorem rd_lt (s : ByteArray) : (rd (bytesOf s)).1 < 18446744073709551616 := by
  by_cases h0 : (rd (bytesOf s)).2 = 0
  · have h := rdF_none (bytesOf s) 0 0 (rd (bytesOf s)).1 (Prod.ext rfl h0)
    omega
  · exact (enc_rd (bytesOf s) (rd (bytesOf s)).1 (rd (bytesOf s)).2 (bytesOf_lt _) rfl h0).2.2
theorem rd_len (s : ByteArray) : (rd (bytesOf s)).2 ≤ s.size := by
  by_cases h0 : (rd (bytesOf s)).2 = 0
  · omega
  · have := (enc_rd (bytesOf s) (rd (bytesOf s)).1 (rd (bytesOf s)).2 (bytesOf_lt _) rfl h0).2.1
    rw [bytesOf_length] at this; exact this
theorem and1 (x : Nat) (hx : x < 18446744073709551616) : bits .and .u64 (x : Int) 1 = ((x % 2 : Nat) : Int) := by
  have h := u64_and_nat x 1 hx (by decide)
  rw [Nat.and_one_is_mod] at h
  exact h
theorem ret_i64 {a b : Int} (h : a = b) : Ending.returned (.int .i64 a) = .returned (.int .i64 b) := by rw [h]

set_option maxRecDepth 10000 in
set_option maxHeartbeats 4000000 in
theorem refRInt_any (p : Nat) (least most : Int) (st : St) (w : World) (h : RefAt w p st) (hs : st.s.size ≤ maxLen) :
    Calls Try.prog 29 #[.pointer (some ⟨p, 0, none⟩), .int .i64 least, .int .i64 most] w fun r w' => r = .returned (.int .i64 (st.int least most).1) ∧ RefAt w' p (st.int least most).2 ∧ But p w w' := by
  have HN := hide (fun u => refNumber_any st.s u hs)
  have H := hide h
  obtain ⟨h0, h1, f0, f1⟩ := h
  have HF := hide (fun e => refFail_any p e st w H.out)
  have hlen := rd_len st.s
  have hlt := rd_lt st.s
  unfold maxLen at hs
  unfold St.int
  generalize rd (bytesOf st.s) = R at *
  obtain ⟨x, n⟩ := R
  simp only at *
  have ha := and1 x hlt
  by_cases hp : x % 2 = 1
  · have hb : bits .and .u64 (x : Int) 1 = 1 := by rw [ha, hp]; rfl
    have hz : zag x = -((x : Int) / 2) - 1 := by unfold zag; rw [if_pos hp]; omega
    rw [hz]
    clear ha hp hz
    by_cases he : st.e = 0
    · rw [if_neg (by simp [he])]
      have hez : ((st.e : Nat) : Int) = 0 := by omega
      by_cases hn : n = 0
      · rw [if_pos hn]
        subst hn
        go_enter Try.func29, Try.ntmps29
        go_wp2_with fail
        refine (HN.out _).mono ?_
        rintro e w1 ⟨rfl, rfl⟩
        go_wp2_with fail
        refine (HF.out 8).mono ?_
        rintro e w2 ⟨rfl, rfl⟩
        go_wp2
        go_ret
        exact ⟨rfl, H.out.bad 8, But.set _ _ _ _⟩
      · rw [if_neg hn]
        have hnz : ¬ ((n : Int) = 0) := by omega
        by_cases hx : (-((x : Int) / 2) - 1) < least ∨ most < (-((x : Int) / 2) - 1)
        · rw [if_pos hx]
          by_cases hx1 : (-((x : Int) / 2) - 1) < least
          · clear hx
            go_enter Try.func29, Try.ntmps29
            go_wp2_with fail
            refine (HN.out _).mono ?_
            rintro e w1 ⟨rfl, rfl⟩
            go_wp2_with fail
            refine (HF.out 9).mono ?_
            rintro e w2 ⟨rfl, rfl⟩
            go_wp2
            go_ret
            exact ⟨rfl, H.out.bad 9, But.set _ _ _ _⟩
          · have hx2 : most < (-((x : Int) / 2) - 1) := by omega
            clear hx
            go_enter Try.func29, Try.ntmps29
            go_wp2_with fail
            refine (HN.out _).mono ?_
            rintro e w1 ⟨rfl, rfl⟩
            go_wp2_with fail
            refine (HF.out 9).mono ?_
            rintro e w2 ⟨rfl, rfl⟩
            go_wp2
            go_ret
            exact ⟨rfl, H.out.bad 9, But.set _ _ _ _⟩
        · rw [if_neg hx]
          have hx1 : ¬ ((-((x : Int) / 2) - 1) < least) := fun k => hx (Or.inl k)
          have hx2 : ¬ (most < (-((x : Int) / 2) - 1)) := fun k => hx (Or.inr k)
          clear hx
          go_enter Try.func29, Try.ntmps29
          go_wp2_with fail
          refine (HN.out _).mono ?_
          rintro e w1 ⟨rfl, rfl⟩
          go_wp2
          go_ret
          exact ⟨ret_i64 (by omega), H.out.less n, But.set _ _ _ _⟩
    · rw [if_pos (by simpa using he)]
      have hez : ¬ (((st.e : Nat) : Int) = 0) := by omega
      go_enter Try.func29, Try.ntmps29
      go_wp2_with fail
      refine (HN.out _).mono ?_
      rintro e w1 ⟨rfl, rfl⟩
      go_wp2
      go_ret
      exact ⟨rfl, H.out, But.refl _ _⟩
  · have hb : bits .and .u64 (x : Int) 1 = 0 := by rw [ha]; omega
    have hz : zag x = (x : Int) / 2 := by unfold zag; rw [if_neg hp]; omega
    rw [hz]
    clear ha hp hz
    by_cases he : st.e = 0
    · rw [if_neg (by simp [he])]
      have hez : ((st.e : Nat) : Int) = 0 := by omega
      by_cases hn : n = 0
      · rw [if_pos hn]
        subst hn
        go_enter Try.func29, Try.ntmps29
        go_wp2_with fail
        refine (HN.out _).mono ?_
        rintro e w1 ⟨rfl, rfl⟩
        go_wp2_with fail
        refine (HF.out 8).mono ?_
        rintro e w2 ⟨rfl, rfl⟩
        go_wp2
        go_ret
        exact ⟨rfl, H.out.bad 8, But.set _ _ _ _⟩
      · rw [if_neg hn]
        have hnz : ¬ ((n : Int) = 0) := by omega
        by_cases hx : ((x : Int) / 2) < least ∨ most < ((x : Int) / 2)
        · rw [if_pos hx]
          by_cases hx1 : ((x : Int) / 2) < least
          · clear hx
            go_enter Try.func29, Try.ntmps29
            go_wp2_with fail
            refine (HN.out _).mono ?_
            rintro e w1 ⟨rfl, rfl⟩
            go_wp2_with fail
            refine (HF.out 9).mono ?_
            rintro e w2 ⟨rfl, rfl⟩
            go_wp2
            go_ret
            exact ⟨rfl, H.out.bad 9, But.set _ _ _ _⟩
          · have hx2 : most < ((x : Int) / 2) := by omega
            clear hx
            go_enter Try.func29, Try.ntmps29
            go_wp2_with fail
            refine (HN.out _).mono ?_
            rintro e w1 ⟨rfl, rfl⟩
            go_wp2_with fail
            refine (HF.out 9).mono ?_
            rintro e w2 ⟨rfl, rfl⟩
            go_wp2
            go_ret
            exact ⟨rfl, H.out.bad 9, But.set _ _ _ _⟩
        · rw [if_neg hx]
          have hx1 : ¬ (((x : Int) / 2) < least) := fun k => hx (Or.inl k)
          have hx2 : ¬ (most < ((x : Int) / 2)) := fun k => hx (Or.inr k)
          clear hx
          go_enter Try.func29, Try.ntmps29
          go_wp2_with fail
          refine (HN.out _).mono ?_
          rintro e w1 ⟨rfl, rfl⟩
          go_wp2
          go_ret
          exact ⟨ret_i64 (by omega), H.out.less n, But.set _ _ _ _⟩
    · rw [if_pos (by simpa using he)]
      have hez : ¬ (((st.e : Nat) : Int) = 0) := by omega
      go_enter Try.func29, Try.ntmps29
      go_wp2_with fail
      refine (HN.out _).mono ?_
      rintro e w1 ⟨rfl, rfl⟩
      go_wp2
      go_ret
      exact ⟨rfl, H.out, But.refl _ _⟩
end Go.Proofs.Ytodndkmpjpiidaa
namespace Go.Proofs.Ytodndkmpjpiidaa
open Go Go.RowKit

/-- What count hands back. -/
def cnt : Option (Nat × Nat) → Value
  | none => .tuple #[.int .i64 0, .int .i64 (-1)]
  | some (x, n) => .tuple #[.int .i64 (x : Int), .int .i64 (n : Int)]
set_option maxRecDepth 10000 in
set_option maxHeartbeats 4000000 in
theorem refRCount0_any (p : Nat) (most : Int) (st : St) (w : World) (h : RefAt w p st) (hs : st.s.size ≤ maxLen) (hm : most ≤ 9223372036854775807) :
    Calls Try.prog 47 #[.pointer (some ⟨p, 0, none⟩), .int .i64 most] w fun r w' => r = .returned (cnt (st.count0 most).1) ∧ RefAt w' p (st.count0 most).2 ∧ But p w w' := by
  have HN := hide (fun u => refNumber_any st.s u hs)
  have H := hide h
  obtain ⟨h0, h1, f0, f1⟩ := h
  have HF := hide (fun e => refFail_any p e st w H.out)
  have hlen := rd_len st.s
  have hlt := rd_lt st.s
  unfold maxLen at hs
  unfold St.count0
  generalize rd (bytesOf st.s) = R at *
  obtain ⟨x, n⟩ := R
  simp only at *
  by_cases he : st.e = 0
  · rw [if_neg (by simp [he])]
    have hez : ((st.e : Nat) : Int) = 0 := by omega
    by_cases hn : n = 0
    · rw [if_pos hn]
      subst hn
      go_enter Try.func47, Try.ntmps47
      go_wp2_with fail
      refine (HN.out _).mono ?_
      rintro e w1 ⟨rfl, rfl⟩
      go_wp2_with fail
      refine (HF.out 8).mono ?_
      rintro e w2 ⟨rfl, rfl⟩
      go_wp2
      go_ret2
      exact ⟨rfl, H.out.bad 8, But.set _ _ _ _⟩
    · rw [if_neg hn]
      have hnz : ¬ ((n : Int) = 0) := by omega
      by_cases hx : most < 0 ∨ most < (x : Int)
      · rw [if_pos hx]
        by_cases hm0 : most < 0
        · clear hx
          go_enter Try.func47, Try.ntmps47
          go_wp2_with fail
          refine (HN.out _).mono ?_
          rintro e w1 ⟨rfl, rfl⟩
          go_wp2_with fail
          refine (HF.out 4).mono ?_
          rintro e w2 ⟨rfl, rfl⟩
          go_wp2
          go_ret2
          exact ⟨rfl, H.out.bad 4, But.set _ _ _ _⟩
        · have hx2 : most < (x : Int) := by omega
          clear hx
          go_enter Try.func47, Try.ntmps47
          go_wp2_with fail
          refine (HN.out _).mono ?_
          rintro e w1 ⟨rfl, rfl⟩
          go_wp2_with fail
          refine (HF.out 4).mono ?_
          rintro e w2 ⟨rfl, rfl⟩
          go_wp2
          go_ret2
          exact ⟨rfl, H.out.bad 4, But.set _ _ _ _⟩
      · rw [if_neg hx]
        have hm0 : ¬ most < 0 := by omega
        have hx2 : ¬ most < (x : Int) := by omega
        clear hx
        by_cases hl : st.s.size - n < x
        · rw [if_pos hl]
          have hl2 : (st.s.size : Int) - (n : Int) < (x : Int) := by omega
          clear hl
          go_enter Try.func47, Try.ntmps47
          go_wp2_with fail
          refine (HN.out _).mono ?_
          rintro e w1 ⟨rfl, rfl⟩
          go_wp2_with fail
          refine (HF.out 8).mono ?_
          rintro e w2 ⟨rfl, rfl⟩
          go_wp2
          go_ret2
          exact ⟨rfl, H.out.bad 8, But.set _ _ _ _⟩
        · rw [if_neg hl]
          have hl2 : ¬ ((st.s.size : Int) - (n : Int) < (x : Int)) := by omega
          clear hl
          go_enter Try.func47, Try.ntmps47
          go_wp2_with fail
          refine (HN.out _).mono ?_
          rintro e w1 ⟨rfl, rfl⟩
          go_wp2
          go_ret2
          exact ⟨rfl, H.out, But.refl _ _⟩
  · rw [if_pos (by simpa using he)]
    have hez : ¬ (((st.e : Nat) : Int) = 0) := by omega
    go_enter Try.func47, Try.ntmps47
    go_wp2_with fail
    refine (HN.out _).mono ?_
    rintro e w1 ⟨rfl, rfl⟩
    go_wp2
    go_ret2
    exact ⟨rfl, H.out, But.refl _ _⟩
end Go.Proofs.Ytodndkmpjpiidaa
namespace Go.Proofs.Ytodndkmpjpiidaa
open Go Go.RowKit

theorem count0_some {st st' : St} {most : Int} {x n : Nat} (h : st.count0 most = (some (x, n), st')) : st' = st ∧ n + x ≤ st.s.size := by
  unfold St.count0 at h
  split at h
  · simp at h
  · split at h
    · simp at h
    · split at h
      · simp at h
      · split at h
        · simp at h
        · simp only [Prod.mk.injEq, Option.some.injEq] at h
          obtain ⟨h1, rfl⟩ := h
          have hl := rd_len st.s
          rw [h1] at hl
          rename_i hh
          rw [h1] at hh
          simp only at hl hh
          exact ⟨rfl, by omega⟩
theorem But.trans {p : Nat} {a b c : World} (h : But p a b) (k : But p b c) : But p a c :=
  ⟨k.os.trans h.os, k.tape.trans h.tape, k.output.trans h.output, Nat.le_trans h.size k.size, fun i hi hp => (k.block i (Nat.lt_of_lt_of_le hi h.size) hp).trans (h.block i hi hp)⟩

set_option maxRecDepth 10000 in
set_option maxHeartbeats 4000000 in
theorem refRText_any (p : Nat) (most : Int) (st : St) (w : World) (h : RefAt w p st) (hs : st.s.size ≤ maxLen) (hm : most ≤ 9223372036854775807) :
    Calls Try.prog 30 #[.pointer (some ⟨p, 0, none⟩), .int .i64 most] w fun r w' => r = .returned (.string (st.text most).1) ∧ RefAt w' p (st.text most).2 ∧ But p w w' := by
  have HC := refRCount0_any p most st w h hs hm
  unfold maxLen at hs
  unfold St.text
  cases hq : st.count0 most with
  | mk o st' =>
    rw [hq] at HC
    cases o with
    | none =>
      have HC := hide HC
      clear hq h
      go_enter Try.func30, Try.ntmps30
      go_wp2_with fail
      refine HC.out.mono ?_
      unfold cnt
      rintro e w1 ⟨rfl, hr, hb⟩
      have HR := hide (And.intro hr hb)
      clear hr hb
      go_wp2
      go_ret
      exact ⟨rfl, HR.out.1, HR.out.2⟩
    | some xn =>
      obtain ⟨x, n⟩ := xn
      obtain ⟨rfl, hle⟩ := count0_some hq
      have HC := hide HC
      clear hq h
      have hle2 : (n : Int) + (x : Int) ≤ (st'.s.size : Int) := by omega
      go_enter Try.func30, Try.ntmps30
      go_wp2_with fail
      refine HC.out.mono ?_
      unfold cnt
      rintro e w1 ⟨rfl, hr, hb⟩
      have HR := hide (And.intro hr hb)
      obtain ⟨h0, h1, f0, f1⟩ := hr
      clear hb
      go_wp2
      go_ret
      exact ⟨rfl, HR.out.1.less (n + x), HR.out.2.trans (But.set _ _ _ _)⟩

set_option maxRecDepth 10000 in
set_option maxHeartbeats 4000000 in
theorem refRCount_any (p : Nat) (most : Int) (st : St) (w : World) (h : RefAt w p st) (hs : st.s.size ≤ maxLen) (hm : most ≤ 9223372036854775807) :
    Calls Try.prog 31 #[.pointer (some ⟨p, 0, none⟩), .int .i64 most] w fun r w' => r = .returned (.int .i64 (((st.count most).1 : Nat) : Int)) ∧ RefAt w' p (st.count most).2 ∧ But p w w' := by
  have HC := refRCount0_any p most st w h hs hm
  unfold maxLen at hs
  unfold St.count
  cases hq : st.count0 most with
  | mk o st' =>
    rw [hq] at HC
    cases o with
    | none =>
      have HC := hide HC
      clear hq h
      go_enter Try.func31, Try.ntmps31
      go_wp2_with fail
      refine HC.out.mono ?_
      unfold cnt
      rintro e w1 ⟨rfl, hr, hb⟩
      have HR := hide (And.intro hr hb)
      clear hr hb
      go_wp2
      go_ret
      exact ⟨rfl, HR.out.1, HR.out.2⟩
    | some xn =>
      obtain ⟨x, n⟩ := xn
      obtain ⟨rfl, hle⟩ := count0_some hq
      have HC := hide HC
      clear hq h
      have hle2 : (n : Int) + (x : Int) ≤ (st'.s.size : Int) := by omega
      go_enter Try.func31, Try.ntmps31
      go_wp2_with fail
      refine HC.out.mono ?_
      unfold cnt
      rintro e w1 ⟨rfl, hr, hb⟩
      have HR := hide (And.intro hr hb)
      obtain ⟨h0, h1, f0, f1⟩ := hr
      clear hb
      go_wp2
      go_ret
      exact ⟨rfl, HR.out.1.less n, HR.out.2.trans (But.set _ _ _ _)⟩

theorem not_empty {s : ByteArray} (h : ¬ s.size = 0) : s.toList.isEmpty = false := by
  rw [ByteArray.toList_eq]
  cases hl : s.data.toList with
  | nil => exact absurd (by show s.data.size = 0; rw [← Array.length_toList, hl]; rfl) h
  | cons _ _ => rfl
theorem bytesOf_cons {s : ByteArray} (h : 0 < s.size) : bytesOf s = s[0].toNat :: (bytesOf s).drop 1 := by
  have := bytesOf_drop s 0 h
  rw [List.drop_zero] at this
  exact this
set_option maxRecDepth 10000 in
set_option maxHeartbeats 4000000 in
theorem refREnd_any (p : Nat) (st : St) (w : World) (h : RefAt w p st) :
    Calls Try.prog 33 #[.pointer (some ⟨p, 0, none⟩)] w fun r w' => r = .returned (.int .i64 ((st.end_.1 : Nat) : Int)) ∧ RefAt w' p st.end_.2 ∧ But p w w' := by
  have H := hide h
  have HF := hide (fun e => refFail_any p e st w h)
  obtain ⟨h0, h1, f0, f1⟩ := h
  unfold St.end_
  by_cases he : st.e = 0
  · have hez : ((st.e : Nat) : Int) = 0 := by omega
    by_cases hs : st.s.size = 0
    · rw [if_neg (by simp [hs])]
      have hse : st.s = { data := #[] } := by
        apply ByteArray.ext
        exact Array.eq_empty_of_size_eq_zero hs
      rw [hse] at h0
      go_enter Try.func33, Try.ntmps33
      go_wp2
      go_ret
      exact ⟨by rw [he]; rfl, H.out, But.refl _ _⟩
    · rw [if_pos ⟨he, hs⟩]
      have hse := not_empty hs
      have hb := H.out.bad 8
      go_enter Try.func33, Try.ntmps33
      go_wp2_with fail
      refine (HF.out 8).mono ?_
      rintro e w2 ⟨rfl, rfl⟩
      have c1 := hb.2.1
      have HB := hide hb
      clear hb
      unfold St.bad at c1
      go_wp2
      go_ret
      exact ⟨rfl, HB.out, But.set _ _ _ _⟩
  · rw [if_neg (fun k => he k.1)]
    have hez : ¬ (((st.e : Nat) : Int) = 0) := by omega
    go_enter Try.func33, Try.ntmps33
    go_wp2
    go_ret
    exact ⟨rfl, H.out, But.refl _ _⟩
set_option maxRecDepth 10000 in
set_option maxHeartbeats 4000000 in
theorem refRBool_any (p : Nat) (st : St) (w : World) (h : RefAt w p st) (hs : st.s.size ≤ maxLen) :
    Calls Try.prog 32 #[.pointer (some ⟨p, 0, none⟩)] w fun r w' => r = .returned (.bool st.bool.1) ∧ RefAt w' p st.bool.2 ∧ But p w w' := by
  have H := hide h
  have HF := hide (fun e => refFail_any p e st w h)
  obtain ⟨h0, h1, f0, f1⟩ := h
  unfold maxLen at hs
  unfold St.bool
  by_cases he : st.e = 0
  · rw [if_neg (by simp [he])]
    have hez : ((st.e : Nat) : Int) = 0 := by omega
    by_cases hz : st.s.size = 0
    · have hl : bytesOf st.s = [] := List.length_eq_zero_iff.1 (by rw [bytesOf_length]; exact hz)
      rw [hl]
      have hse : st.s = { data := #[] } := by
        apply ByteArray.ext
        exact Array.eq_empty_of_size_eq_zero hz
      rw [hse] at h0
      go_enter Try.func32, Try.ntmps32
      go_wp2_with fail
      refine (HF.out 8).mono ?_
      rintro e w2 ⟨rfl, rfl⟩
      go_wp2
      go_ret
      exact ⟨rfl, H.out.bad 8, But.set _ _ _ _⟩
    · have hpos : 0 < st.s.size := by omega
      rw [bytesOf_cons hpos]
      have hse := not_empty hz
      simp only
      by_cases hc : 1 < st.s[0].toNat
      · rw [if_pos hc]
        have hcz : (1 : Int) < ((st.s[0].toNat : Nat) : Int) := by omega
        go_enter Try.func32, Try.ntmps32
        go_wp2_with fail
        refine (HF.out 8).mono ?_
        rintro e w2 ⟨rfl, rfl⟩
        go_wp2
        go_ret
        exact ⟨rfl, H.out.bad 8, But.set _ _ _ _⟩
      · rw [if_neg hc]
        have hcz : ¬ ((1 : Int) < ((st.s[0].toNat : Nat) : Int)) := by omega
        go_enter Try.func32, Try.ntmps32
        go_wp2
        go_ret
        have e1 : (((st.s[0].toNat : Nat) : Int) == 1) = decide (st.s[0].toNat = 1) := by
          rw [Bool.eq_iff_iff]; simp; omega
        exact ⟨congrArg (fun x => Ending.returned (.bool x)) e1, H.out.less 1, But.set _ _ _ _⟩
  · rw [if_pos (by simpa using he)]
    have hez : ¬ (((st.e : Nat) : Int) = 0) := by omega
    go_enter Try.func32, Try.ntmps32
    go_wp2
    go_ret
    exact ⟨rfl, H.out, But.refl _ _⟩
end Go.Proofs.Ytodndkmpjpiidaa
