/- What is written is read back; what the laws ask of the program's functions. -/
import Derived.Test.YtodndkmpjpiidaaRefRead
namespace Go.Proofs.Ytodndkmpjpiidaa
open Go Go.RowKit

theorem bytesOf_extract (s : ByteArray) (a b : Nat) : bytesOf (s.extract a b) = ((bytesOf s).drop a).take (b - a) := by
  unfold bytesOf
  rw [ByteArray.data_extract, Array.toList_extract, ← List.map_drop, ← List.map_take, List.extract_eq_take_drop]
theorem less_bytes (st : St) (n : Nat) : bytesOf (st.less n).s = (bytesOf st.s).drop n := by
  unfold St.less
  rw [bytesOf_extract, List.take_of_length_le]
  rw [List.length_drop, bytesOf_length]
  exact Nat.le_refl _
theorem same_text {s t : ByteArray} (h : bytesOf s = bytesOf t) : s = t := by rw [← textOf_bytesOf s, h, textOf_bytesOf]
/-- A number that stands at the front is read. -/
theorem uint_back {st : St} {x : Nat} {t : List Nat} (he : st.e = 0) (hb : bytesOf st.s = enc x ++ t) (hx : x < 18446744073709551616) {most : Nat} (hm : x ≤ most) :
    (st.uint most).1 = x ∧ (st.uint most).2.e = 0 ∧ bytesOf (st.uint most).2.s = t := by
  have h := rd_enc x t hx
  have hp : 0 < (enc x).length := encF_pos 10 x
  unfold St.uint
  rw [if_neg (by simp [he]), hb, h, if_neg (by simp only; omega), if_neg (by simp only; omega)]
  refine ⟨rfl, he, ?_⟩
  rw [less_bytes, hb, List.drop_left]
theorem zag_range (u : Nat) (h : u < 18446744073709551616) : -9223372036854775808 ≤ zag u ∧ zag u ≤ 9223372036854775807 := by unfold zag; split <;> omega
theorem int_back {st : St} {x : Int} {t : List Nat} (he : st.e = 0) (hx : -9223372036854775808 ≤ x ∧ x ≤ 9223372036854775807) (hb : bytesOf st.s = enc (zig x) ++ t) :
    (st.int (-9223372036854775808) 9223372036854775807).1 = x ∧ (st.int (-9223372036854775808) 9223372036854775807).2.e = 0 ∧ bytesOf (st.int (-9223372036854775808) 9223372036854775807).2.s = t := by
  have h := rd_enc (zig x) t (zig_lt x hx)
  have hp : 0 < (enc (zig x)).length := encF_pos 10 _
  unfold St.int
  rw [if_neg (by simp [he]), hb, h, if_neg (by simp only; omega)]
  simp only [zag_zig]
  rw [if_neg (by omega)]
  refine ⟨rfl, he, ?_⟩
  rw [less_bytes, hb, List.drop_left]
theorem text_back {st : St} {s : ByteArray} {t : List Nat} (he : st.e = 0) (hb : bytesOf st.s = enc s.size ++ bytesOf s ++ t) {most : Int} (hm : (s.size : Int) ≤ most) (hs : s.size < 18446744073709551616) :
    (st.text most).1 = s ∧ (st.text most).2.e = 0 ∧ bytesOf (st.text most).2.s = t := by
  have h := rd_enc s.size (bytesOf s ++ t) hs
  rw [← List.append_assoc] at h
  have hp : 0 < (enc s.size).length := encF_pos 10 _
  have hl : st.s.size = (enc s.size).length + s.size + t.length := by
    rw [← bytesOf_length, hb, List.length_append, List.length_append, bytesOf_length]
  have hc : st.count0 most = (some (s.size, (enc s.size).length), st) := by
    unfold St.count0
    rw [if_neg (by simp [he]), hb, h, if_neg (by simp only; omega), if_neg (by simp only; omega), if_neg (by simp only; omega)]
  unfold St.text
  rw [hc]
  simp only
  refine ⟨same_text ?_, he, ?_⟩
  · rw [bytesOf_extract, hb, List.append_assoc, List.drop_left, Nat.add_sub_cancel_left, ← bytesOf_length, List.take_left]
  · rw [less_bytes, hb, ← bytesOf_length s, ← List.length_append, List.drop_left]
theorem bool_back {st : St} {b : Bool} {t : List Nat} (he : st.e = 0) (hb : bytesOf st.s = [if b then 1 else 0] ++ t) :
    st.bool.1 = b ∧ st.bool.2.e = 0 ∧ bytesOf st.bool.2.s = t := by
  unfold St.bool
  rw [if_neg (by simp [he]), hb]
  simp only [List.cons_append, List.nil_append]
  rw [if_neg (by cases b <;> simp)]
  refine ⟨by cases b <;> rfl, he, ?_⟩
  rw [less_bytes, hb]
  rfl
theorem end_back {st : St} (he : st.e = 0) (hb : bytesOf st.s = []) : st.end_.1 = 0 := by
  have hz : st.s.size = 0 := by rw [← bytesOf_length, hb]; rfl
  unfold St.end_
  rw [if_neg (by simp [hz])]
  exact he
/-- What was read as a number is written as itself. -/
theorem uint_forth (s : ByteArray) (h : ((⟨s, 0⟩ : St).uint 18446744073709551615).2.e = 0) :
    ∃ n, n ≤ s.size ∧ textOf (enc ((⟨s, 0⟩ : St).uint 18446744073709551615).1) = s.extract 0 n ∧ ((⟨s, 0⟩ : St).uint 18446744073709551615).2.s.size = s.size - n := by
  have hlt := rd_lt s
  unfold St.uint at h ⊢
  rw [if_neg (by simp)] at h ⊢
  simp only at h ⊢
  by_cases hn : (rd (bytesOf s)).2 = 0
  · rw [if_pos hn] at h
    simp [St.bad] at h
  · rw [if_neg hn, if_neg (by omega)]
    obtain ⟨h1, h2, _⟩ := enc_rd (bytesOf s) (rd (bytesOf s)).1 (rd (bytesOf s)).2 (bytesOf_lt s) rfl hn
    rw [bytesOf_length] at h2
    refine ⟨(rd (bytesOf s)).2, h2, ?_, ?_⟩
    · apply same_text
      rw [bytesOf_textOf _ (enc_byte _ hlt), h1, bytesOf_extract]
      rfl
    · unfold St.less
      simp only [ByteArray.size_extract]
      omega
theorem int_forth (s : ByteArray) (h : ((⟨s, 0⟩ : St).int (-9223372036854775808) 9223372036854775807).2.e = 0) :
    ∃ n, n ≤ s.size ∧ textOf (enc (zig ((⟨s, 0⟩ : St).int (-9223372036854775808) 9223372036854775807).1)) = s.extract 0 n ∧ ((⟨s, 0⟩ : St).int (-9223372036854775808) 9223372036854775807).2.s.size = s.size - n := by
  have hlt := rd_lt s
  have hr := zag_range _ hlt
  unfold St.int at h ⊢
  rw [if_neg (by simp)] at h ⊢
  simp only at h ⊢
  by_cases hn : (rd (bytesOf s)).2 = 0
  · rw [if_pos hn] at h
    simp [St.bad] at h
  · rw [if_neg hn, if_neg (by omega)]
    obtain ⟨h1, h2, _⟩ := enc_rd (bytesOf s) (rd (bytesOf s)).1 (rd (bytesOf s)).2 (bytesOf_lt s) rfl hn
    rw [bytesOf_length] at h2
    refine ⟨(rd (bytesOf s)).2, h2, ?_, ?_⟩
    · apply same_text
      rw [zig_zag, bytesOf_textOf _ (enc_byte _ hlt), h1, bytesOf_extract]
      rfl
    · unfold St.less
      simp only [ByteArray.size_extract]
      omega
end Go.Proofs.Ytodndkmpjpiidaa
namespace Go.Proofs.Ytodndkmpjpiidaa
open Go Go.RowKit

/-- What the laws ask of the program's functions: WAt u p st: its reader lies at block p, with these bytes and this fault. -/
structure Con (WAt : World → Nat → St → Prop) : Prop where
  lt : ∀ {u : World} {p : Nat} {st : St}, WAt u p st → p < u.heap.size
  frame : ∀ {u u' : World} {p : Nat} {st : St}, WAt u p st → u'.heap[p]? = u.heap[p]? → WAt u' p st
  new : ∀ (s : ByteArray) (u : World), s.size ≤ 140737488351232 → Calls Try.prog 16 #[.string s] u fun r w' => ∃ p, r = .returned (.pointer (some ⟨p, 0, none⟩)) ∧ u.heap.size ≤ p ∧ WAt w' p ⟨s, 0⟩ ∧ Below u.heap.size u w'
  uint : ∀ (p most : Nat) (st : St) (u : World), WAt u p st → st.s.size ≤ 140737488351232 → most < 18446744073709551616 →
    Calls Try.prog 23 #[.pointer (some ⟨p, 0, none⟩), .int .u64 (most : Int)] u fun r w' => r = .returned (.int .u64 (((st.uint most).1 : Nat) : Int)) ∧ WAt w' p (st.uint most).2 ∧ But p u w'
  int : ∀ (p : Nat) (least most : Int) (st : St) (u : World), WAt u p st → st.s.size ≤ 140737488351232 → (-9223372036854775808 ≤ least ∧ least ≤ 9223372036854775807) → (-9223372036854775808 ≤ most ∧ most ≤ 9223372036854775807) →
    Calls Try.prog 24 #[.pointer (some ⟨p, 0, none⟩), .int .i64 least, .int .i64 most] u fun r w' => r = .returned (.int .i64 (st.int least most).1) ∧ WAt w' p (st.int least most).2 ∧ But p u w'
  text : ∀ (p : Nat) (most : Int) (st : St) (u : World), WAt u p st → st.s.size ≤ 140737488351232 → (-9223372036854775808 ≤ most ∧ most ≤ 9223372036854775807) →
    Calls Try.prog 25 #[.pointer (some ⟨p, 0, none⟩), .int .i64 most] u fun r w' => r = .returned (.string (st.text most).1) ∧ WAt w' p (st.text most).2 ∧ But p u w'
  count : ∀ (p : Nat) (most : Int) (st : St) (u : World), WAt u p st → st.s.size ≤ 140737488351232 → (-9223372036854775808 ≤ most ∧ most ≤ 9223372036854775807) →
    Calls Try.prog 26 #[.pointer (some ⟨p, 0, none⟩), .int .i64 most] u fun r w' => r = .returned (.int .i64 (((st.count most).1 : Nat) : Int)) ∧ WAt w' p (st.count most).2 ∧ But p u w'
  bool : ∀ (p : Nat) (st : St) (u : World), WAt u p st → st.s.size ≤ 140737488351232 →
    Calls Try.prog 27 #[.pointer (some ⟨p, 0, none⟩)] u fun r w' => r = .returned (.bool st.bool.1) ∧ WAt w' p st.bool.2 ∧ But p u w'
  left : ∀ (p : Nat) (st : St) (u : World), WAt u p st → st.s.size ≤ 140737488351232 →
    Calls Try.prog 18 #[.pointer (some ⟨p, 0, none⟩)] u fun r w' => r = .returned (.int .i64 (st.s.size : Int)) ∧ Below u.heap.size u w'
  err : ∀ (p : Nat) (st : St) (u : World), WAt u p st →
    Calls Try.prog 19 #[.pointer (some ⟨p, 0, none⟩)] u fun r w' => r = .returned (.int .i64 (st.e : Int)) ∧ Below u.heap.size u w'
  end_ : ∀ (p : Nat) (st : St) (u : World), WAt u p st → st.s.size ≤ 140737488351232 →
    Calls Try.prog 22 #[.pointer (some ⟨p, 0, none⟩)] u fun r w' => r = .returned (.int .i64 ((st.end_.1 : Nat) : Int)) ∧ WAt w' p st.end_.2 ∧ But p u w'
  wuint : ∀ (x : Nat) (u : World), x < 18446744073709551616 → Calls Try.prog 8 #[.int .u64 (x : Int)] u fun r w' => r = .returned (.string (textOf (enc x))) ∧ Below u.heap.size u w'
  wint : ∀ (x : Int) (u : World), (-9223372036854775808 ≤ x ∧ x ≤ 9223372036854775807) → Calls Try.prog 10 #[.int .i64 x] u fun r w' => r = .returned (.string (textOf (enc (zig x)))) ∧ Below u.heap.size u w'
  wtext : ∀ (s : ByteArray) (u : World), s.size ≤ 140737488351232 → Calls Try.prog 12 #[.string s] u fun r w' => r = .returned (.string (textOf (enc s.size ++ bytesOf s))) ∧ Below u.heap.size u w'
  wbool : ∀ (b : Bool) (u : World), Calls Try.prog 14 #[.bool b] u fun r w' => r = .returned (.string (textOf [if b then 1 else 0])) ∧ Below u.heap.size u w'
  nuint : ∀ (most : Nat) (u : World), most < 18446744073709551616 → Calls Try.prog 23 #[.pointer none, .int .u64 (most : Int)] u fun r w' => r = .returned (.int .u64 0) ∧ Below u.heap.size u w'
  nint : ∀ (u : World), Calls Try.prog 24 #[.pointer none, .int .i64 (-1), .int .i64 1] u fun r w' => r = .returned (.int .i64 0) ∧ Below u.heap.size u w'
  ntext : ∀ (u : World), Calls Try.prog 25 #[.pointer none, .int .i64 5] u fun r w' => r = .returned (.string { data := #[] }) ∧ Below u.heap.size u w'
  ncount : ∀ (u : World), Calls Try.prog 26 #[.pointer none, .int .i64 5] u fun r w' => r = .returned (.int .i64 0) ∧ Below u.heap.size u w'
  nbool : ∀ (u : World), Calls Try.prog 27 #[.pointer none] u fun r w' => r = .returned (.bool false) ∧ Below u.heap.size u w'
  nleft : ∀ (u : World), Calls Try.prog 18 #[.pointer none] u fun r w' => r = .returned (.int .i64 0) ∧ Below u.heap.size u w'
  nerr : ∀ (u : World), Calls Try.prog 19 #[.pointer none] u fun r w' => r = .returned (.int .i64 1) ∧ Below u.heap.size u w'
  nend : ∀ (u : World), Calls Try.prog 22 #[.pointer none] u fun r w' => r = .returned (.int .i64 1) ∧ Below u.heap.size u w'

/-- All blocks that were there are as they were, but p and q. -/
structure But2 (p q : Nat) (w w' : World) : Prop where
  os : w'.os = w.os
  tape : w'.tape = w.tape
  output : w'.output = w.output
  size : w.heap.size ≤ w'.heap.size
  block : ∀ k : Nat, k < w.heap.size → k ≠ p → k ≠ q → w'.heap[k]? = w.heap[k]?
theorem But2.refl (p q : Nat) (w : World) : But2 p q w w := ⟨rfl, rfl, rfl, Nat.le_refl _, fun _ _ _ _ => rfl⟩
theorem But2.trans {p q : Nat} {a b c : World} (h : But2 p q a b) (k : But2 p q b c) : But2 p q a c :=
  ⟨k.os.trans h.os, k.tape.trans h.tape, k.output.trans h.output, Nat.le_trans h.size k.size, fun i hi hp hq => (k.block i (Nat.lt_of_lt_of_le hi h.size) hp hq).trans (h.block i hi hp hq)⟩
theorem But.left {p q : Nat} {a b : World} (h : But p a b) : But2 p q a b := ⟨h.os, h.tape, h.output, h.size, fun k hk hp _ => h.block k hk hp⟩
theorem But.right {p q : Nat} {a b : World} (h : But q a b) : But2 p q a b := ⟨h.os, h.tape, h.output, h.size, fun k hk _ hq => h.block k hk hq⟩
theorem But2.of_below {p q : Nat} {a b : World} (h : Below a.heap.size a b) : But2 p q a b := ⟨h.os, h.tape, h.output, h.size, fun k hk _ _ => h.block k hk⟩
theorem But2.below {p q B : Nat} {a b : World} (h : But2 p q a b) (hp : B ≤ p) (hq : B ≤ q) (hB : B ≤ a.heap.size) : Below B a b := ⟨h.os, h.tape, h.output, h.size, fun k hk => h.block k (by omega) (by omega) (by omega)⟩
theorem But2.alloc (p q : Nat) (a : World) (o : Obj) : But2 p q a (a.alloc o) := But2.of_below ((Below.refl _ _).alloc (Nat.le_refl _) _)
theorem But2.drew {p q : Nat} {a b : World} (h : But2 p q a b) : But2 p q a b.drew := ⟨h.os, h.tape, h.output, h.size, h.block⟩
theorem RefAt.frame {u u' : World} {p : Nat} {st : St} (h : RefAt u p st) (hb : u'.heap[p]? = u.heap[p]?) : RefAt u' p st :=
  ⟨(World.cell?_of_block (w := u) hb).trans h.1, (World.cell?_of_block (w := u) hb).trans h.2.1, (World.frozen?_of_block (w := u) hb).trans h.2.2.1, (World.frozen?_of_block (w := u) hb).trans h.2.2.2⟩
theorem RefAt.lt {u : World} {p : Nat} {st : St} (h : RefAt u p st) : p < u.heap.size := World.block_lt_of_cell? u _ h.1
theorem cell_frame {u u' : World} {b o : Nat} {v : Value} (h : u.cell? ⟨b, o, none⟩ = some v) (hb : u'.heap[b]? = u.heap[b]?) : u'.cell? ⟨b, o, none⟩ = some v := (World.cell?_of_block (w := u) hb).trans h
/-- Both readers, in the same state, and the cells of what is asked. -/
def Both (WAt : World → Nat → St → Prop) (p q n : Nat) (d : Int) (least most : Int) (s1 s2 : St) (u : World) : Prop :=
  WAt u p s1 ∧ RefAt u q s2 ∧ u.cell? ⟨n, 0, none⟩ = some (.int .u8 d) ∧ u.cell? ⟨n, 1, none⟩ = some (.int .i64 least) ∧ u.cell? ⟨n, 2, none⟩ = some (.int .u64 most) ∧ n < u.heap.size ∧ p < u.heap.size ∧ q < u.heap.size
theorem Both.callW {WAt : World → Nat → St → Prop} {p q n : Nat} {d least most : Int} {s1 s2 s3 : St} {u u' : World} (h : Both WAt p q n d least most s1 s2 u) (hpq : p ≠ q) (hpn : p ≠ n) (hw : WAt u' p s3) (hb : But p u u') : Both WAt p q n d least most s3 s2 u' :=
  ⟨hw, h.2.1.frame (hb.block q h.2.2.2.2.2.2.2 (fun e => hpq e.symm)), cell_frame h.2.2.1 (hb.block n h.2.2.2.2.2.1 (fun e => hpn e.symm)), cell_frame h.2.2.2.1 (hb.block n h.2.2.2.2.2.1 (fun e => hpn e.symm)), cell_frame h.2.2.2.2.1 (hb.block n h.2.2.2.2.2.1 (fun e => hpn e.symm)),
    Nat.lt_of_lt_of_le h.2.2.2.2.2.1 hb.size, Nat.lt_of_lt_of_le h.2.2.2.2.2.2.1 hb.size, Nat.lt_of_lt_of_le h.2.2.2.2.2.2.2 hb.size⟩
theorem Both.callR {WAt : World → Nat → St → Prop} (C : Con WAt) {p q n : Nat} {d least most : Int} {s1 s2 s3 : St} {u u' : World} (h : Both WAt p q n d least most s1 s2 u) (hpq : p ≠ q) (hqn : q ≠ n) (hr : RefAt u' q s3) (hb : But q u u') : Both WAt p q n d least most s1 s3 u' :=
  ⟨C.frame h.1 (hb.block p h.2.2.2.2.2.2.1 hpq), hr, cell_frame h.2.2.1 (hb.block n h.2.2.2.2.2.1 (fun e => hqn e.symm)), cell_frame h.2.2.2.1 (hb.block n h.2.2.2.2.2.1 (fun e => hqn e.symm)), cell_frame h.2.2.2.2.1 (hb.block n h.2.2.2.2.2.1 (fun e => hqn e.symm)),
    Nat.lt_of_lt_of_le h.2.2.2.2.2.1 hb.size, Nat.lt_of_lt_of_le h.2.2.2.2.2.2.1 hb.size, Nat.lt_of_lt_of_le h.2.2.2.2.2.2.2 hb.size⟩
theorem Both.drew {WAt : World → Nat → St → Prop} (C : Con WAt) {p q n : Nat} {d least most : Int} {s1 s2 : St} {u : World} (h : Both WAt p q n d least most s1 s2 u) : Both WAt p q n d least most s1 s2 u.drew :=
  ⟨C.frame h.1 rfl, h.2⟩
theorem Both.start {WAt : World → Nat → St → Prop} (C : Con WAt) {p q : Nat} {d least most : Int} {st : St} {u : World} (hw : WAt u p st) (hr : RefAt u q st) :
    Both WAt p q u.heap.size d least most st st (u.alloc (.cells #[.int .u8 d, .int .i64 least, .int .u64 most] 37)) := by
  have hp := C.lt hw
  have hq := hr.lt
  refine ⟨C.frame hw (Below.heap_alloc u _ p hp), hr.frame (Below.heap_alloc u _ q hq), ?_, ?_, ?_, by simp, by simp; omega, by simp; omega⟩
  · simp [go_sem]
  · simp [go_sem]
  · simp [go_sem]
end Go.Proofs.Ytodndkmpjpiidaa
