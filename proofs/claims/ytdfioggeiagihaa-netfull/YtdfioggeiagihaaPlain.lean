/- Letters on their way, plainly. -/
namespace Go.Proofs.Ytdfioggeiagihaa

/-- A letter: its number, from whom, to whom, its text, its age. -/
structure Lt where
  id : Nat
  a : Int
  b : Int
  s : ByteArray
  g : Nat
def noLt : Lt := ⟨0, 0, 0, ⟨#[]⟩, 0⟩
/-- A net: its letters by rising numbers, the last number, who is parted. -/
structure Nt where
  l : List Lt
  n : Nat
  p : Int → Int → Bool
def Nt.new : Nt := ⟨[], 0, fun _ _ => false⟩
def adr (a : Int) : Bool := decide (0 ≤ a ∧ a < 256)
theorem adr_iff (a : Int) : adr a = true ↔ 0 ≤ a ∧ a < 256 := by unfold adr; exact decide_eq_true_iff
theorem adr_not (a : Int) : adr a = false ↔ ¬ (0 ≤ a ∧ a < 256) := by unfold adr; exact decide_eq_false_iff_not
/-- The pair x, y is a, b, whichever is named first. -/
def pair (a b x y : Int) : Bool := decide ((x = a ∧ y = b) ∨ (x = b ∧ y = a))
def Lt.as (x : Lt) (i : Nat) : Lt := ⟨i, x.a, x.b, x.s, x.g⟩
def Lt.older (x : Lt) : Lt := ⟨x.id, x.a, x.b, x.s, x.g + 1⟩
def sendN (st : Nt) (a b : Int) (s : ByteArray) : Nt := ⟨st.l ++ [⟨st.n + 1, a, b, s, 0⟩], st.n + 1, st.p⟩
def doubleN (st : Nt) (x : Lt) : Nt := ⟨st.l ++ [x.as (st.n + 1)], st.n + 1, st.p⟩
def dropN (st : Nt) (id : Nat) : Nt := ⟨st.l.filter (fun x => !decide (x.id = id)), st.n, st.p⟩
def partN (st : Nt) (a b : Int) : Nt := ⟨st.l, st.n, fun x y => st.p x y || pair a b x y⟩
def joinN (st : Nt) (a b : Int) : Nt := ⟨st.l, st.n, fun x y => st.p x y && !pair a b x y⟩
def ageN (st : Nt) : Nt := ⟨st.l.map Lt.older, st.n, st.p⟩
def Nt.find (st : Nt) (id : Nat) : Option Lt := st.l.find? (fun x => decide (x.id = id))
/-- What Send tells, and what is behind it. -/
def Nt.send (st : Nt) (a b : Int) (s : ByteArray) : Nat × Nat × Nt :=
  if (adr a && adr b) = false then (0, 2, st) else if 131072 < s.size then (0, 4, st) else if 4096 ≤ st.l.length then (0, 6, st) else (st.n + 1, 0, sendN st a b s)
def Nt.take (st : Nt) (id : Nat) : Lt × Nat × Nt :=
  match st.find id with
  | none => (noLt, 5, st)
  | some x => if st.p x.a x.b = true then (noLt, 100, st) else (x, 0, dropN st id)
def Nt.double (st : Nt) (id : Nat) : Nat × Nat × Nt :=
  match st.find id with
  | none => (0, 5, st)
  | some x => if 4096 ≤ st.l.length then (0, 6, st) else (st.n + 1, 0, doubleN st x)
def Nt.drop (st : Nt) (id : Nat) : Nat × Nt :=
  match st.find id with
  | none => (5, st)
  | some _ => (0, dropN st id)
def Nt.part (st : Nt) (a b : Int) : Nat × Nt := if (adr a && adr b && !decide (a = b)) = false then (2, st) else (0, partN st a b)
def Nt.join (st : Nt) (a b : Int) : Nat × Nt := if (adr a && adr b && !decide (a = b)) = false then (2, st) else (0, joinN st a b)
/-- The letters of one age between whom nobody parts. -/
def atAge (st : Nt) (g : Nat) : List Lt := st.l.filter (fun x => decide (x.g = g) && !st.p x.a x.b)
/-- The ages from m down. -/
def downTo (st : Nt) : Nat → List Lt
  | 0 => atAge st 0
  | m + 1 => atAge st (m + 1) ++ downTo st m
def oldest (l : List Lt) : Nat := l.foldl (fun m x => max m x.g) 0
def readyL (st : Nt) : List Lt := downTo st (oldest st.l)
def Nt.ready (st : Nt) : List Nat := (readyL st).map (·.id)
/-- A net that is in order: m bounds what its numbers and ages may be. -/
structure Nt.Ok (m : Nat) (st : Nt) : Prop where
  few : st.l.length ≤ 4096
  last : st.n ≤ m
  ids : ∀ x ∈ st.l, 1 ≤ x.id ∧ x.id ≤ st.n
  rise : st.l.Pairwise (fun x y => x.id < y.id)
  ages : ∀ x ∈ st.l, x.g ≤ m
  ends : ∀ x ∈ st.l, (0 ≤ x.a ∧ x.a < 256) ∧ (0 ≤ x.b ∧ x.b < 256)
  text : ∀ x ∈ st.l, x.s.size ≤ 131072
  sym : ∀ x y, st.p x y = st.p y x
  self : ∀ x, st.p x x = false
  cuts : ∀ x y, st.p x y = true → (0 ≤ x ∧ x < 256) ∧ (0 ≤ y ∧ y < 256)
theorem Nt.Ok.new : Nt.new.Ok 0 :=
  ⟨by decide, Nat.le_refl _, fun _ h => (by cases h), List.Pairwise.nil, fun _ h => (by cases h), fun _ h => (by cases h), fun _ h => (by cases h), fun _ _ => rfl, fun _ => rfl, fun _ _ h => (by cases h)⟩
theorem Nt.Ok.more {m m' : Nat} {st : Nt} (h : st.Ok m) (hm : m ≤ m') : st.Ok m' :=
  ⟨h.few, Nat.le_trans h.last hm, h.ids, h.rise, fun x hx => Nat.le_trans (h.ages x hx) hm, h.ends, h.text, h.sym, h.self, h.cuts⟩
theorem Nt.Ok.push {m : Nat} {st : Nt} (h : st.Ok m) (hl : st.l.length < 4096) (x : Lt) (hid : x.id = st.n + 1) (hg : x.g ≤ m) (ha : (0 ≤ x.a ∧ x.a < 256) ∧ (0 ≤ x.b ∧ x.b < 256)) (hs : x.s.size ≤ 131072) : Nt.Ok (m + 1) ⟨st.l ++ [x], st.n + 1, st.p⟩ := by
  refine ⟨by rw [List.length_append]; simp; omega, by have := h.last; show st.n + 1 ≤ m + 1; omega, fun y hy => ?_, ?_, fun y hy => ?_, fun y hy => ?_, fun y hy => ?_, h.sym, h.self, h.cuts⟩
  · rcases List.mem_append.1 hy with h1 | h1
    · have := h.ids y h1; exact ⟨this.1, by have := this.2; show y.id ≤ st.n + 1; omega⟩
    · rw [List.mem_singleton.1 h1, hid]; exact ⟨by omega, Nat.le_refl _⟩
  · refine List.pairwise_append.2 ⟨h.rise, List.pairwise_singleton .., fun y hy z hz => ?_⟩
    rw [List.mem_singleton.1 hz, hid]
    have := (h.ids y hy).2
    omega
  · rcases List.mem_append.1 hy with h1 | h1
    · have := h.ages y h1; omega
    · rw [List.mem_singleton.1 h1]; omega
  · rcases List.mem_append.1 hy with h1 | h1
    · exact h.ends y h1
    · rw [List.mem_singleton.1 h1]; exact ha
  · rcases List.mem_append.1 hy with h1 | h1
    · exact h.text y h1
    · rw [List.mem_singleton.1 h1]; exact hs
theorem Nt.find_some {st : Nt} {id : Nat} {x : Lt} (h : st.find id = some x) : x ∈ st.l ∧ x.id = id := ⟨List.mem_of_find?_eq_some h, by have := List.find?_some h; simpa using this⟩
theorem Nt.find_none {st : Nt} {id : Nat} (h : st.find id = none) : ∀ x ∈ st.l, x.id ≠ id := fun x hx e => by
  have := List.find?_eq_none.1 h x hx
  exact this (by simpa using e)
/-- Numbers are each there once. -/
theorem rise_one {l : List Lt} (h : l.Pairwise (fun x y => x.id < y.id)) {x y : Lt} (hx : x ∈ l) (hy : y ∈ l) (e : x.id = y.id) : x = y := by
  induction l with
  | nil => cases hx
  | cons z l ih =>
    have h1 := (List.pairwise_cons.1 h).1
    rcases List.mem_cons.1 hx with e1 | h2
    · rcases List.mem_cons.1 hy with e2 | h3
      · rw [e1, e2]
      · have := h1 _ h3; rw [← e1] at this; omega
    · rcases List.mem_cons.1 hy with e2 | h3
      · have := h1 _ h2; rw [← e2] at this; omega
      · exact ih (List.Pairwise.of_cons h) h2 h3
theorem Nt.Ok.drop {m : Nat} {st : Nt} (h : st.Ok m) (id : Nat) : (dropN st id).Ok m :=
  have sub : ∀ x, x ∈ (dropN st id).l → x ∈ st.l := fun _ hx => (List.mem_filter.1 hx).1
  ⟨Nat.le_trans (List.length_filter_le _ _) h.few, h.last, fun y hy => h.ids y (sub y hy), h.rise.filter _, fun x hx => h.ages x (sub x hx), fun x hx => h.ends x (sub x hx), fun x hx => h.text x (sub x hx), h.sym, h.self, h.cuts⟩
theorem pair_sym (a b x y : Int) : pair a b x y = pair a b y x := by
  unfold pair; rw [decide_eq_decide]
  constructor
  · rintro (⟨h1, h2⟩ | ⟨h1, h2⟩)
    · exact Or.inr ⟨h2, h1⟩
    · exact Or.inl ⟨h2, h1⟩
  · rintro (⟨h1, h2⟩ | ⟨h1, h2⟩)
    · exact Or.inr ⟨h2, h1⟩
    · exact Or.inl ⟨h2, h1⟩
theorem pair_turn (a b x y : Int) : pair a b x y = pair b a x y := by
  unfold pair; rw [decide_eq_decide]; exact Or.comm
theorem Nt.Ok.part {m : Nat} {st : Nt} (h : st.Ok m) (a b : Int) (ha : 0 ≤ a ∧ a < 256) (hb : 0 ≤ b ∧ b < 256) (hne : a ≠ b) : (partN st a b).Ok m := by
  refine ⟨h.few, h.last, h.ids, h.rise, h.ages, h.ends, h.text, fun x y => ?_, fun x => ?_, fun x y hp => ?_⟩
  · show (st.p x y || pair a b x y) = (st.p y x || pair a b y x)
    rw [h.sym x y, pair_sym]
  · show (st.p x x || pair a b x x) = false
    rw [h.self x]
    unfold pair
    simp
    omega
  · have hp' : (st.p x y || pair a b x y) = true := hp
    rw [Bool.or_eq_true] at hp'
    rcases hp' with h1 | h1
    · exact h.cuts x y h1
    · unfold pair at h1
      have := of_decide_eq_true h1
      omega
theorem Nt.Ok.join {m : Nat} {st : Nt} (h : st.Ok m) (a b : Int) : (joinN st a b).Ok m := by
  refine ⟨h.few, h.last, h.ids, h.rise, h.ages, h.ends, h.text, fun x y => ?_, fun x => ?_, fun x y hp => ?_⟩
  · show (st.p x y && !pair a b x y) = (st.p y x && !pair a b y x)
    rw [h.sym x y, pair_sym]
  · show (st.p x x && !pair a b x x) = false
    rw [h.self x]
    rfl
  · have hp' : (st.p x y && !pair a b x y) = true := hp
    rw [Bool.and_eq_true] at hp'
    exact h.cuts x y hp'.1
theorem Nt.Ok.age {m : Nat} {st : Nt} (h : st.Ok m) : (ageN st).Ok (m + 1) := by
  have sub : ∀ x, x ∈ (ageN st).l → ∃ y ∈ st.l, x = y.older := fun x hx => by
    obtain ⟨y, hy, e⟩ := List.mem_map.1 hx
    exact ⟨y, hy, e.symm⟩
  refine ⟨by show (st.l.map Lt.older).length ≤ 4096; rw [List.length_map]; exact h.few, Nat.le_succ_of_le h.last, fun x hx => ?_, ?_, fun x hx => ?_, fun x hx => ?_, fun x hx => ?_, h.sym, h.self, h.cuts⟩
  · obtain ⟨y, hy, rfl⟩ := sub x hx
    exact h.ids y hy
  · show (st.l.map Lt.older).Pairwise _
    rw [List.pairwise_map]
    exact h.rise
  · obtain ⟨y, hy, rfl⟩ := sub x hx
    exact Nat.succ_le_succ (h.ages y hy)
  · obtain ⟨y, hy, rfl⟩ := sub x hx
    exact h.ends y hy
  · obtain ⟨y, hy, rfl⟩ := sub x hx
    exact h.text y hy
/-- Ways of a call. -/
theorem Nt.send_cases {q : Nat × Nat × Nt → Prop} (st : Nt) (a b : Int) (s : ByteArray) (h2 : ¬ ((0 ≤ a ∧ a < 256) ∧ (0 ≤ b ∧ b < 256)) → q (0, 2, st)) (h4 : (0 ≤ a ∧ a < 256) → (0 ≤ b ∧ b < 256) → 131072 < s.size → q (0, 4, st))
    (h6 : (0 ≤ a ∧ a < 256) → (0 ≤ b ∧ b < 256) → s.size ≤ 131072 → 4096 ≤ st.l.length → q (0, 6, st)) (h0 : (0 ≤ a ∧ a < 256) → (0 ≤ b ∧ b < 256) → s.size ≤ 131072 → st.l.length < 4096 → q (st.n + 1, 0, sendN st a b s)) : q (st.send a b s) := by
  unfold Nt.send
  split
  · rename_i h
    refine h2 (fun hh => ?_)
    rw [(adr_iff a).2 hh.1, (adr_iff b).2 hh.2] at h
    cases h
  · rename_i h
    have h' : adr a = true ∧ adr b = true := by simpa using h
    have ha := (adr_iff a).1 h'.1
    have hb := (adr_iff b).1 h'.2
    split
    · exact h4 ha hb ‹_›
    · split
      · exact h6 ha hb (by omega) ‹_›
      · exact h0 ha hb (by omega) (by omega)
theorem Nt.Ok.send {m : Nat} {st : Nt} (h : st.Ok m) (a b : Int) (s : ByteArray) : (st.send a b s).2.2.Ok (m + 1) :=
  Nt.send_cases (q := fun r => r.2.2.Ok (m + 1)) st a b s (fun _ => h.more (Nat.le_succ _)) (fun _ _ _ => h.more (Nat.le_succ _)) (fun _ _ _ _ => h.more (Nat.le_succ _)) (fun ha hb hs hl => h.push hl _ rfl (Nat.zero_le _) ⟨ha, hb⟩ hs)
theorem Nt.take_cases {q : Lt × Nat × Nt → Prop} (st : Nt) (id : Nat) (h5 : st.find id = none → q (noLt, 5, st)) (hc : ∀ x, st.find id = some x → st.p x.a x.b = true → q (noLt, 100, st)) (h0 : ∀ x, st.find id = some x → st.p x.a x.b = false → q (x, 0, dropN st id)) : q (st.take id) := by
  unfold Nt.take
  split
  · exact h5 ‹_›
  · split
    · exact hc _ ‹_› ‹_›
    · rename_i x hf hp
      exact h0 x hf (by cases h : st.p x.a x.b; rfl; exact absurd h hp)
theorem Nt.Ok.take {m : Nat} {st : Nt} (h : st.Ok m) (id : Nat) : (st.take id).2.2.Ok m := Nt.take_cases (q := fun r => r.2.2.Ok m) st id (fun _ => h) (fun _ _ _ => h) (fun _ _ _ => h.drop id)
theorem Nt.double_cases {q : Nat × Nat × Nt → Prop} (st : Nt) (id : Nat) (h5 : st.find id = none → q (0, 5, st)) (h6 : ∀ x, st.find id = some x → 4096 ≤ st.l.length → q (0, 6, st)) (h0 : ∀ x, st.find id = some x → st.l.length < 4096 → q (st.n + 1, 0, doubleN st x)) : q (st.double id) := by
  unfold Nt.double
  split
  · exact h5 ‹_›
  · split
    · exact h6 _ ‹_› ‹_›
    · exact h0 _ ‹_› (by omega)
theorem Nt.Ok.double {m : Nat} {st : Nt} (h : st.Ok m) (id : Nat) : (st.double id).2.2.Ok (m + 1) :=
  Nt.double_cases (q := fun r => r.2.2.Ok (m + 1)) st id (fun _ => h.more (Nat.le_succ _)) (fun _ _ _ => h.more (Nat.le_succ _)) (fun x hx hl => h.push hl _ rfl (h.ages x (Nt.find_some hx).1) (h.ends x (Nt.find_some hx).1) (h.text x (Nt.find_some hx).1))
theorem Nt.drop_cases {q : Nat × Nt → Prop} (st : Nt) (id : Nat) (h5 : st.find id = none → q (5, st)) (h0 : ∀ x, st.find id = some x → q (0, dropN st id)) : q (st.drop id) := by
  unfold Nt.drop
  split
  · exact h5 ‹_›
  · exact h0 _ ‹_›
theorem Nt.Ok.dropped {m : Nat} {st : Nt} (h : st.Ok m) (id : Nat) : (st.drop id).2.Ok m := Nt.drop_cases (q := fun r => r.2.Ok m) st id (fun _ => h) (fun _ _ => h.drop id)
theorem Nt.part_cases {q : Nat × Nt → Prop} (st : Nt) (a b : Int) (h2 : ¬ ((0 ≤ a ∧ a < 256) ∧ (0 ≤ b ∧ b < 256) ∧ a ≠ b) → q (2, st)) (h0 : (0 ≤ a ∧ a < 256) → (0 ≤ b ∧ b < 256) → a ≠ b → q (0, partN st a b)) : q (st.part a b) := by
  unfold Nt.part
  split
  · rename_i h
    refine h2 (fun hh => ?_)
    rw [(adr_iff a).2 hh.1, (adr_iff b).2 hh.2.1, decide_eq_false hh.2.2] at h
    cases h
  · rename_i h
    have h' : adr a = true ∧ adr b = true ∧ ¬ a = b := by simpa using h
    exact h0 ((adr_iff a).1 h'.1) ((adr_iff b).1 h'.2.1) h'.2.2
theorem Nt.join_cases {q : Nat × Nt → Prop} (st : Nt) (a b : Int) (h2 : ¬ ((0 ≤ a ∧ a < 256) ∧ (0 ≤ b ∧ b < 256) ∧ a ≠ b) → q (2, st)) (h0 : (0 ≤ a ∧ a < 256) → (0 ≤ b ∧ b < 256) → a ≠ b → q (0, joinN st a b)) : q (st.join a b) := by
  unfold Nt.join
  split
  · rename_i h
    refine h2 (fun hh => ?_)
    rw [(adr_iff a).2 hh.1, (adr_iff b).2 hh.2.1, decide_eq_false hh.2.2] at h
    cases h
  · rename_i h
    have h' : adr a = true ∧ adr b = true ∧ ¬ a = b := by simpa using h
    exact h0 ((adr_iff a).1 h'.1) ((adr_iff b).1 h'.2.1) h'.2.2
theorem Nt.Ok.parted {m : Nat} {st : Nt} (h : st.Ok m) (a b : Int) : (st.part a b).2.Ok m := Nt.part_cases (q := fun r => r.2.Ok m) st a b (fun _ => h) (fun ha hb hn => h.part a b ha hb hn)
theorem Nt.Ok.joined {m : Nat} {st : Nt} (h : st.Ok m) (a b : Int) : (st.join a b).2.Ok m := Nt.join_cases (q := fun r => r.2.Ok m) st a b (fun _ => h) (fun _ _ _ => h.join a b)
/-! ### those that are ready -/
/-- The older first, of one age the lower number. -/
def ahead (x y : Lt) : Prop := y.g < x.g ∨ x.g = y.g ∧ x.id < y.id
theorem mem_atAge {st : Nt} {g : Nat} {x : Lt} : x ∈ atAge st g ↔ x ∈ st.l ∧ x.g = g ∧ st.p x.a x.b = false := by
  unfold atAge
  rw [List.mem_filter]
  simp
theorem mem_downTo {st : Nt} {x : Lt} : ∀ m, x ∈ downTo st m ↔ x ∈ st.l ∧ x.g ≤ m ∧ st.p x.a x.b = false
  | 0 => by rw [show downTo st 0 = atAge st 0 from rfl, mem_atAge]; simp
  | m + 1 => by
    rw [show downTo st (m + 1) = atAge st (m + 1) ++ downTo st m from rfl, List.mem_append, mem_atAge, mem_downTo m]
    constructor
    · rintro (⟨h1, h2, h3⟩ | ⟨h1, h2, h3⟩)
      · exact ⟨h1, by omega, h3⟩
      · exact ⟨h1, by omega, h3⟩
    · rintro ⟨h1, h2, h3⟩
      by_cases e : x.g = m + 1
      · exact Or.inl ⟨h1, e, h3⟩
      · exact Or.inr ⟨h1, by omega, h3⟩
theorem downTo_ahead {st : Nt} (h : st.l.Pairwise (fun x y => x.id < y.id)) : ∀ m, (downTo st m).Pairwise ahead
  | 0 => by
    have e : (atAge st 0).Pairwise (fun x y => x.id < y.id) := h.filter _
    exact e.imp_of_mem (fun {a b} ha hb hab => Or.inr ⟨by rw [(mem_atAge.1 ha).2.1, (mem_atAge.1 hb).2.1], hab⟩)
  | m + 1 => by
    refine List.pairwise_append.2 ⟨?_, downTo_ahead h m, fun a ha b hb => ?_⟩
    · have e : (atAge st (m + 1)).Pairwise (fun x y => x.id < y.id) := h.filter _
      exact e.imp_of_mem (fun {a b} ha hb hab => Or.inr ⟨by rw [(mem_atAge.1 ha).2.1, (mem_atAge.1 hb).2.1], hab⟩)
    · have h1 := (mem_atAge.1 ha).2.1
      have h2 := ((mem_downTo m).1 hb).2.1
      exact Or.inl (by omega)
theorem count_split (l : List Lt) (p : Lt → Bool) (m : Nat) : (l.filter (fun x => decide (x.g = m + 1) && p x)).length + (l.filter (fun x => decide (x.g ≤ m) && p x)).length = (l.filter (fun x => decide (x.g ≤ m + 1) && p x)).length := by
  induction l with
  | nil => rfl
  | cons x l ih =>
    rw [List.filter_cons, List.filter_cons, List.filter_cons]
    by_cases hp : p x = true
    · by_cases h1 : x.g = m + 1
      · have h2 : ¬ x.g ≤ m := by omega
        have h3 : x.g ≤ m + 1 := by omega
        rw [decide_eq_true h1, decide_eq_false h2, decide_eq_true h3, hp]
        simp at ih ⊢
        omega
      · by_cases h2 : x.g ≤ m
        · have h3 : x.g ≤ m + 1 := by omega
          rw [decide_eq_false h1, decide_eq_true h2, decide_eq_true h3, hp]
          simp at ih ⊢
          omega
        · have h3 : ¬ x.g ≤ m + 1 := by omega
          rw [decide_eq_false h1, decide_eq_false h2, decide_eq_false h3]
          simp at ih ⊢
          omega
    · simp [hp] at ih ⊢
      omega
theorem downTo_len (st : Nt) : ∀ m, (downTo st m).length = (st.l.filter (fun x => decide (x.g ≤ m) && !st.p x.a x.b)).length
  | 0 => by
    show (atAge st 0).length = _
    unfold atAge
    congr 2
    funext x
    congr 1
    rw [decide_eq_decide]
    omega
  | m + 1 => by
    rw [show downTo st (m + 1) = atAge st (m + 1) ++ downTo st m from rfl, List.length_append, downTo_len st m, ← count_split]
    rfl
theorem oldest_from (l : List Lt) : ∀ m, m ≤ l.foldl (fun m x => max m x.g) m ∧ ∀ x ∈ l, x.g ≤ l.foldl (fun m x => max m x.g) m := by
  induction l with
  | nil => exact fun m => ⟨Nat.le_refl _, fun _ h => by cases h⟩
  | cons y l ih =>
    intro m
    have h := ih (max m y.g)
    refine ⟨by have := h.1; rw [List.foldl_cons]; omega, fun x hx => ?_⟩
    rw [List.foldl_cons]
    rcases List.mem_cons.1 hx with rfl | hx
    · have := h.1; omega
    · exact h.2 x hx
theorem le_oldest {l : List Lt} {x : Lt} (h : x ∈ l) : x.g ≤ oldest l := (oldest_from l 0).2 x h
theorem oldest_le (l : List Lt) (k : Nat) (h : ∀ x ∈ l, x.g ≤ k) : oldest l ≤ k := by
  have key : ∀ (l : List Lt) (m : Nat), m ≤ k → (∀ x ∈ l, x.g ≤ k) → l.foldl (fun m x => max m x.g) m ≤ k := by
    intro l
    induction l with
    | nil => exact fun m hm _ => hm
    | cons y l ih =>
      intro m hm hl
      rw [List.foldl_cons]
      exact ih _ (by have := hl y (List.mem_cons_self ..); omega) (fun x hx => hl x (List.mem_cons_of_mem _ hx))
  exact key l 0 (Nat.zero_le _) h
theorem oldest_next (l : List Lt) (k : Nat) (hk : k < l.length) : oldest (l.take (k + 1)) = max (oldest (l.take k)) l[k].g := by
  unfold oldest
  rw [List.take_succ_eq_append_getElem hk, List.foldl_append]
  rfl
theorem mem_readyL {st : Nt} {x : Lt} : x ∈ readyL st ↔ x ∈ st.l ∧ st.p x.a x.b = false := by
  unfold readyL
  rw [mem_downTo]
  exact ⟨fun h => ⟨h.1, h.2.2⟩, fun h => ⟨h.1, le_oldest h.1, h.2⟩⟩
theorem readyL_len (st : Nt) : (readyL st).length = (st.l.filter (fun x => !st.p x.a x.b)).length := by
  unfold readyL
  rw [downTo_len]
  congr 1
  refine List.filter_congr (fun x hx => ?_)
  rw [decide_eq_true (le_oldest hx), Bool.true_and]
theorem readyL_ahead {st : Nt} (h : st.l.Pairwise (fun x y => x.id < y.id)) : (readyL st).Pairwise ahead := downTo_ahead h _
theorem ready_len (st : Nt) : st.ready.length = (readyL st).length := List.length_map ..
theorem readyL_few (st : Nt) : (readyL st).length ≤ st.l.length := by rw [readyL_len]; exact List.length_filter_le _ _
/-- Whatever has the same letters, each ahead of the next, is that row. -/
theorem ready_one {st : Nt} (h : st.l.Pairwise (fun x y => x.id < y.id)) {r : List Lt} (hr : r.Pairwise ahead) (hm : ∀ x, x ∈ r ↔ x ∈ st.l ∧ st.p x.a x.b = false) : r = readyL st := by
  have key : ∀ (l1 l2 : List Lt), l1.Pairwise ahead → l2.Pairwise ahead → (∀ x, x ∈ l1 ↔ x ∈ l2) → l1 = l2 := by
    intro l1
    induction l1 with
    | nil =>
      intro l2 _ _ hm
      cases l2 with
      | nil => rfl
      | cons y l2 => exact absurd ((hm y).2 (List.mem_cons_self ..)) (by simp)
    | cons x l1 ih =>
      intro l2 h1 h2 hm
      cases l2 with
      | nil => exact absurd ((hm x).1 (List.mem_cons_self ..)) (by simp)
      | cons y l2 =>
        have a1 := (List.pairwise_cons.1 h1).1
        have a2 := (List.pairwise_cons.1 h2).1
        have exy : x = y := by
          rcases List.mem_cons.1 ((hm x).1 (List.mem_cons_self ..)) with e | hx
          · exact e
          · rcases List.mem_cons.1 ((hm y).2 (List.mem_cons_self ..)) with e | hy
            · exact e.symm
            · have b1 := a1 _ hy
              have b2 := a2 _ hx
              unfold ahead at b1 b2
              omega
        subst exy
        congr 1
        refine ih l2 (List.Pairwise.of_cons h1) (List.Pairwise.of_cons h2) (fun z => ?_)
        constructor
        · intro hz
          rcases List.mem_cons.1 ((hm z).1 (List.mem_cons_of_mem _ hz)) with e | hz'
          · have := a1 _ hz
            rw [e] at this
            unfold ahead at this
            omega
          · exact hz'
        · intro hz
          rcases List.mem_cons.1 ((hm z).2 (List.mem_cons_of_mem _ hz)) with e | hz'
          · have := a2 _ hz
            rw [e] at this
            unfold ahead at this
            omega
          · exact hz'
  exact key r (readyL st) hr (readyL_ahead h) (fun x => (hm x).trans mem_readyL.symm)
end Go.Proofs.Ytdfioggeiagihaa
