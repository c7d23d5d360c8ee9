/- Heaps, plainly: a row as a function of its places; a step up, a step down, what is at the top. -/
import Derived.Test.YtdfioggeiagihaaPlain
namespace Go.Proofs.Ytdfioggeiagihaa

/-- What stands above. -/
def par (i : Nat) : Nat := (i - 1) / 2
/-- An order: what is not ahead of what is not ahead is not ahead. -/
structure Ordr {α : Type} (lt : α → α → Bool) : Prop where
  asym : ∀ a b, lt a b = true → lt b a = false
  trans : ∀ a b c, lt b a = false → lt c b = false → lt c a = false
def swp {α : Type} (f : Nat → α) (i j : Nat) : Nat → α := fun k => if k = i then f j else if k = j then f i else f k
def IsHeap {α : Type} (lt : α → α → Bool) (f : Nat → α) (n : Nat) : Prop := ∀ i, 0 < i → i < n → lt (f i) (f (par i)) = false
/-- A heap but for what stands at j, that may be ahead of what is above it. -/
structure UpInv {α : Type} (lt : α → α → Bool) (f : Nat → α) (n j : Nat) : Prop where
  rest : ∀ i, 0 < i → i < n → i ≠ j → lt (f i) (f (par i)) = false
  over : ∀ c, 0 < c → c < n → par c = j → 0 < j → lt (f c) (f (par j)) = false
/-- A heap but for what stands at i, behind which what is below it may have to stand. -/
structure DownInv {α : Type} (lt : α → α → Bool) (f : Nat → α) (n i : Nat) : Prop where
  rest : ∀ c, 0 < c → c < n → par c ≠ i → lt (f c) (f (par c)) = false
  over : ∀ c, 0 < c → c < n → par c = i → 0 < i → lt (f c) (f (par i)) = false
theorem Ordr.irr {α : Type} {lt : α → α → Bool} (O : Ordr lt) (a : α) : lt a a = false := by
  cases h : lt a a with
  | false => rfl
  | true => have := O.asym a a h; rw [h] at this; exact this
theorem par_lt {i : Nat} (h : 0 < i) : par i < i := by unfold par; omega
theorem UpInv.done {α : Type} {lt : α → α → Bool} {f : Nat → α} {n j : Nat} (h : UpInv lt f n j) (hj : j = 0 ∨ lt (f j) (f (par j)) = false) : IsHeap lt f n := fun i h0 hn => by
  by_cases e : i = j
  · subst e
    rcases hj with rfl | hj
    · omega
    · exact hj
  · exact h.rest i h0 hn e
theorem UpInv.step {α : Type} {lt : α → α → Bool} (O : Ordr lt) {f : Nat → α} {n j : Nat} (h : UpInv lt f n j) (h0 : 0 < j) (hj : j < n) (hl : lt (f j) (f (par j)) = true) : UpInv lt (swp f j (par j)) n (par j) := by
  have hp := par_lt h0
  refine ⟨fun i hi hn hne => ?_, fun c hc hn hcp hp0 => ?_⟩
  · by_cases e : i = j
    · subst e
      have : swp f i (par i) i = f (par i) := by simp [swp]
      have h2 : swp f i (par i) (par i) = f i := by unfold swp; rw [if_neg (by omega), if_pos rfl]
      rw [this, h2]
      exact O.asym _ _ hl
    · have e1 : swp f j (par j) i = f i := by unfold swp; rw [if_neg e, if_neg hne]
      rw [e1]
      by_cases e2 : par i = j
      · have : swp f j (par j) (par i) = f (par j) := by rw [e2]; simp [swp]
        rw [this]
        exact h.over i hi hn e2 h0
      · by_cases e3 : par i = par j
        · have : swp f j (par j) (par i) = f j := by rw [e3]; unfold swp; rw [if_neg (by omega), if_pos rfl]
          rw [this]
          have h3 := h.rest i hi hn e
          rw [e3] at h3
          exact O.trans _ _ _ (O.asym _ _ hl) h3
        · have : swp f j (par j) (par i) = f (par i) := by unfold swp; rw [if_neg e2, if_neg e3]
          rw [this]
          exact h.rest i hi hn e
  · have hpp := par_lt hp0
    have e1 : swp f j (par j) (par (par j)) = f (par (par j)) := by unfold swp; rw [if_neg (by omega), if_neg (by omega)]
    rw [e1]
    have hpj := h.rest (par j) hp0 (by omega) (by omega)
    by_cases e : c = j
    · subst e
      have : swp f c (par c) c = f (par c) := by simp [swp]
      rw [this]
      exact hpj
    · have hcn : c ≠ par j := fun e' => by have := par_lt hc; omega
      have : swp f j (par j) c = f c := by unfold swp; rw [if_neg e, if_neg hcn]
      rw [this]
      have h3 := h.rest c hc hn e
      rw [hcp] at h3
      exact O.trans _ _ _ hpj h3
theorem par_kids {c i : Nat} (h : 0 < c) (e : par c = i) : c = 2 * i + 1 ∨ c = 2 * i + 2 := by unfold par at e; omega
theorem kid1 (i : Nat) : par (2 * i + 1) = i := by unfold par; omega
theorem kid2 (i : Nat) : par (2 * i + 2) = i := by unfold par; omega
/-- Nothing below is ahead: all is a heap. -/
theorem DownInv.done {α : Type} {lt : α → α → Bool} {f : Nat → α} {n i : Nat} (h : DownInv lt f n i) (hk : ∀ c, 0 < c → c < n → par c = i → lt (f c) (f i) = false) : IsHeap lt f n := fun c h0 hn => by
  by_cases e : par c = i
  · rw [e]; exact hk c h0 hn e
  · exact h.rest c h0 hn e
theorem DownInv.step {α : Type} {lt : α → α → Bool} (O : Ordr lt) {f : Nat → α} {n i j : Nat} (h : DownInv lt f n i) (h0 : 0 < j) (hj : j < n) (hp : par j = i) (hmin : ∀ c, 0 < c → c < n → par c = i → lt (f c) (f j) = false) (hl : lt (f j) (f i) = true) : DownInv lt (swp f i j) n j := by
  have hij : i < j := by have := par_lt h0; omega
  have ei : swp f i j i = f j := by simp [swp]
  have ej : swp f i j j = f i := by unfold swp; rw [if_neg (by omega), if_pos rfl]
  have eo : ∀ k, k ≠ i → k ≠ j → swp f i j k = f k := fun k h1 h2 => by unfold swp; rw [if_neg h1, if_neg h2]
  refine ⟨fun c hc hn hcp => ?_, fun c hc hn hcp _ => ?_⟩
  · by_cases e : par c = i
    · rw [e, ei]
      by_cases e2 : c = j
      · rw [e2, ej]; exact O.asym _ _ hl
      · rw [eo c (by have := par_lt hc; omega) e2]; exact hmin c hc hn e
    · rw [eo (par c) e hcp]
      by_cases e2 : c = i
      · subst e2
        rw [ei]
        exact h.over j h0 hj hp hc
      · have e3 : c ≠ j := fun e' => e (by rw [e', hp])
        rw [eo c e2 e3]
        exact h.rest c hc hn e
  · rw [hp, ei, eo c (by have := par_lt hc; omega) (by have := par_lt hc; omega)]
    have h3 := h.rest c hc hn (by omega)
    rw [hcp] at h3
    exact h3
/-- The top of a heap: nothing is ahead of it. -/
theorem IsHeap.top {α : Type} {lt : α → α → Bool} (O : Ordr lt) {f : Nat → α} {n : Nat} (h : IsHeap lt f n) : ∀ i, i < n → lt (f i) (f 0) = false := by
  intro i
  induction i using Nat.strongRecOn with
  | ind i ih =>
    intro hn
    by_cases e : i = 0
    · subst e; exact O.irr _
    · have h1 := h i (by omega) hn
      have h2 := ih (par i) (par_lt (by omega)) (by have := par_lt (i := i) (by omega); omega)
      exact O.trans _ _ _ h2 h1
/-- One more at the end of a heap: it may have to go up. -/
theorem IsHeap.push {α : Type} {lt : α → α → Bool} {f : Nat → α} {n : Nat} (h : IsHeap lt f n) : UpInv lt f (n + 1) n :=
  ⟨fun i h0 hn hne => h i h0 (by omega), fun c hc hn hcp h0 => by have := par_lt hc; omega⟩
/-- The last is put at the top: it may have to go down. -/
theorem IsHeap.pop {α : Type} {lt : α → α → Bool} {f : Nat → α} {n : Nat} (h : IsHeap lt f (n + 1)) : DownInv lt (swp f 0 n) n 0 :=
  ⟨fun c h0 hn hcp => (by
    have e1 : swp f 0 n c = f c := by unfold swp; rw [if_neg (by omega), if_neg (by omega)]
    have e2 : swp f 0 n (par c) = f (par c) := by unfold swp; rw [if_neg hcp, if_neg (by have := par_lt h0; omega)]
    rw [e1, e2]; exact h c h0 (by omega)), fun c _ _ _ h0 => by omega⟩
/-- The order in which letters are ready, as a program asks it. -/
def aheadB (x y : Lt) : Bool := decide (y.g < x.g) || (x.g == y.g && decide (x.id < y.id))
theorem aheadB_ordr : Ordr aheadB := by
  refine ⟨fun a b h => ?_, fun a b c h1 h2 => ?_⟩
  · simp [aheadB] at h ⊢; omega
  · simp [aheadB] at h1 h2 ⊢; omega
theorem aheadB_iff (x y : Lt) : aheadB x y = true ↔ ahead x y := by
  unfold aheadB ahead; simp
theorem ahead_turn {x y : Lt} (h : aheadB y x = false) (hne : y.id ≠ x.id) : ahead x y := by
  simp [aheadB] at h
  unfold ahead
  omega
/-- What stands in the row. -/
def Stands {α : Type} (f : Nat → α) (n : Nat) (x : α) : Prop := ∃ i, i < n ∧ f i = x
theorem swp_at {α : Type} (f : Nat → α) (a b i : Nat) : ∃ j, (j = i ∨ j = a ∨ j = b) ∧ swp f a b i = f j := by
  unfold swp
  by_cases h1 : i = a
  · exact ⟨b, by omega, if_pos h1⟩
  · by_cases h2 : i = b
    · exact ⟨a, by omega, by rw [if_neg h1, if_pos h2]⟩
    · exact ⟨i, by omega, by rw [if_neg h1, if_neg h2]⟩
theorem swp_swp {α : Type} (f : Nat → α) (a b : Nat) : swp (swp f a b) a b = f := by
  funext i
  unfold swp
  by_cases h1 : i = a
  · subst h1
    by_cases h2 : b = i
    · subst h2; simp
    · simp [h2]
  · by_cases h2 : i = b
    · subst h2; simp [h1]
    · simp [h1, h2]
theorem Stands.swp {α : Type} {f : Nat → α} {n a b : Nat} (ha : a < n) (hb : b < n) {x : α} (h : Stands f n x) : Stands (swp f a b) n x := by
  obtain ⟨i, hi, rfl⟩ := h
  obtain ⟨j, hj, e⟩ := swp_at (Go.Proofs.Ytdfioggeiagihaa.swp f a b) a b i
  rw [swp_swp] at e
  exact ⟨j, by omega, e.symm⟩
theorem stands_swp {α : Type} {f : Nat → α} {n a b : Nat} (ha : a < n) (hb : b < n) (x : α) : Stands (swp f a b) n x ↔ Stands f n x := by
  refine ⟨fun h => ?_, fun h => h.swp ha hb⟩
  have := h.swp ha hb
  rw [swp_swp] at this
  exact this
/-- Each number stands once. -/
def Once1 (f : Nat → Lt) (n : Nat) : Prop := ∀ i j, i < n → j < n → (f i).id = (f j).id → i = j
theorem Once1.swp {f : Nat → Lt} {n a b : Nat} (h : Once1 f n) (ha : a < n) (hb : b < n) : Once1 (swp f a b) n := fun i j hi hj e => by
  unfold Go.Proofs.Ytdfioggeiagihaa.swp at e
  by_cases i1 : i = a
  · by_cases j1 : j = a
    · omega
    · by_cases j2 : j = b
      · rw [if_pos i1, if_neg j1, if_pos j2] at e; have := h _ _ hb ha e; omega
      · rw [if_pos i1, if_neg j1, if_neg j2] at e; have := h _ _ hb hj e; omega
  · by_cases i2 : i = b
    · by_cases j1 : j = a
      · rw [if_neg i1, if_pos i2, if_pos j1] at e; have := h _ _ ha hb e; omega
      · by_cases j2 : j = b
        · omega
        · rw [if_neg i1, if_pos i2, if_neg j1, if_neg j2] at e; have := h _ _ ha hj e; omega
    · by_cases j1 : j = a
      · rw [if_neg i1, if_neg i2, if_pos j1] at e; have := h _ _ hi hb e; omega
      · by_cases j2 : j = b
        · rw [if_neg i1, if_neg i2, if_neg j1, if_pos j2] at e; have := h _ _ hi ha e; omega
        · rw [if_neg i1, if_neg i2, if_neg j1, if_neg j2] at e; exact h _ _ hi hj e
/-- A heap that is emptied from the top: what is out is in its row, and ahead of all that still stands. -/
structure Emptied (st : Nt) (f : Nat → Lt) (n : Nat) (out : List Lt) : Prop where
  heap : IsHeap aheadB f n
  once : Once1 f n
  row : out.Pairwise ahead
  front : ∀ x ∈ out, ∀ i, i < n → ahead x (f i)
  all : ∀ x, (x ∈ out ∨ Stands f n x) ↔ x ∈ st.l ∧ st.p x.a x.b = false
/-- The top goes out; what then stands, however it is put in a heap, is the rest. -/
theorem Emptied.pop {st : Nt} {f g : Nat → Lt} {n : Nat} {out : List Lt} (h : Emptied st f (n + 1) out) (hg : IsHeap aheadB g n) (ho : Once1 g n) (hs : ∀ x, Stands g n x ↔ Stands (swp f 0 n) n x) : Emptied st g n (out ++ [f 0]) := by
  have hin : ∀ x, Stands g n x → ∃ i, 0 < i ∧ i < n + 1 ∧ f i = x := fun x hx => by
    obtain ⟨i, hi, rfl⟩ := (hs x).1 hx
    unfold swp
    by_cases e : i = 0
    · rw [if_pos e]; exact ⟨n, by omega, by omega, rfl⟩
    · rw [if_neg e, if_neg (by omega)]; exact ⟨i, by omega, by omega, rfl⟩
  have hback : ∀ i, 0 < i → i < n + 1 → Stands g n (f i) := fun i h0 hi => by
    refine (hs _).2 ?_
    by_cases e : i = n
    · exact ⟨0, by omega, by unfold swp; rw [if_pos rfl, e]⟩
    · exact ⟨i, by omega, by unfold swp; rw [if_neg (by omega), if_neg e]⟩
  refine ⟨hg, ho, List.pairwise_append.2 ⟨h.row, List.pairwise_singleton .., fun x hx y hy => ?_⟩, fun x hx i hi => ?_, fun x => ?_⟩
  · rw [List.mem_singleton] at hy
    subst hy
    exact h.front x hx 0 (by omega)
  · obtain ⟨j, j0, hj, e⟩ := hin (g i) ⟨i, hi, rfl⟩
    rcases List.mem_append.1 hx with h1 | h1
    · rw [← e]; exact h.front x h1 j hj
    · rw [List.mem_singleton] at h1
      subst h1
      rw [← e]
      exact ahead_turn (h.heap.top aheadB_ordr j hj) (fun e' => by have := h.once j 0 hj (by omega) e'; omega)
  · rw [← h.all x]
    constructor
    · rintro (h1 | h1)
      · rcases List.mem_append.1 h1 with h2 | h2
        · exact Or.inl h2
        · rw [List.mem_singleton] at h2; exact Or.inr ⟨0, by omega, h2.symm⟩
      · obtain ⟨i, _, hi, e⟩ := hin x h1
        exact Or.inr ⟨i, hi, e⟩
    · rintro (h1 | ⟨i, hi, rfl⟩)
      · exact Or.inl (List.mem_append_left _ h1)
      · by_cases e : i = 0
        · subst e; exact Or.inl (List.mem_append_right _ (List.mem_singleton.2 rfl))
        · exact Or.inr (hback i (by omega) hi)
/-- When nothing stands, what is out is the row of those that are ready. -/
theorem Emptied.end_ {st : Nt} (hr : st.l.Pairwise (fun x y => x.id < y.id)) {f : Nat → Lt} {out : List Lt} (h : Emptied st f 0 out) : out = readyL st :=
  ready_one hr h.row (fun x => by
    rw [← h.all x]
    exact ⟨Or.inl, fun h1 => h1.elim id (fun ⟨i, hi, _⟩ => absurd hi (by omega))⟩)
/-- A heap from b on (as it is made, from the end). -/
def HeapFrom {α : Type} (lt : α → α → Bool) (f : Nat → α) (n b : Nat) : Prop := ∀ c, 0 < c → c < n → b ≤ par c → lt (f c) (f (par c)) = false
structure DownFrom {α : Type} (lt : α → α → Bool) (f : Nat → α) (n b i : Nat) : Prop where
  rest : ∀ c, 0 < c → c < n → b ≤ par c → par c ≠ i → lt (f c) (f (par c)) = false
  over : ∀ c, 0 < c → c < n → par c = i → 0 < i → b ≤ par i → lt (f c) (f (par i)) = false
theorem HeapFrom.all {α : Type} {lt : α → α → Bool} {f : Nat → α} {n : Nat} (h : HeapFrom lt f n 0) : IsHeap lt f n := fun c h0 hn => h c h0 hn (Nat.zero_le _)
theorem HeapFrom.none {α : Type} (lt : α → α → Bool) (f : Nat → α) (n : Nat) : HeapFrom lt f n (n / 2) := fun c h0 hn hb => by unfold par at hb; omega
theorem HeapFrom.next {α : Type} {lt : α → α → Bool} {f : Nat → α} {n b : Nat} (h : HeapFrom lt f n (b + 1)) : DownFrom lt f n b b :=
  ⟨fun c h0 hn hb hne => h c h0 hn (by omega), fun c _ _ _ h0 hb => by have := par_lt h0; omega⟩
theorem DownFrom.done {α : Type} {lt : α → α → Bool} {f : Nat → α} {n b i : Nat} (h : DownFrom lt f n b i) (hk : ∀ c, 0 < c → c < n → par c = i → lt (f c) (f i) = false) : HeapFrom lt f n b := fun c h0 hn hb => by
  by_cases e : par c = i
  · rw [e]; exact hk c h0 hn e
  · exact h.rest c h0 hn hb e
theorem DownFrom.step {α : Type} {lt : α → α → Bool} (O : Ordr lt) {f : Nat → α} {n b i j : Nat} (h : DownFrom lt f n b i) (hbi : b ≤ i) (h0 : 0 < j) (hj : j < n) (hp : par j = i) (hmin : ∀ c, 0 < c → c < n → par c = i → lt (f c) (f j) = false) (hl : lt (f j) (f i) = true) : DownFrom lt (swp f i j) n b j := by
  have hij : i < j := by have := par_lt h0; omega
  have ei : swp f i j i = f j := by simp [swp]
  have ej : swp f i j j = f i := by unfold swp; rw [if_neg (by omega), if_pos rfl]
  have eo : ∀ k, k ≠ i → k ≠ j → swp f i j k = f k := fun k h1 h2 => by unfold swp; rw [if_neg h1, if_neg h2]
  refine ⟨fun c hc hn hb hcp => ?_, fun c hc hn hcp _ hb => ?_⟩
  · by_cases e : par c = i
    · rw [e, ei]
      by_cases e2 : c = j
      · rw [e2, ej]; exact O.asym _ _ hl
      · rw [eo c (by have := par_lt hc; omega) e2]; exact hmin c hc hn e
    · rw [eo (par c) e hcp]
      by_cases e2 : c = i
      · subst e2
        rw [ei]
        exact h.over j h0 hj hp hc hb
      · have e3 : c ≠ j := fun e' => e (by rw [e', hp])
        rw [eo c e2 e3]
        exact h.rest c hc hn hb e
  · rw [hp, ei, eo c (by have := par_lt hc; omega) (by have := par_lt hc; omega)]
    have h3 := h.rest c hc hn (by omega) (by omega)
    rw [hcp] at h3
    exact h3
theorem DownInv.from_ {α : Type} {lt : α → α → Bool} {f : Nat → α} {n i : Nat} (h : DownInv lt f n i) : DownFrom lt f n 0 i := ⟨fun c h0 hn _ hp => h.rest c h0 hn hp, fun c h0 hn hp hi _ => h.over c h0 hn hp hi⟩
end Go.Proofs.Ytdfioggeiagihaa
