/- WireReads over the contracts. -/
import Derived.Test.YtodndkmpjpiidaaAlive
namespace Go.Proofs.Ytodndkmpjpiidaa
open Go Go.RowKit

/-- A list of asks lies at a. -/
def Asks (a : Option Addr) (len : Nat) (D M : Nat → Nat) (L : Nat → Int) (W : World) : Prop :=
  len = 0 ∨ ∃ b off, a = some ⟨b, off, none⟩ ∧ b < W.heap.size ∧ ∀ i, i < len →
    (D i < 256 ∧ M i < 18446744073709551616 ∧ -9223372036854775808 ≤ L i ∧ L i ≤ 9223372036854775807) ∧
    W.cell? ⟨b, off + i * 3, none⟩ = some (.int .u8 (D i : Int)) ∧ W.cell? ⟨b, off + i * 3 + 1, none⟩ = some (.int .i64 (L i)) ∧ W.cell? ⟨b, off + i * 3 + 2, none⟩ = some (.int .u64 (M i : Int))
/-- Both readers, in one state. -/
def Pair (WAt : World → Nat → St → Prop) (p q : Nat) (w u : World) : Prop := ∃ st, WAt u p st ∧ RefAt u q st ∧ st.s.size ≤ 140737488351232 ∧ Below w.heap.size w u
theorem below_but2 {p q : Nat} {w u u' : World} (h : Below w.heap.size w u) (k : But2 p q u u') (hp : w.heap.size ≤ p) (hq : w.heap.size ≤ q) : Below w.heap.size w u' := h.trans (k.below hp hq h.size)
theorem ref_new (u : World) (s : ByteArray) : RefAt (u.alloc (.cells #[.string s, .int .i64 0] 34)) u.heap.size ⟨s, 0⟩ := ⟨by simp [go_sem], by simp [go_sem], by simp [go_sem], by simp [go_sem]⟩

/-- What the document's reader's cells hold, under names that the walk does not open. -/
def rs (u : World) (q : Nat) : ByteArray := match u.cell? ⟨q, 0, none⟩ with | some (.string s) => s | _ => { data := #[] }
def re (u : World) (q : Nat) : Int := match u.cell? ⟨q, 1, none⟩ with | some (.int _ n) => n | _ => 0
theorem rs_is {u : World} {q : Nat} {st : St} (h : RefAt u q st) : rs u q = st.s := by unfold rs; rw [h.1]
theorem re_is {u : World} {q : Nat} {st : St} (h : RefAt u q st) : re u q = (st.e : Int) := by unfold re; rw [h.2.1]
/-- The cells of one ask. -/
def One (b o : Nat) (d l m : Value) (w : World) : Prop := b < w.heap.size ∧ w.cell? ⟨b, o, none⟩ = some d ∧ w.cell? ⟨b, o + 1, none⟩ = some l ∧ w.cell? ⟨b, o + 2, none⟩ = some m
/-- What is kept in a round, whatever was called. -/
def Rd (b o q : Nat) (d l m : Value) (w u : World) : Prop := One b o d l m w ∧ Below w.heap.size w u ∧ ∃ st, RefAt u q st
theorem rdS {b o q : Nat} {d l m : Value} {w u : World} (h : Rd b o q d l m w u) : u.cell? ⟨b, o, none⟩ = some d ∧ u.cell? ⟨b, o + 1, none⟩ = some l ∧ u.cell? ⟨b, o + 2, none⟩ = some m ∧
    u.cell? ⟨q, 0, none⟩ = some (.string (rs u q)) ∧ u.cell? ⟨q, 1, none⟩ = some (.int .i64 (re u q)) ∧ Rd b o q d l m w u := by
  obtain ⟨⟨hb, h0, h1, h2⟩, hbel, st, hr⟩ := id h
  exact ⟨(hbel.cell (p := ⟨b, o, none⟩) hb).trans h0, (hbel.cell (p := ⟨b, o + 1, none⟩) hb).trans h1, (hbel.cell (p := ⟨b, o + 2, none⟩) hb).trans h2, by rw [rs_is hr]; exact hr.1, by rw [re_is hr]; exact hr.2.1, h⟩

/-- What holds under more holds under less. -/
theorem wpAnyH_weak {P : Program} {md : Region.Mode} {ops : Array Oper} {Q : Exit → Act → World → Prop} {S S' : World → Prop} (hs : ∀ w, S' w → S w) :
    ∀ {fuel : Nat} {listed : Array Bool} {a : Act} {w : World}, wpAnyH P md ops Q S' fuel listed a w → wpAnyH P md ops Q S fuel listed a w
  | 0, _, _, _, h => h
  | _ + 1, _, _, _, h => ⟨h.1, fun i hi => wpOp_mono (fun _ _ h' => ⟨hs _ h'.1, wpAnyH_weak hs h'.2⟩) (h.2 i hi)⟩
/-- An operation that yields the same in every world that meets S is taken first; its slot is written out. -/
theorem takeAt {P : Program} {md : Region.Mode} {ops : Array Oper} {Q : Exit → Act → World → Prop} {S : World → Prop} (i d : Nat) {oi : Oper} {v : Value} {fuel : Nat} {listed : Array Bool} {a : Act} {w : World} (hi : ops[i]? = some oi) (hd : oi.dst = some d)
    (hs : Region.noSelect ops = true) (hf : Region.free md ops listed i = true) (hr : (Region.ready md ops listed).contains i = true)
    (hQ : ∀ c a w, Q (.panic c) (a.put oi.dst v) w → Q (.panic c) a w) (hy : YieldsIf P ops S oi v a) (hS : S w)
    (h : wpAnyH P md ops Q S fuel (listed.setIfInBounds i true) { tmps := a.tmps.setIfInBounds d v, defers := a.defers } w) : wpAnyH P md ops Q S (fuel + 1) listed a w := by
  refine wpAnyH_take hi hs hf hr hQ hy hS ?_
  rw [hd]
  exact h
set_option maxRecDepth 10000 in
set_option maxHeartbeats 8000000 in
theorem WireReads_core {WAt : World → Nat → St → Prop} (C : Con WAt) (s : ByteArray) (a : Option Addr) (len cap : Nat) (D M : Nat → Nat) (L : Nat → Int) (w : World) (hs : s.size ≤ 4096) (hlen : len ≤ 100) (hl : Asks a len D M L w) :
    Calls Try.prog 4 #[.string s, .slice a len cap] w fun e w' => e = .returned (.bool true) ∧ Below w.heap.size w w' := by
  have HL := hide hl
  clear hl
  have hz1 : ¬ ((4096 : Int) < (s.size : Int)) := by omega
  have hz2 : ¬ ((100 : Int) < (len : Int)) := by omega
  have HNew := hide (fun u => C.new s u (by omega))
  have HSz : Hid (s.size ≤ 140737488351232) := hide (by omega)
  go_enter Try.func4, Try.ntmps4
  go_wp2_with fail
  refine (HNew.out _).mono ?_
  rintro e w1 ⟨p, rfl, hp, hw1, hb1⟩
  have HP := hide hp; have HW1 := hide hw1; have HB1 := hide hb1
  clear hp hw1 hb1
  go_wp2_with fail
  have hpair : Pair WAt p w1.heap.size w (w1.alloc (.cells #[.string s, .int .i64 0] 34)) :=
    ⟨⟨s, 0⟩, C.frame HW1.out (Below.heap_alloc w1 _ p (C.lt HW1.out)), ref_new w1 s, HSz.out, HB1.out.alloc HB1.out.size _⟩
  have HQ := hide (And.intro HB1.out.size (C.lt HW1.out))
  generalize w1.alloc (.cells #[.string s, .int .i64 0] 34) = W at *
  generalize w1.heap.size = q at *
  have HPair := hide hpair
  clear hpair HW1 HB1
  go_loopw [7] (fun i wr => ∃ k : Nat, k ≤ len ∧ i = .int .i64 (k : Int) ∧ Pair WAt p q w wr) (fun i _ => len - (intOf i).toNat)
  case atStart => exact ⟨0, Nat.zero_le _, rfl, HPair.out⟩
  case round =>
    obtain ⟨k, hk, rfl, hPr⟩ := hrel
    by_cases hlt : k < len
    · rcases HL.out with h0 | ⟨b, off, rfl, hb0, hc⟩
      · omega
      · obtain ⟨st, hw, hr, hst, hbel⟩ := hPr
        obtain ⟨⟨hD, hM, hL⟩, c0, c1, c2⟩ := hc k hlt
        have HOne : Hid (One b (off + k * 3) (.int .u8 (D k : Int)) (.int .i64 (L k)) (.int .u64 (M k : Int)) w) := hide ⟨hb0, c0, c1, c2⟩
        have HA := hide (fun u (h1 : WAt u p st) (h2 : RefAt u q st) => asked_any C p q (D k) (M k) (L k) st u h1 h2 (Nat.ne_of_lt HQ.out.2) hst hM hL hD)
        have HSt := hide (And.intro hw (And.intro hr hbel))
        have HKk := hide hk
        clear hw hr hbel c0 c1 c2 hst hD hM hL hc
        go_wp2_with fail
        have HWd := hide (C.frame (u' := wr.drew) HSt.out.1 rfl)
        have X1 : Rd b (off + k * 3) q (.int .u8 (D k : Int)) (.int .i64 (L k)) (.int .u64 (M k : Int)) w wr.drew := ⟨HOne.out, HSt.out.2.2.drew, st, HSt.out.2.1⟩
        have HX1 := hide X1
        clear X1
        refine wp_region_held_drew (S := (fun u => u.cell? ⟨b, off + k * 3, none⟩ = some (.int .u8 (D k : Int)) ∧ u.cell? ⟨b, off + k * 3 + 1, none⟩ = some (.int .i64 (L k)) ∧ u.cell? ⟨b, off + k * 3 + 2, none⟩ = some (.int .u64 (M k : Int)) ∧ Rd b (off + k * 3) q (.int .u8 (D k : Int)) (.int .i64 (L k)) (.int .u64 (M k : Int)) w u)) (by kernel_rfl) (by have h := rdS HX1.out; exact ⟨h.1, h.2.1, h.2.2.1, HX1.out⟩) (fun hHeld => ?_)
        refine takeAt 0 28 (v := ?v0) rfl rfl (by kernel_rfl) (by kernel_rfl) (by kernel_rfl) (fun _ _ _ h => h) (Or.inl ⟨by rfl, ?hy0⟩) (by assumption) ?rest0
        case hy0 => (intro w hSw; (try dsimp only at hSw); go_simp; first | done | with_reducible rfl)
        simp only [List.setIfInBounds_toArray, List.set_cons_succ, List.set_cons_zero]
        refine takeAt 1 29 (v := ?v1) rfl rfl (by kernel_rfl) (by kernel_rfl) (by kernel_rfl) (fun _ _ _ h => h) (Or.inl ⟨by rfl, ?hy1⟩) (by assumption) ?rest1
        case hy1 => (intro w hSw; (try dsimp only at hSw); go_simp; first | done | with_reducible rfl)
        simp only [List.setIfInBounds_toArray, List.set_cons_succ, List.set_cons_zero]
        refine takeAt 2 30 (v := ?v2) rfl rfl (by kernel_rfl) (by kernel_rfl) (by kernel_rfl) (fun _ _ _ h => h) (Or.inl ⟨by rfl, ?hy2⟩) (by assumption) ?rest2
        case hy2 => (intro w hSw; (try dsimp only at hSw); go_simp; first | done | with_reducible rfl)
        simp only [List.setIfInBounds_toArray, List.set_cons_succ, List.set_cons_zero]
        refine takeAt 3 31 (v := ?v3) rfl rfl (by kernel_rfl) (by kernel_rfl) (by kernel_rfl) (fun _ _ _ h => h) (Or.inl ⟨by rfl, ?hy3⟩) (by assumption) ?rest3
        case hy3 => (intro w hSw; (try dsimp only at hSw); go_simp; first | done | with_reducible rfl)
        simp only [List.setIfInBounds_toArray, List.set_cons_succ, List.set_cons_zero]
        refine takeAt 4 32 (v := ?v4) rfl rfl (by kernel_rfl) (by kernel_rfl) (by kernel_rfl) (fun _ _ _ h => h) (Or.inl ⟨by rfl, ?hy4⟩) (by assumption) ?rest4
        case hy4 => (intro w hSw; (try dsimp only at hSw); go_simp; first | done | with_reducible rfl)
        simp only [List.setIfInBounds_toArray, List.set_cons_succ, List.set_cons_zero]
        refine takeAt 5 33 (v := ?v5) rfl rfl (by kernel_rfl) (by kernel_rfl) (by kernel_rfl) (fun _ _ _ h => h) (Or.inl ⟨by rfl, ?hy5⟩) (by assumption) ?rest5
        case hy5 => (intro w hSw; (try dsimp only at hSw); go_simp; first | done | with_reducible rfl)
        simp only [List.setIfInBounds_toArray, List.set_cons_succ, List.set_cons_zero]
        refine wpAnyH_ready (rs := [6]) (by kernel_rfl) (by simp) ?_
        refine AllReadyH.cons (o := { dst := some 34, op := .call { callee := .value (.func 17), args := #[.tmp 28, .tmp 29, .tmp 33], argTypes := #[30, 32, 37] }, type := 4, pos := "law.go:66", after := #[{ on := 0, ground := .data }, { on := 1, ground := .data }, { on := 5, ground := .data }], guard := none }) rfl (fun K hK => ?_) AllReadyH.nil
        go_simp
        refine (HA.out _ HWd.out HSt.out.2.1).mono ?_
        rintro e w2 ⟨rfl, st2, hw2, hr2, hs2, hb2⟩
        have HS2 := hide (And.intro hw2 (And.intro hr2 (And.intro hs2 (below_but2 HSt.out.2.2.drew hb2 HP.out HQ.out.1))))
        have HX2 : Hid (Rd b (off + k * 3) q (.int .u8 (D k : Int)) (.int .i64 (L k)) (.int .u64 (M k : Int)) w w2) := hide ⟨HOne.out, HS2.out.2.2.2, st2, HS2.out.2.1⟩
        clear hw2 hs2 hb2 hr2
        go_wp2_with fail
        refine hK.out _ _ (by have h := rdS HX2.out; exact ⟨h.1, h.2.1, h.2.2.1, HX2.out⟩) (fun hHeld2 => ?_)
        clear hK K
        (try go_frame)
        clear hHeld hHeld2
        refine wpAnyH_weak (S' := fun u => u.cell? ⟨q, 0, none⟩ = some (.string st2.s) ∧ u.cell? ⟨q, 1, none⟩ = some (.int .i64 (st2.e : Int)) ∧ Rd b (off + k * 3) q (.int .u8 (D k : Int)) (.int .i64 (L k)) (.int .u64 (M k : Int)) w u) (fun u h => by have g := rdS h.2.2; exact ⟨g.1, g.2.1, g.2.2.1, h.2.2⟩) ?_
        have hHeld : w2.cell? ⟨q, 0, none⟩ = some (.string st2.s) ∧ w2.cell? ⟨q, 1, none⟩ = some (.int .i64 (st2.e : Int)) ∧ Rd b (off + k * 3) q (.int .u8 (D k : Int)) (.int .i64 (L k)) (.int .u64 (M k : Int)) w w2 := ⟨HS2.out.2.1.1, HS2.out.2.1.2.1, HX2.out⟩
        refine takeAt 7 35 (v := ?v7) rfl rfl (by kernel_rfl) (by kernel_rfl) (by kernel_rfl) (fun _ _ _ h => h) (Or.inl ⟨by rfl, ?hy7⟩) (by assumption) ?rest7
        case hy7 => (intro w hSw; (try dsimp only at hSw); go_simp; first | done | with_reducible rfl)
        simp only [List.setIfInBounds_toArray, List.set_cons_succ, List.set_cons_zero]
        refine takeAt 8 36 (v := ?v8) rfl rfl (by kernel_rfl) (by kernel_rfl) (by kernel_rfl) (fun _ _ _ h => h) (Or.inl ⟨by rfl, ?hy8⟩) (by assumption) ?rest8
        case hy8 => (intro w hSw; (try dsimp only at hSw); go_simp; first | done | with_reducible rfl)
        simp only [List.setIfInBounds_toArray, List.set_cons_succ, List.set_cons_zero]
        refine takeAt 9 37 (v := ?v9) rfl rfl (by kernel_rfl) (by kernel_rfl) (by kernel_rfl) (fun _ _ _ h => h) (Or.inl ⟨by rfl, ?hy9⟩) (by assumption) ?rest9
        case hy9 => (intro w hSw; (try dsimp only at hSw); go_simp; first | done | with_reducible rfl)
        simp only [List.setIfInBounds_toArray, List.set_cons_succ, List.set_cons_zero]
        refine takeAt 11 39 (v := ?v11) rfl rfl (by kernel_rfl) (by kernel_rfl) (by kernel_rfl) (fun _ _ _ h => h) (Or.inl ⟨by rfl, ?hy11⟩) (by assumption) ?rest11
        case hy11 => (intro w hSw; (try dsimp only at hSw); go_simp; first | done | with_reducible rfl)
        simp only [List.setIfInBounds_toArray, List.set_cons_succ, List.set_cons_zero]
        refine takeAt 12 40 (v := ?v12) rfl rfl (by kernel_rfl) (by kernel_rfl) (by kernel_rfl) (fun _ _ _ h => h) (Or.inl ⟨by rfl, ?hy12⟩) (by assumption) ?rest12
        case hy12 => (intro w hSw; (try dsimp only at hSw); go_simp; first | done | with_reducible rfl)
        simp only [List.setIfInBounds_toArray, List.set_cons_succ, List.set_cons_zero]
        refine takeAt 13 41 (v := ?v13) rfl rfl (by kernel_rfl) (by kernel_rfl) (by kernel_rfl) (fun _ _ _ h => h) (Or.inl ⟨by rfl, ?hy13⟩) (by assumption) ?rest13
        case hy13 => (intro w hSw; (try dsimp only at hSw); go_simp; first | done | with_reducible rfl)
        simp only [List.setIfInBounds_toArray, List.set_cons_succ, List.set_cons_zero]
        refine takeAt 14 42 (v := ?v14) rfl rfl (by kernel_rfl) (by kernel_rfl) (by kernel_rfl) (fun _ _ _ h => h) (Or.inl ⟨by rfl, ?hy14⟩) (by assumption) ?rest14
        case hy14 => (intro w hSw; (try dsimp only at hSw); go_simp; first | done | with_reducible rfl)
        simp only [List.setIfInBounds_toArray, List.set_cons_succ, List.set_cons_zero]
        refine takeAt 15 43 (v := ?v15) rfl rfl (by kernel_rfl) (by kernel_rfl) (by kernel_rfl) (fun _ _ _ h => h) (Or.inl ⟨by rfl, ?hy15⟩) (by assumption) ?rest15
        case hy15 => (intro w hSw; (try dsimp only at hSw); go_simp; first | done | with_reducible rfl)
        simp only [List.setIfInBounds_toArray, List.set_cons_succ, List.set_cons_zero]
        refine wpAnyH_ready (rs := [10]) (by kernel_rfl) (by simp) ?_
        refine AllReadyH.cons (o := { dst := some 38, op := .call { callee := .value (.func 18), args := #[.tmp 37], argTypes := #[30] }, type := 3, pos := "law.go:66", after := #[{ on := 9, ground := .data }, { on := 8, ground := .chain }, { on := 8, ground := .guard }], guard := some (8, false) }) rfl (fun K hK => ?_) AllReadyH.nil
        go_simp
        refine (C.left p st2 _ HS2.out.1 HS2.out.2.2.1).mono ?_
        rintro e w3 ⟨rfl, hb3⟩
        have HS3 := hide (And.intro (C.frame HS2.out.1 (hb3.block p (C.lt HS2.out.1))) (And.intro (HS2.out.2.1.frame (hb3.block q HS2.out.2.1.lt)) (And.intro HS2.out.2.2.1 (bnext HS2.out.2.2.2 hb3))))
        have HX3 : Hid (Rd b (off + k * 3) q (.int .u8 (D k : Int)) (.int .i64 (L k)) (.int .u64 (M k : Int)) w w3) := hide ⟨HOne.out, HS3.out.2.2.2, st2, HS3.out.2.1⟩
        clear hb3
        go_wp2_with fail
        refine hK.out _ _ (⟨HS3.out.2.1.1, HS3.out.2.1.2.1, HX3.out⟩) (fun hHeld3 => ?_)
        clear hK K
        (try go_frame)
        clear hHeld
        refine takeAt 16 44 (v := ?v16) rfl rfl (by kernel_rfl) (by kernel_rfl) (by kernel_rfl) (fun _ _ _ h => h) (Or.inl ⟨by rfl, ?hy16⟩) (by assumption) ?rest16
        case hy16 => (intro w hSw; (try dsimp only at hSw); go_simp; first | done | with_reducible rfl)
        simp only [List.setIfInBounds_toArray, List.set_cons_succ, List.set_cons_zero]
        refine takeAt 17 45 (v := ?v17) rfl rfl (by kernel_rfl) (by kernel_rfl) (by kernel_rfl) (fun _ _ _ h => h) (Or.inl ⟨by rfl, ?hy17⟩) (by assumption) ?rest17
        case hy17 => (intro w hSw; (try dsimp only at hSw); go_simp; first | done | with_reducible rfl)
        simp only [List.setIfInBounds_toArray, List.set_cons_succ, List.set_cons_zero]
        refine takeAt 18 46 (v := ?v18) rfl rfl (by kernel_rfl) (by kernel_rfl) (by kernel_rfl) (fun _ _ _ h => h) (Or.inl ⟨by rfl, ?hy18⟩) (by assumption) ?rest18
        case hy18 => (intro w hSw; (try dsimp only at hSw); go_simp; first | done | with_reducible rfl)
        simp only [List.setIfInBounds_toArray, List.set_cons_succ, List.set_cons_zero]
        refine takeAt 19 47 (v := ?v19) rfl rfl (by kernel_rfl) (by kernel_rfl) (by kernel_rfl) (fun _ _ _ h => h) (Or.inl ⟨by rfl, ?hy19⟩) (by assumption) ?rest19
        case hy19 => (intro w hSw; (try dsimp only at hSw); go_simp; first | done | with_reducible rfl)
        simp only [List.setIfInBounds_toArray, List.set_cons_succ, List.set_cons_zero]
        refine takeAt 21 49 (v := ?v21) rfl rfl (by kernel_rfl) (by kernel_rfl) (by kernel_rfl) (fun _ _ _ h => h) (Or.inl ⟨by rfl, ?hy21⟩) (by assumption) ?rest21
        case hy21 => (intro w hSw; (try dsimp only at hSw); go_simp; first | done | with_reducible rfl)
        simp only [List.setIfInBounds_toArray, List.set_cons_succ, List.set_cons_zero]
        refine takeAt 22 50 (v := ?v22) rfl rfl (by kernel_rfl) (by kernel_rfl) (by kernel_rfl) (fun _ _ _ h => h) (Or.inl ⟨by rfl, ?hy22⟩) (by assumption) ?rest22
        case hy22 => (intro w hSw; (try dsimp only at hSw); go_simp; first | done | with_reducible rfl)
        simp only [List.setIfInBounds_toArray, List.set_cons_succ, List.set_cons_zero]
        refine takeAt 23 51 (v := ?v23) rfl rfl (by kernel_rfl) (by kernel_rfl) (by kernel_rfl) (fun _ _ _ h => h) (Or.inl ⟨by rfl, ?hy23⟩) (by assumption) ?rest23
        case hy23 => (intro w hSw; (try dsimp only at hSw); go_simp; first | done | with_reducible rfl)
        simp only [List.setIfInBounds_toArray, List.set_cons_succ, List.set_cons_zero]
        refine takeAt 24 52 (v := ?v24) rfl rfl (by kernel_rfl) (by kernel_rfl) (by kernel_rfl) (fun _ _ _ h => h) (Or.inl ⟨by rfl, ?hy24⟩) (by assumption) ?rest24
        case hy24 => (intro w hSw; (try dsimp only at hSw); go_simp; first | done | with_reducible rfl)
        simp only [List.setIfInBounds_toArray, List.set_cons_succ, List.set_cons_zero]
        refine wpAnyH_ready (rs := [20]) (by kernel_rfl) (by simp) ?_
        refine AllReadyH.cons (o := { dst := some 48, op := .call { callee := .value (.func 19), args := #[.tmp 47], argTypes := #[30] }, type := 39, pos := "law.go:66", after := #[{ on := 19, ground := .data }, { on := 18, ground := .chain }, { on := 18, ground := .guard }], guard := some (18, false) }) rfl (fun K hK => ?_) AllReadyH.nil
        go_simp
        refine (C.err p st2 _ HS3.out.1).mono ?_
        rintro e w4 ⟨rfl, hb4⟩
        have HS4 := hide (And.intro (C.frame HS3.out.1 (hb4.block p (C.lt HS3.out.1))) (And.intro (HS3.out.2.1.frame (hb4.block q HS3.out.2.1.lt)) (And.intro HS3.out.2.2.1 (bnext HS3.out.2.2.2 hb4))))
        have HX4 : Hid (Rd b (off + k * 3) q (.int .u8 (D k : Int)) (.int .i64 (L k)) (.int .u64 (M k : Int)) w w4) := hide ⟨HOne.out, HS4.out.2.2.2, st2, HS4.out.2.1⟩
        clear hb4
        go_wp2_with fail
        refine hK.out _ _ (⟨HS4.out.2.1.1, HS4.out.2.1.2.1, HX4.out⟩) (fun hHeld4 => ?_)
        clear hK K
        (try go_frame)
        clear hHeld3
        refine takeAt 25 53 (v := ?v25) rfl rfl (by kernel_rfl) (by kernel_rfl) (by kernel_rfl) (fun _ _ _ h => h) (Or.inl ⟨by rfl, ?hy25⟩) (by assumption) ?rest25
        case hy25 => (intro w hSw; (try dsimp only at hSw); go_simp; first | done | with_reducible rfl)
        simp only [List.setIfInBounds_toArray, List.set_cons_succ, List.set_cons_zero]
        refine takeAt 26 54 (v := ?v26) rfl rfl (by kernel_rfl) (by kernel_rfl) (by kernel_rfl) (fun _ _ _ h => h) (Or.inl ⟨by rfl, ?hy26⟩) (by assumption) ?rest26
        case hy26 => (intro w hSw; (try dsimp only at hSw); go_simp; first | done | with_reducible rfl)
        simp only [List.setIfInBounds_toArray, List.set_cons_succ, List.set_cons_zero]
        refine wpAnyH_done (by kernel_rfl) ?_ _
        clear hHeld4
        go_wp2
        go_roundw
        case rel => exact ⟨k + 1, hlt, by go_num, st2, HS4.out.1, HS4.out.2.1, HS4.out.2.2.1, HS4.out.2.2.2⟩
        case measure => simp [intOf]; omega
    · have hke : k = len := by omega
      subst hke
      obtain ⟨st, hw, hr, hst, hbel⟩ := hPr
      have HBel := hide hbel
      clear hw hr hst hbel
      go_wp2_with fail
      refine (alive_any C _).mono ?_
      rintro e w5 ⟨rfl, hb⟩
      have HB5 := hide (bnext HBel.out hb)
      clear hb
      go_wp2
      go_ret
      exact ⟨rfl, HB5.out⟩
end Go.Proofs.Ytodndkmpjpiidaa
namespace Go.Proofs.Ytodndkmpjpiidaa
open Go Go.RowKit

set_option maxRecDepth 10000 in
set_option maxHeartbeats 2000000 in
theorem WireReads_any {WAt : World → Nat → St → Prop} (C : Con WAt) (s : ByteArray) (a : Option Addr) (len cap : Nat) (D M : Nat → Nat) (L : Nat → Int) (w : World) (hs : s.size ≤ 140737488351232) (hlen : len ≤ 9223372036854775807) (hl : Asks a len D M L w) :
    Calls Try.prog 4 #[.string s, .slice a len cap] w fun e w' => e = .returned (.bool true) ∧ Below w.heap.size w w' := by
  by_cases h1 : 4096 < s.size
  · have hz : (4096 : Int) < (s.size : Int) := by omega
    clear hl
    go_enter Try.func4, Try.ntmps4
    go_wp2_with fail
    refine (alive_any C _).mono ?_
    rintro e w1 ⟨rfl, hb⟩
    have HB := hide hb
    clear hb
    go_wp2
    go_ret
    exact ⟨rfl, HB.out⟩
  · by_cases h2 : 100 < len
    · have hz : ¬ ((4096 : Int) < (s.size : Int)) := by omega
      have hz2 : (100 : Int) < (len : Int) := by omega
      clear hl
      go_enter Try.func4, Try.ntmps4
      go_wp2_with fail
      refine (alive_any C _).mono ?_
      rintro e w1 ⟨rfl, hb⟩
      have HB := hide hb
      clear hb
      go_wp2
      go_ret
      exact ⟨rfl, HB.out⟩
    · exact WireReads_core C s a len cap D M L w (by omega) (by omega) hl
end Go.Proofs.Ytodndkmpjpiidaa
