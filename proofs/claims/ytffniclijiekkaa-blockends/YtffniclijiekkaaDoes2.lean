/- does: Crash. -/
import Derived.Test.YtffniclijiekkaaDoes
import Derived.Laws.AppendOwnNone
namespace Go.Proofs.Ytffniclijiekkaa
open Go Go.RowKit
theorem ints_of_own {w : World} {base : Nat} {v : Value} {l : List Int} (h : w.ownsRow base 3 1 v l.length (l.map (Value.int .i64))) : ∃ a c, v = .slice a l.length c ∧ IntsAt w a l ∧ (∀ b off, a = some ⟨b, off, none⟩ → base ≤ b) := by
  have h0 := h
  rcases h.2 with ⟨rfl, hz⟩ | ⟨g, cap, cur, rfl, h1, hg, hr⟩
  · have hl : l = [] := List.length_eq_zero_iff.1 hz
    subst hl
    exact ⟨none, 0, rfl, Or.inl rfl, fun b off e => by cases e⟩
  · refine ⟨_, cap, rfl, Or.inr ⟨g, 0, rfl, fun j hj => ?_⟩, fun b off e => by cases e; exact h1⟩
    rw [Nat.zero_add, World.ownsRow.cellAt h0 j (by omega)]
    simp [hj]
theorem news_ints {w : World} {b off : Nat} {l : List Int} (h : ∀ j (hj : j < l.length), w.cell? ⟨b, off + j, none⟩ = some (.int .i64 l[j])) : ∀ (j : Nat) (u : Value), (l.map (Value.int .i64))[j]? = some u → w.cell? ((⟨b, off, none⟩ : Addr).add j) = some u := fun j u hj => by
  have hj' : j < l.length := by
    have := (List.getElem?_eq_some_iff.1 hj).1
    simpa using this
  have hadd : (⟨b, off, none⟩ : Addr).add j = ⟨b, off + j, none⟩ := by unfold Addr.add; split <;> simp_all
  rw [hadd, h j hj']
  simpa [hj'] using hj
theorem one_ints (l : List Int) : ∀ u ∈ l.map (Value.int .i64), u.oneCell' = true := fun u hu => by
  obtain ⟨x, _, rfl⟩ := List.mem_map.1 hu
  rfl
theorem info3 : (Try.prog.info? 3).map (fun i => (i.zero, i.size, i.bytes)) = some (some (.int .i64 0), 1, 8) := by kernel_rfl
set_option maxRecDepth 10000 in
set_option maxHeartbeats 2000000 in
theorem does2 {DAt : World → Nat → St → (Nat → Prop) → Prop} (C : Con DAt) (B : Nat) (w u : World) (p q : Nat) (F : Nat → Prop) (vS vL : Value) (st : St) (x : Stp) (h : Both DAt B w u p q F vS vL st) (hok : st.Ok) (hl : st.loose.length ≤ 10000) (hx : x.Ok) (ha : x.act % 5 = 2) (hP : IntsAt u x.pa x.picks) (hPB : x.picks ≠ [] → ∀ b off, x.pa = some ⟨b, off, none⟩ → b < B) (hpl : x.picks.length ≤ 400) :
    Calls Try.prog 11 #[.pointer (some ⟨p, 0, none⟩), .pointer (some ⟨q, 0, none⟩), x.val] u (DoesSays DAt B w p q vS (st.step x)) := by
  rw [step2 ha]
  have HC := hide C
  have HOk := hide hok
  have HX := hide hx
  have hm := mod5 x.act 2 ha
  have hact := hx.act
  have hb0 := (Below.refl u.heap.size u).alloc (Nat.le_refl _) (.cells #[.int .u8 (x.act : Int), .int .i64 x.b, .int .u8 (x.byte : Int), .int .u8 (x.odd : Int), .slice x.pa x.picks.length x.pc] 35)
  have H := hide (h.old C hb0)
  have HBox : Hid (Box5 u.heap.size (.int .u8 (x.act : Int)) (.int .i64 x.b) (.int .u8 (x.byte : Int)) (.int .u8 (x.odd : Int)) (.slice x.pa x.picks.length x.pc) (u.alloc (.cells #[.int .u8 (x.act : Int), .int .i64 x.b, .int .u8 (x.byte : Int), .int .u8 (x.odd : Int), .slice x.pa x.picks.length x.pc] 35))) := heap_alloc_last u _
  obtain ⟨i0, hi, hz0, hz1, hz2⟩ := info_parts info3
  have HI := hide (And.intro hi (And.intro hz0 (And.intro hz1 hz2)))
  have HP := hide (hP.old hb0)
  have HPB := hide hPB
  have HNF : Hid (¬ F u.heap.size) := fun hf => Nat.lt_irrefl _ (C.lt h.d _ hf)
  have HF0 : Hid (∀ k, F k → k < u.heap.size) := fun k hf => C.lt h.d k hf
  have HUZ : Hid ((u.alloc (.cells #[.int .u8 (x.act : Int), .int .i64 x.b, .int .u8 (x.byte : Int), .int .u8 (x.odd : Int), .slice x.pa x.picks.length x.pc] 35)).heap.size = u.heap.size + 1) := by unfold Hid; simp
  clear C hok h hx ha hb0 hP hPB hi hz0 hz1 hz2
  by_cases hne : x.picks = []
  · obtain ⟨act, b, byte, odd, pa, picks, pc⟩ := x
    dsimp only [Stp.val] at *
    subst hne
    dsimp only [List.length_nil] at *
    cases pa with
    | none =>
      have hpc : pc = 0 := HX.out.nil rfl
      subst hpc
      go_enter Try.func11, Try.ntmps11
      go_wp2_with (at_builtin; refine wpList_append_own_none rfl _ _ 33 rfl (u.heap.size + 1) 3 i0 1 Try.underlying33 HI.out.1 (.slice (some ⟨u.heap.size + 1, 0, none⟩) 0 0) 0 [] rfl ?c0 rfl ?_)
      case c0 =>
        have h1 := World.ownsRow_lit (base := u.heap.size + 1) (e := 3) (size := 1) (u.alloc (.cells #[.int .u8 (act : Int), .int .i64 b, .int .u8 (byte : Int), .int .u8 (odd : Int), .slice none 0 0] 35)) #[] 0 (by simp) (by decide) rfl
        rw [World.size_alloc] at h1
        exact h1
      · have hb1 : Below (u.alloc (.cells #[.int .u8 (act : Int), .int .i64 b, .int .u8 (byte : Int), .int .u8 (odd : Int), .slice none 0 0] 35)).heap.size (u.alloc (.cells #[.int .u8 (act : Int), .int .i64 b, .int .u8 (byte : Int), .int .u8 (odd : Int), .slice none 0 0] 35)) ((u.alloc (.cells #[.int .u8 (act : Int), .int .i64 b, .int .u8 (byte : Int), .int .u8 (odd : Int), .slice none 0 0] 35)).alloc (.cells #[] 3)) := (Below.refl _ _).alloc (Nat.le_refl _) _
        generalize (u.alloc (.cells #[.int .u8 (act : Int), .int .i64 b, .int .u8 (byte : Int), .int .u8 (odd : Int), .slice none 0 0] 35)).alloc (.cells #[] 3) = w1 at *
        have HP1 : Hid (IntsAt w1 (some ⟨u.heap.size + 1, 0, none⟩) []) := Or.inl rfl
        have H1 := hide (H.out.old HC.out hb1)
        have HBox1 := hide (HBox.out.below hb1)
        clear hb1
        go_wp2_with fail
        refine (HC.out.crash p st F (some ⟨u.heap.size + 1, 0, none⟩) 0 [] w1 H1.out.d HOk.out hl HP1.out (fun hn => absurd rfl hn) (by decide) (by simp)).mono ?_
        rintro e w2 ⟨rfl, F1, h2, l2⟩
        have H2 := hide (H1.out.first h2 l2)
        have hc4 : w2.cell? ⟨u.heap.size, 4, none⟩ = some (.slice none 0 0) := (World.cell?_of_block (w := w1) (l2.block u.heap.size HBox1.out.lt (fun hf => HNF.out hf))).trans HBox1.out.cell.2.2.2.2
        clear h2 l2
        go_wp2_with fail
        refine (rCrash q vS vL st none 0 [] w2 H2.out.r HOk.out (by omega) (Or.inl rfl) (fun hn => absurd rfl hn) (by decide)).mono ?_
        rintro e w3 ⟨⟨v3, rfl⟩, vL', h3, l3⟩
        have H3 := hide (H2.out.then HC.out h3 l3)
        clear h3 l3
        go_wp2
        go_ret
        exact DoesSays.mk H3.out
    | some ad =>
      go_enter Try.func11, Try.ntmps11
      go_wp2_with (at_builtin; refine wpList_append_own _ rfl _ _ 33 rfl (u.heap.size + 1) 3 i0 (.int .i64 0) 1 8 Try.underlying33 HI.out.1 HI.out.2.1 HI.out.2.2.1 HI.out.2.2.2 rfl (by decide) (.slice (some ⟨u.heap.size + 1, 0, none⟩) 0 0) 0 [] rfl ?c0 ad 0 pc [] rfl rfl (fun j v hj => by cases hj) (fun v hv => by cases hv) ?c3 ?c4 ?c5 ?_)
      case c0 =>
        have h1 := World.ownsRow_lit (base := u.heap.size + 1) (e := 3) (size := 1) (u.alloc (.cells #[.int .u8 (act : Int), .int .i64 b, .int .u8 (byte : Int), .int .u8 (odd : Int), .slice (some ad) 0 pc] 35)) #[] 0 (by simp) (by decide) rfl
        rw [World.size_alloc] at h1
        exact h1
      case c3 => decide
      case c4 => decide
      case c5 => simp
      · intro v1 w1 hown1 hgrow1 _
        obtain ⟨a1, c1, rfl, hi1, hg1⟩ := ints_of_own (l := []) hown1
        have hb1 : Below (u.alloc (.cells #[.int .u8 (act : Int), .int .i64 b, .int .u8 (byte : Int), .int .u8 (odd : Int), .slice (some ad) 0 pc] 35)).heap.size (u.alloc (.cells #[.int .u8 (act : Int), .int .i64 b, .int .u8 (byte : Int), .int .u8 (odd : Int), .slice (some ad) 0 pc] 35)) w1 := ((Below.refl _ _).alloc (Nat.le_refl _) (.cells #[] 3)).grown hgrow1 (by simp) (fun k e => by cases e; simp)
        clear hown1 hgrow1 hi1 hg1
        have HP1 : Hid (IntsAt w1 a1 []) := Or.inl rfl
        have H1 := hide (H.out.old HC.out hb1)
        have HBox1 := hide (HBox.out.below hb1)
        clear hb1
        go_wp2_with fail
        refine (HC.out.crash p st F a1 c1 [] w1 H1.out.d HOk.out hl HP1.out (fun hn => absurd rfl hn) (by decide) (by simp)).mono ?_
        rintro e w2 ⟨rfl, F1, h2, l2⟩
        have H2 := hide (H1.out.first h2 l2)
        have hc4 : w2.cell? ⟨u.heap.size, 4, none⟩ = some (.slice (some ad) 0 pc) := (World.cell?_of_block (w := w1) (l2.block u.heap.size HBox1.out.lt (fun hf => HNF.out hf))).trans HBox1.out.cell.2.2.2.2
        clear h2 l2
        go_wp2_with fail
        refine (rCrash q vS vL st (some ad) pc [] w2 H2.out.r HOk.out (by omega) (Or.inl rfl) (fun hn => absurd rfl hn) (by decide)).mono ?_
        rintro e w3 ⟨⟨v3, rfl⟩, vL', h3, l3⟩
        have H3 := hide (H2.out.then HC.out h3 l3)
        clear h3 l3
        go_wp2
        go_ret
        exact DoesSays.mk H3.out
  · obtain ⟨bP, oP, hpa, hcP⟩ : ∃ b off, x.pa = some ⟨b, off, none⟩ ∧ ∀ j (hj : j < x.picks.length), (u.alloc (.cells #[.int .u8 (x.act : Int), .int .i64 x.b, .int .u8 (x.byte : Int), .int .u8 (x.odd : Int), .slice x.pa x.picks.length x.pc] 35)).cell? ⟨b, off + j, none⟩ = some (.int .i64 x.picks[j]) := by
      rcases HP.out with h1 | h1
      · exact absurd h1 hne
      · exact h1
    obtain ⟨act, b, byte, odd, pa, picks, pc⟩ := x
    dsimp only [Stp.val] at *
    subst hpa
    have hmany := HX.out.many
    dsimp only at hmany
    have HCP := hide hcP
    clear hcP
    go_enter Try.func11, Try.ntmps11
    go_wp2_with (at_builtin; refine wpList_append_own _ rfl _ _ 33 rfl (u.heap.size + 1) 3 i0 (.int .i64 0) 1 8 Try.underlying33 HI.out.1 HI.out.2.1 HI.out.2.2.1 HI.out.2.2.2 rfl (by decide) (.slice (some ⟨u.heap.size + 1, 0, none⟩) 0 0) 0 [] rfl ?c0 ⟨bP, oP, none⟩ picks.length pc (picks.map (Value.int .i64)) rfl (by simp) ?c1 (one_ints _) ?c3 ?c4 ?c5 ?_)
    case c0 =>
      have h1 := World.ownsRow_lit (base := u.heap.size + 1) (e := 3) (size := 1) (u.alloc (.cells #[.int .u8 (act : Int), .int .i64 b, .int .u8 (byte : Int), .int .u8 (odd : Int), .slice (some ⟨bP, oP, none⟩) picks.length pc] 35)) #[] 0 (by simp) (by decide) rfl
      rw [World.size_alloc] at h1
      exact h1
    case c1 => exact news_ints (fun j hj => (Below.cell ((Below.refl _ (u.alloc (.cells #[.int .u8 (act : Int), .int .i64 b, .int .u8 (byte : Int), .int .u8 (odd : Int), .slice (some ⟨bP, oP, none⟩) picks.length pc] 35))).alloc (Nat.le_refl _) (.cells #[] 3)) (p := ⟨bP, oP + j, none⟩) (World.block_lt_of_cell? _ _ (HCP.out j hj))).trans (HCP.out j hj))
    case c3 => unfold maxLen; omega
    case c4 => omega
    case c5 => simp
    · intro v1 w1 hown1 hgrow1 _
      obtain ⟨a1, c1, rfl, hi1, hg1⟩ := ints_of_own hown1
      have hb1 : Below (u.alloc (.cells #[.int .u8 (act : Int), .int .i64 b, .int .u8 (byte : Int), .int .u8 (odd : Int), .slice (some ⟨bP, oP, none⟩) picks.length pc] 35)).heap.size (u.alloc (.cells #[.int .u8 (act : Int), .int .i64 b, .int .u8 (byte : Int), .int .u8 (odd : Int), .slice (some ⟨bP, oP, none⟩) picks.length pc] 35)) w1 := ((Below.refl _ _).alloc (Nat.le_refl _) (.cells #[] 3)).grown hgrow1 (by simp) (fun k e => by cases e; simp)
      have HP1 := hide hi1
      have HA1 := hide hg1
      have H1 := hide (H.out.old HC.out hb1)
      have HBox1 := hide (HBox.out.below hb1)
      have HPw := hide (HP.out.old hb1)
      clear hown1 hgrow1 hi1 hg1 hb1
      go_wp2_with fail
      refine (HC.out.crash p st F a1 c1 picks w1 H1.out.d HOk.out hl HP1.out (fun _ b off e hf => by have h1 := HA1.out b off e; have h2 := HF0.out b hf; omega) HX.out.many HX.out.picks).mono ?_
      rintro e w2 ⟨rfl, F1, h2, l2⟩
      have H2 := hide (H1.out.first h2 l2)
      have hc4 : w2.cell? ⟨u.heap.size, 4, none⟩ = some (.slice (some ⟨bP, oP, none⟩) picks.length pc) := (World.cell?_of_block (w := w1) (l2.block u.heap.size HBox1.out.lt (fun hf => HNF.out hf))).trans HBox1.out.cell.2.2.2.2
      have HP2 := hide (HPw.out.loc l2 (fun hne b off e hf => by have h1 := HPB.out hne b off e; have h2 := H1.out.fromD b hf; omega))
      clear h2 l2
      go_wp2_with fail
      refine (rCrash q vS vL st (some ⟨bP, oP, none⟩) pc picks w2 H2.out.r HOk.out (by omega) HP2.out (fun hne b off e hf => by have h1 := HPB.out hne b off e; have h2 := H2.out.fromR b hf; omega) HX.out.many).mono ?_
      rintro e w3 ⟨⟨v3, rfl⟩, vL', h3, l3⟩
      have H3 := hide (H2.out.then HC.out h3 l3)
      clear h3 l3
      go_wp2
      go_ret
      exact DoesSays.mk H3.out
end Go.Proofs.Ytffniclijiekkaa
