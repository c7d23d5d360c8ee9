/- The law NetFull, over the contracts. -/
import Derived.Test.YtdfioggeiagihaaAlive
import Derived.Test.YtdfioggeiagihaaOnce0
namespace Go.Proofs.Ytdfioggeiagihaa
open Go Go.RowKit

/-- So many letters that are alike. -/
def many (n : Nat) (a b : Int) (s : ByteArray) : Nt := ⟨(List.range n).map (fun j => ⟨j + 1, a, b, s, 0⟩), n, noP⟩
theorem many_zero (a b : Int) (s : ByteArray) : many 0 a b s = Nt.new := rfl
theorem many_len (n : Nat) (a b : Int) (s : ByteArray) : (many n a b s).l.length = n := by unfold many; simp
theorem many_next (n : Nat) (a b : Int) (s : ByteArray) : sendN (many n a b s) a b s = many (n + 1) a b s := by
  unfold sendN many
  rw [List.range_succ, List.map_append]
  rfl
theorem many_send (n : Nat) (a b : Int) (s : ByteArray) (ha : 0 ≤ a ∧ a < 256) (hb : 0 ≤ b ∧ b < 256) (hs : s.size ≤ 131072) (hn : n < 4096) : (many n a b s).send a b s = (n + 1, 0, many (n + 1) a b s) :=
  Nt.send_cases (q := fun r => r = (n + 1, 0, many (n + 1) a b s)) _ a b s (fun h => absurd ⟨ha, hb⟩ h) (fun _ _ h => by omega) (fun _ _ _ h => by rw [many_len] at h; omega) (fun _ _ _ _ => by rw [many_next]; rfl)
theorem many_full (a b : Int) (s : ByteArray) (ha : 0 ≤ a ∧ a < 256) (hb : 0 ≤ b ∧ b < 256) (hs : s.size ≤ 131072) : (many 4096 a b s).send a b s = (0, 6, many 4096 a b s) :=
  Nt.send_cases (q := fun r => r = (0, 6, many 4096 a b s)) _ a b s (fun h => absurd ⟨ha, hb⟩ h) (fun _ _ h => by omega) (fun _ _ _ _ => rfl) (fun _ _ _ h => by rw [many_len] at h; omega)
theorem many_ok (n : Nat) (a b : Int) (s : ByteArray) (ha : 0 ≤ a ∧ a < 256) (hb : 0 ≤ b ∧ b < 256) (hs : s.size ≤ 131072) : n ≤ 4096 → (many n a b s).Ok n := by
  induction n with
  | zero => exact fun _ => Nt.Ok.new
  | succ n ih =>
    intro hn
    have := (ih (by omega)).send a b s
    rw [many_send n a b s ha hb hs (by omega)] at this
    exact this
theorem many_find (n k : Nat) (a b : Int) (s : ByteArray) (hk : k < n) : (many n a b s).find (k + 1) ≠ none := fun h => by
  have := Nt.find_none h ⟨k + 1, a, b, s, 0⟩ (List.mem_map.2 ⟨k, List.mem_range.2 hk, rfl⟩)
  exact this rfl
theorem many_double (k : Nat) (a b : Int) (s : ByteArray) (hk : k < 4096) : (many 4096 a b s).double (k + 1) = (0, 6, many 4096 a b s) :=
  Nt.double_cases (q := fun r => r = (0, 6, many 4096 a b s)) _ _ (fun h => absurd h (many_find 4096 k a b s hk)) (fun _ _ _ => rfl) (fun _ _ h => by rw [many_len] at h; omega)
theorem many_drop (a b : Int) (s : ByteArray) : (many 4096 a b s).drop 1 = (0, dropN (many 4096 a b s) 1) :=
  Nt.drop_cases (q := fun r => r = (0, dropN (many 4096 a b s) 1)) _ _ (fun h => absurd h (many_find 4096 0 a b s (by decide))) (fun _ _ => rfl)
theorem many_less (a b : Int) (s : ByteArray) (ha : 0 ≤ a ∧ a < 256) (hb : 0 ≤ b ∧ b < 256) (hs : s.size ≤ 131072) : (dropN (many 4096 a b s) 1).l.length = 4095 := by
  cases h : (many 4096 a b s).find 1 with
  | none => exact absurd h (many_find 4096 0 a b s (by decide))
  | some x =>
    have := len_drop (many_ok 4096 a b s ha hb hs (Nat.le_refl _)) h
    rw [many_len] at this
    omega
theorem many_last (a b : Int) (s : ByteArray) (ha : 0 ≤ a ∧ a < 256) (hb : 0 ≤ b ∧ b < 256) (hs : s.size ≤ 131072) : ((dropN (many 4096 a b s) 1).double 2).2.1 = 0 ∧ ((dropN (many 4096 a b s) 1).double 2).2.2.l.length = 4096 := by
  have hl := many_less a b s ha hb hs
  refine Nt.double_cases (q := fun r => r.2.1 = 0 ∧ r.2.2.l.length = 4096) _ _ (fun h => ?_) (fun _ _ h => by omega) (fun x _ _ => ⟨rfl, ?_⟩)
  · rw [find_drop, if_neg (by decide)] at h
    exact absurd h (many_find 4096 1 a b s (by decide))
  · show ((dropN (many 4096 a b s) 1).l ++ [x.as ((dropN (many 4096 a b s) 1).n + 1)]).length = 4096
    rw [List.length_append, hl]
    rfl
theorem fine5 {m : Nat} (h : m ≤ 5000) : Fine m := by unfold Fine; omega
set_option maxRecDepth 10000 in
set_option maxHeartbeats 4000000 in
theorem NetFull_any {NAt : World → Nat → Nt → (Nat → Prop) → Prop} (C : Con NAt) (a b : Nat) (s : ByteArray) (m : Nat) (w : World) (ha : a < 256) (hb : b < 256) (hs : s.size ≤ 140737488351232) (hm : m < 256) : Calls Try.prog 5 #[.int .u8 (a : Int), .int .u8 (b : Int), .string s, .int .u8 (m : Int)] w fun e w' => e = .returned (.bool true) ∧ Below w.heap.size w w' := by
  have HC := hide C
  clear C
  by_cases h10 : 10 < s.size
  · have hz : (10 : Int) < (s.size : Int) := by omega
    go_enter Try.func5, Try.ntmps5
    go_wp2_with fail
    refine (alive_any HC.out w).mono ?_
    rintro e w1 ⟨rfl, hb⟩
    have HB := hide hb
    clear hb
    go_wp2
    go_ret
    exact ⟨rfl, HB.out⟩
  have hz : ¬ (10 : Int) < (s.size : Int) := by omega
  have wa : wrap64 (a : Int) = (a : Int) := by unfold wrap64; omega
  have wb : wrap64 (b : Int) = (b : Int) := by unfold wrap64; omega
  have wm : wrap64 (m : Int) = (m : Int) := by unfold wrap64; omega
  have hsz : s.size ≤ 131072 := by omega
  have HA : Hid ((0 ≤ (a : Int) ∧ (a : Int) < 256) ∧ (0 ≤ (b : Int) ∧ (b : Int) < 256)) := ⟨⟨by omega, by omega⟩, ⟨by omega, by omega⟩⟩
  have HI : Hid (I64 (a : Int) ∧ I64 (b : Int)) := ⟨⟨by omega, by omega⟩, ⟨by omega, by omega⟩⟩
  have HSend : Hid (∀ n, n < 4096 → (many n a b s).send a b s = (n + 1, 0, many (n + 1) a b s)) := fun n hn => many_send n a b s HA.out.1 HA.out.2 hsz hn
  have HFull : Hid ((many 4096 a b s).send a b s = (0, 6, many 4096 a b s)) := many_full a b s HA.out.1 HA.out.2 hsz
  have HOk : Hid (∀ n, n ≤ 4096 → (many n a b s).Ok n) := fun n hn => many_ok n a b s HA.out.1 HA.out.2 hsz hn
  have HDb : Hid (∀ k, k < 4096 → (many 4096 a b s).double (k + 1) = (0, 6, many 4096 a b s)) := fun k hk => many_double k a b s hk
  have HLast := hide (many_last a b s HA.out.1 HA.out.2 hsz)
  have HSz := hide hs
  clear hs hsz
  go_enter Try.func5, Try.ntmps5
  go_wp2_with fail
  refine (HC.out.new w).mono ?_
  rintro e w1 ⟨p, F, rfl, h1, hF, hb1⟩
  have H1 := hide (Has.mk (W := w) (B := w.heap.size) h1 (HOk.out 0 (by decide)) hF hb1)
  clear h1 hF hb1
  go_wp2_with fail
  go_loopw [10, 11, 12] (fun i _ _ u => ∃ (n : Nat) (F : Nat → Prop), n ≤ 4096 ∧ i = .int .i64 (n : Int) ∧ Has NAt w.heap.size w u p (many n a b s) F n) (fun i _ _ _ => 4096 - (intOf i).toNat)
  case atStart => exact ⟨0, F, Nat.zero_le _, rfl, H1.out⟩
  case round =>
    obtain ⟨n, F2, hn, rfl, h2⟩ := hrel
    have H2 := hide h2
    clear h2 H1
    by_cases hlt : n < 4096
    · have KT := hide (HC.out.send p _ F2 n a b s _ H2.out.at_ H2.out.ok (fine5 (by omega)) HI.out.1 HI.out.2 HSz.out)
      rw [HSend.out n hlt] at KT
      have hO := hide (HOk.out (n + 1) (by omega))
      have hlz : (n : Int) < 4096 := by omega
      go_wp2_with fail
      refine KT.out.mono ?_
      rintro e w3 ⟨rfl, F3, h3, l3⟩
      have H3 := hide (H2.out.new h3 hO.out l3 H2.out.below.size)
      clear h3 l3 KT H2 hO
      go_wp2_with fail
      exact ⟨⟨n + 1, F3, by omega, by go_num, H3.out⟩, by simp [intOf]; omega⟩
    · obtain rfl : n = 4096 := by omega
      have hlz : ¬ ((4096 : Nat) : Int) < 4096 := by omega
      go_wp2_with fail
      go_loopw [13, 14, 15, 16, 17] (fun i _ _ _ _ u => ∃ (k : Nat) (F : Nat → Prop), k ≤ m ∧ i = .int .i64 (k : Int) ∧ Has NAt w.heap.size w u p (many 4096 a b s) F 4096) (fun i _ _ _ _ _ => m - (intOf i).toNat)
      case atStart => exact ⟨0, F2, Nat.zero_le _, rfl, H2.out⟩
      case round =>
        obtain ⟨k, F3, hk, rfl, h3⟩ := hrel
        have H3 := hide h3
        clear h3 H2
        by_cases hlt : k < m
        · have KT := hide (HC.out.send p _ F3 4096 a b s _ H3.out.at_ H3.out.ok (fine5 (by omega)) HI.out.1 HI.out.2 HSz.out)
          rw [HFull.out] at KT
          have hlz : (k : Int) < (m : Int) := by omega
          have hc : (k : Int) % 18446744073709551616 = (k : Int) := by omega
          have hc2 : ((k : Int) + 1) % 18446744073709551616 = ((k + 1 : Nat) : Int) := by omega
          go_wp2_with fail
          refine KT.out.mono ?_
          rintro e w4 ⟨rfl, F4, h4, l4⟩
          have H4 := hide (H3.out.new h4 (HOk.out 4096 (by decide)) l4 H3.out.below.size)
          clear h4 l4 KT H3
          have KD := hide (HC.out.double p _ F4 4096 (k + 1) _ H4.out.at_ H4.out.ok (fine5 (by omega)) (by omega))
          rw [HDb.out k (by omega)] at KD
          go_wp2_with fail
          refine KD.out.mono ?_
          rintro e w5 ⟨rfl, F5, h5, l5⟩
          have H5 := hide (H4.out.new h5 (HOk.out 4096 (by decide)) l5 H4.out.below.size)
          clear h5 l5 KD H4
          go_wp2_with fail
          exact ⟨⟨k + 1, F5, by omega, by go_num, H5.out⟩, by simp [intOf]; omega⟩
        · have hlz : ¬ (k : Int) < (m : Int) := by omega
          have KD := hide (HC.out.drop p _ F3 4096 1 _ H3.out.at_ H3.out.ok (fine5 (by omega)) (by decide))
          rw [many_drop] at KD
          have hO := hide (H3.out.ok.drop 1)
          go_wp2_with fail
          refine KD.out.mono ?_
          rintro e w4 ⟨rfl, F4, h4, l4⟩
          have H4 := hide (H3.out.new h4 hO.out l4 H3.out.below.size)
          clear h4 l4 KD H3
          have KT := hide (HC.out.double p _ F4 4096 2 _ H4.out.at_ H4.out.ok (fine5 (by omega)) (by decide))
          rw [HLast.out.1] at KT
          have hO2 := hide (H4.out.ok.double 2)
          have HL2 := hide HLast.out.2
          generalize (dropN (many 4096 a b s) 1).double 2 = R at *
          go_wp2_with fail
          refine KT.out.mono ?_
          rintro e w5 ⟨rfl, F5, h5, l5⟩
          have H5 := hide (H4.out.new h5 hO2.out l5 H4.out.below.size)
          clear h5 l5 KT H4
          have KL := hide (HC.out.len p _ F5 4097 _ H5.out.at_ H5.out.ok (fine5 (by omega)))
          rw [HL2.out] at KL
          go_wp2_with fail
          refine KL.out.mono ?_
          rintro e w6 ⟨rfl, hb6⟩
          have HB6 := hide (H5.out.below.trans (hb6.mono H5.out.below.size))
          clear hb6 KL H5
          go_wp2_with fail
          refine (alive_any HC.out w6).mono ?_
          rintro e w7 ⟨rfl, hb7⟩
          have HB7 := hide (bnext HB6.out hb7)
          clear hb7
          go_wp2
          go_ret
          exact ⟨rfl, HB7.out⟩
end Go.Proofs.Ytdfioggeiagihaa
