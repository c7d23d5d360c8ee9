/- WireBack over the contracts. -/
import Derived.Test.YtodndkmpjpiidaaItems
namespace Go.Proofs.Ytodndkmpjpiidaa
open Go Go.RowKit

/-- A list of items lies at a. -/
def Items (a : Option Addr) (len : Nat) (K X : Nat → Nat) (T : Nat → ByteArray) (W : World) : Prop :=
  len = 0 ∨ ∃ b off, a = some ⟨b, off, none⟩ ∧ b < W.heap.size ∧ ∀ i, i < len →
    (K i < 256 ∧ X i < 18446744073709551616 ∧ (T i).size ≤ 9223372036854775807) ∧
    W.cell? ⟨b, off + i * 3, none⟩ = some (.int .u8 (K i : Int)) ∧ W.cell? ⟨b, off + i * 3 + 1, none⟩ = some (.int .u64 (X i : Int)) ∧ W.cell? ⟨b, off + i * 3 + 2, none⟩ = some (.string (T i))
/-- The bytes of the first k items. -/
def cat (K X : Nat → Nat) (T : Nat → ByteArray) : Nat → List Nat
  | 0 => []
  | k + 1 => cat K X T k ++ ib (K k) (X k) (T k)
/-- The bytes of n items from the k-th on. -/
def rest (K X : Nat → Nat) (T : Nat → ByteArray) : Nat → Nat → List Nat
  | _, 0 => []
  | k, n + 1 => ib (K k) (X k) (T k) ++ rest K X T (k + 1) n
theorem cat_rest (K X : Nat → Nat) (T : Nat → ByteArray) : ∀ n k, cat K X T k ++ rest K X T k n = cat K X T (k + n)
  | 0, k => by simp [rest]
  | n + 1, k => by
    have h := cat_rest K X T n (k + 1)
    show cat K X T k ++ (ib (K k) (X k) (T k) ++ rest K X T (k + 1) n) = _
    rw [← List.append_assoc]
    rw [show k + (n + 1) = k + 1 + n from by omega, ← h]
    rfl
theorem ib_lt {k x : Nat} {s : ByteArray} (hx : x < 18446744073709551616) (hs : s.size ≤ 140737488351232) : ∀ c ∈ ib k x s, c < 256 := by
  unfold ib
  split
  · exact enc_byte x hx
  · split
    · exact enc_byte _ (zig_lt _ (w64_range _))
    · split
      · intro c hc
        rcases List.mem_append.1 hc with hc | hc
        · exact enc_byte s.size (by omega) c hc
        · exact bytesOf_lt s c hc
      · intro c hc
        simp only [List.mem_singleton] at hc
        subst hc
        split <;> omega
theorem ib_len {k x : Nat} {s : ByteArray} (hs : s.size ≤ 1024) : (ib k x s).length ≤ 1100 := by
  have h := encF_length 10
  unfold ib enc
  split
  · have := h x; omega
  · split
    · have := h (zig (wrap64 (x : Int))); omega
    · split
      · have := h s.size
        rw [List.length_append, bytesOf_length]; omega
      · simp
theorem cat_lt {K X : Nat → Nat} {T : Nat → ByteArray} : ∀ k, (∀ i, i < k → X i < 18446744073709551616 ∧ (T i).size ≤ 140737488351232) → ∀ c ∈ cat K X T k, c < 256
  | 0, _, c, hc => by simp [cat] at hc
  | k + 1, h, c, hc => by
    unfold cat at hc
    rcases List.mem_append.1 hc with hc | hc
    · exact cat_lt k (fun i hi => h i (by omega)) c hc
    · exact ib_lt (h k (by omega)).1 (h k (by omega)).2 c hc
theorem cat_len {K X : Nat → Nat} {T : Nat → ByteArray} : ∀ k, (∀ i, i < k → (T i).size ≤ 1024) → (cat K X T k).length ≤ k * 1100
  | 0, _ => by simp [cat]
  | k + 1, h => by
    have h1 := cat_len (K := K) (X := X) k (fun i hi => h i (by omega))
    have h2 := ib_len (k := K k) (x := X k) (h k (by omega))
    unfold cat
    rw [List.length_append]; omega

theorem uint_lt (s : ByteArray) : ((⟨s, 0⟩ : St).uint 18446744073709551615).1 < 18446744073709551616 := by
  have h := rd_lt s
  unfold St.uint
  split
  · exact (by decide : (0 : Nat) < 18446744073709551616)
  · split
    · exact (by decide : (0 : Nat) < 18446744073709551616)
    · split
      · exact (by decide : (0 : Nat) < 18446744073709551616)
      · exact h
theorem int_rng (s : ByteArray) : -9223372036854775808 ≤ ((⟨s, 0⟩ : St).int (-9223372036854775808) 9223372036854775807).1 ∧ ((⟨s, 0⟩ : St).int (-9223372036854775808) 9223372036854775807).1 ≤ 9223372036854775807 := by
  have h := zag_range _ (rd_lt s)
  unfold St.int
  split
  · exact (by decide : (-9223372036854775808 : Int) ≤ 0 ∧ (0 : Int) ≤ 9223372036854775807)
  · split
    · exact (by decide : (-9223372036854775808 : Int) ≤ 0 ∧ (0 : Int) ≤ 9223372036854775807)
    · split
      · exact (by decide : (-9223372036854775808 : Int) ≤ 0 ∧ (0 : Int) ≤ 9223372036854775807)
      · exact h

set_option maxRecDepth 10000 in
set_option maxHeartbeats 8000000 in
theorem WireBack_core {WAt : World → Nat → St → Prop} (C : Con WAt) (s : ByteArray) (a : Option Addr) (len cap : Nat) (K X : Nat → Nat) (T : Nat → ByteArray) (w : World) (hs : s.size ≤ 4096) (hlen : len ≤ 200) (hl : Items a len K X T w) :
    Calls Try.prog 5 #[.slice a len cap, .string s] w fun e w' => e = .returned (.bool true) ∧ Below w.heap.size w w' := by
  have HL := hide hl
  clear hl
  have hz1 : ¬ ((4096 : Int) < (s.size : Int)) := by omega
  have hz2 : ¬ ((200 : Int) < (len : Int)) := by omega
  go_enter Try.func5, Try.ntmps5
  go_wp2_with fail
  go_loopw [5, 6] (fun t i wr => ∃ k : Nat, k ≤ len ∧ i = .int .i64 (k : Int) ∧ t = .string (textOf (cat K X T k)) ∧ (∀ j, j < k → (T j).size ≤ 1024) ∧ Below w.heap.size w wr) (fun _ i _ => len - (intOf i).toNat)
  case atStart => exact ⟨0, Nat.zero_le _, rfl, rfl, fun j hj => absurd hj (by omega), Below.refl _ _⟩
  case round =>
    obtain ⟨k, hk, rfl, rfl, hsm, hbel⟩ := hrel
    by_cases hlt : k < len
    · rcases HL.out with h0 | ⟨b, off, rfl, hb0, hc⟩
      · omega
      · obtain ⟨⟨hK, hX, hT⟩, c0, c1, c2⟩ := hc k hlt
        have d0 : wr.cell? ⟨b, off + k * 3, none⟩ = some (.int .u8 (K k : Int)) := (hbel.cell (p := ⟨b, off + k * 3, none⟩) hb0).trans c0
        have d1 : wr.cell? ⟨b, off + k * 3 + 1, none⟩ = some (.int .u64 (X k : Int)) := (hbel.cell (p := ⟨b, off + k * 3 + 1, none⟩) hb0).trans c1
        have d2 : wr.cell? ⟨b, off + k * 3 + 2, none⟩ = some (.string (T k)) := (hbel.cell (p := ⟨b, off + k * 3 + 2, none⟩) hb0).trans c2
        have HBel := hide hbel
        have HSm := hide hsm
        by_cases hbig : 1024 < (T k).size
        · have hbz : (1024 : Int) < ((T k).size : Int) := by omega
          clear hbel hsm c0 c1 c2 hc hK hX
          go_wp2_with fail
          refine (alive_any C _).mono ?_
          rintro e w5 ⟨rfl, hb⟩
          have HB5 := hide (bnext HBel.out hb)
          clear hb
          go_wp2
          go_ret
          exact ⟨rfl, HB5.out⟩
        · have hbz : ¬ ((1024 : Int) < ((T k).size : Int)) := by omega
          have HBy := hide (fun u => bytes_any C (K k) (X k) (T k) u hX (by omega) hK)
          have hl1 : (textOf (cat K X T k)).size ≤ k * 1100 := by rw [textOf_size]; exact cat_len k hsm
          have hl2 : (textOf (ib (K k) (X k) (T k))).size ≤ 1100 := by rw [textOf_size]; exact ib_len (by omega)
          have hcat : textOf (cat K X T k) ++ textOf (ib (K k) (X k) (T k)) = textOf (cat K X T (k + 1)) := textOf_append _ _
          have HCat := hide hcat
          clear hbel hsm c0 c1 c2 hc hK hX hcat
          generalize textOf (cat K X T k) = t1 at *
          generalize textOf (ib (K k) (X k) (T k)) = t2 at *
          go_wp2_with fail
          refine (HBy.out _).mono ?_
          rintro e w5 ⟨rfl, hb⟩
          have HB5 := hide (bnext HBel.out hb)
          clear hb
          go_wp2
          go_roundw
          case rel => exact ⟨k + 1, hlt, by go_num, by rw [HCat.out], fun j hj => by
            rcases Nat.lt_succ_iff_lt_or_eq.1 hj with h | rfl
            · exact HSm.out j h
            · omega, HB5.out⟩
          case measure => simp [intOf]; omega
    · have hke : k = len := by omega
      subst hke
      have HBel := hide hbel
      have HSm := hide hsm
      clear hbel hsm
      have hsz : (textOf (cat K X T k)).size ≤ 140737488351232 := by
        rw [textOf_size]; have := cat_len (K := K) (X := X) k HSm.out; omega
      have hby : bytesOf (textOf (cat K X T k)) = cat K X T k := by
        refine bytesOf_textOf _ (cat_lt k fun i hi => ?_)
        rcases HL.out with h0 | ⟨b, off, rfl, hb0, hc⟩
        · omega
        · exact ⟨(hc i hi).1.2.1, Nat.le_trans (HSm.out i hi) (by decide)⟩
      have HNew := hide (fun u => C.new (textOf (cat K X T k)) u hsz)
      have HBy := hide (And.intro hby hsz)
      clear hby hsz
      generalize textOf (cat K X T k) = tx at *
      go_wp2_with fail
      refine (HNew.out _).mono ?_
      rintro e w1 ⟨p, rfl, hp, hw1, hb1⟩
      have HP := hide (Nat.le_trans HBel.out.size hp); have HW1 := hide hw1; have HB1 := hide (bnext HBel.out hb1)
      clear hp hw1 hb1
      go_wp2_with fail
      go_loopw [8] (fun i wr => ∃ j : Nat, j ≤ k ∧ i = .int .i64 (j : Int) ∧ ∃ st, WAt wr p st ∧ st.e = 0 ∧ bytesOf st.s = rest K X T j (k - j) ∧ st.s.size ≤ 140737488351232 ∧ Below w.heap.size w wr) (fun i _ => k - (intOf i).toNat)
      case atStart =>
        refine ⟨0, Nat.zero_le _, rfl, ⟨tx, 0⟩, HW1.out, rfl, ?_, HBy.out.2, HB1.out⟩
        have h := cat_rest K X T k 0
        rw [Nat.zero_add] at h
        rw [Nat.sub_zero]
        exact HBy.out.1.trans h.symm
      case round =>
        obtain ⟨j, hj, rfl, st, hw, he, hb, hst, hbel⟩ := hrel
        by_cases hjlt : j < k
        · rcases HL.out with h0 | ⟨b, off, rfl, hb0, hc⟩
          · omega
          · obtain ⟨⟨hK, hX, hT⟩, c0, c1, c2⟩ := hc j hjlt
            have d0 : wr.cell? ⟨b, off + j * 3, none⟩ = some (.int .u8 (K j : Int)) := (hbel.cell (p := ⟨b, off + j * 3, none⟩) hb0).trans c0
            have d1 : wr.cell? ⟨b, off + j * 3 + 1, none⟩ = some (.int .u64 (X j : Int)) := (hbel.cell (p := ⟨b, off + j * 3 + 1, none⟩) hb0).trans c1
            have d2 : wr.cell? ⟨b, off + j * 3 + 2, none⟩ = some (.string (T j)) := (hbel.cell (p := ⟨b, off + j * 3 + 2, none⟩) hb0).trans c2
            rw [show k - j = (k - (j + 1)) + 1 from by omega] at hb
            have HBack := hide (back_any C p (K j) (X j) (T j) (rest K X T (j + 1) (k - (j + 1))) st wr hw he hst hX (HSm.out j hjlt) hK hb)
            have HBel2 := hide hbel
            clear hw he hb hst hbel c0 c1 c2 hc hK hX hT
            go_wp2_with fail
            refine HBack.out.mono ?_
            rintro e w5 ⟨rfl, st2, hw2, he2, hb2, hs2, hbut⟩
            have HR := hide (And.intro hw2 (And.intro he2 (And.intro hb2 (And.intro hs2 (bbut HBel2.out hbut HP.out)))))
            clear hw2 he2 hb2 hs2 hbut
            go_wp2
            go_roundw
            case rel => exact ⟨j + 1, hjlt, by go_num, st2, HR.out.1, HR.out.2.1, HR.out.2.2.1, HR.out.2.2.2.1, HR.out.2.2.2.2⟩
            case measure => simp [intOf]; omega
        · have hje : j = k := by omega
          subst hje
          rw [Nat.sub_self] at hb
          have hend := end_back he hb
          have HEnd := C.end_ p st wr hw hst
          rw [hend] at HEnd
          have HEnd := hide HEnd
          have HBel2 := hide hbel
          have HN1 := hide (fun u => C.new s u (by omega))
          have HU := hide (fun p u (h : WAt u p ⟨s, 0⟩) => C.uint p 18446744073709551615 ⟨s, 0⟩ u h (show s.size ≤ 140737488351232 by omega) (by decide))
          have HI := hide (fun p u (h : WAt u p ⟨s, 0⟩) => C.int p (-9223372036854775808) 9223372036854775807 ⟨s, 0⟩ u h (show s.size ≤ 140737488351232 by omega) (by decide) (by decide))
          have hf1 := uint_forth s
          have hf2 := int_forth s
          have hu1 : ((⟨s, 0⟩ : St).uint 18446744073709551615).1 < 18446744073709551616 := uint_lt s
          have hi1 : -9223372036854775808 ≤ ((⟨s, 0⟩ : St).int (-9223372036854775808) 9223372036854775807).1 ∧ ((⟨s, 0⟩ : St).int (-9223372036854775808) 9223372036854775807).1 ≤ 9223372036854775807 := int_rng s
          have hz3 : ((⟨s, 0⟩ : St).uint 18446744073709551615).2.s.size ≤ 140737488351232 := Nat.le_trans (uint_size _ _) (show s.size ≤ _ by omega)
          have hz4 : ((⟨s, 0⟩ : St).int (-9223372036854775808) 9223372036854775807).2.s.size ≤ 140737488351232 := Nat.le_trans (int_size _ _ _) (show s.size ≤ _ by omega)
          clear hw he hb hst hbel hend
          generalize (⟨s, 0⟩ : St).uint 18446744073709551615 = U at *
          generalize (⟨s, 0⟩ : St).int (-9223372036854775808) 9223372036854775807 = I at *
          obtain ⟨un, us⟩ := U
          obtain ⟨iv, is⟩ := I
          simp only at hf1 hf2 hu1 hi1 hz3 hz4
          have HF := hide (And.intro hf1 (And.intro hf2 (And.intro hu1 (And.intro hi1 (And.intro hz3 hz4)))))
          clear hf1 hf2 hu1 hi1 hz3 hz4
          go_wp2_with fail
          refine HEnd.out.mono ?_
          rintro e w5 ⟨rfl, hw5, hb5⟩
          have HB5 := hide (bbut HBel2.out hb5 HP.out)
          clear hw5 hb5
          go_wp2_with fail
          refine (HN1.out _).mono ?_
          rintro e w6 ⟨p2, rfl, hp2, hw6, hb6⟩
          have HP2 := hide (Nat.le_trans HB5.out.size hp2); have HW6 := hide hw6; have HB6 := hide (bnext HB5.out hb6)
          clear hp2 hw6 hb6
          go_wp2_with fail
          refine (HU.out p2 _ HW6.out).mono ?_
          rintro e w7 ⟨rfl, hw7, hb7⟩
          have HW7 := hide hw7; have HB7 := hide (bbut HB6.out hb7 HP2.out)
          clear hw7 hb7
          go_wp2_with fail
          refine (C.err p2 us _ HW7.out).mono ?_
          rintro e w8 ⟨rfl, hb8⟩
          have HW8 := hide (C.frame HW7.out (hb8.block p2 (C.lt HW7.out))); have HB8 := hide (bnext HB7.out hb8)
          clear hb8
          by_cases hue : us.e = 0
          · obtain ⟨n, hn, hne, hns⟩ := HF.out.1 hue
            have huz : ((us.e : Nat) : Int) = 0 := by omega
            have HWU := hide (fun u => C.wuint un u HF.out.2.2.1)
            rw [hne] at HWU
            have hnz : (us.s.size : Int) = (s.size : Int) - (n : Int) := by omega
            have hnn : s.size - (s.size - n) = n := by omega
            clear hne hns
            go_wp2_with fail
            refine (HWU.out _).mono ?_
            rintro e w9 ⟨rfl, hb9⟩
            have HW9 := hide (C.frame HW8.out (hb9.block p2 (C.lt HW8.out))); have HB9 := hide (bnext HB8.out hb9)
            clear hb9
            go_wp2_with fail
            refine (C.left p2 us _ HW9.out HF.out.2.2.2.2.1).mono ?_
            rintro e w10 ⟨rfl, hb10⟩
            have HBY := hide (bnext HB9.out hb10)
            clear hb10
            go_wp2_with fail
            refine (HN1.out _).mono ?_
            rintro e w16 ⟨p3, rfl, hp3, hw16, hb16⟩
            have HP3 := hide (Nat.le_trans HBY.out.size hp3); have HW16 := hide hw16; have HB16 := hide (bnext HBY.out hb16)
            clear hp3 hw16 hb16
            go_wp2_with fail
            refine (HI.out p3 _ HW16.out).mono ?_
            rintro e w17 ⟨rfl, hw17, hb17⟩
            have HW17 := hide hw17; have HB17 := hide (bbut HB16.out hb17 HP3.out)
            clear hw17 hb17
            go_wp2_with fail
            refine (C.err p3 is _ HW17.out).mono ?_
            rintro e w18 ⟨rfl, hb18⟩
            have HW18 := hide (C.frame HW17.out (hb18.block p3 (C.lt HW17.out))); have HB18 := hide (bnext HB17.out hb18)
            clear hb18
            by_cases hie : is.e = 0
            · obtain ⟨m, hm, hme, hms⟩ := HF.out.2.1 hie
              have hiz : ((is.e : Nat) : Int) = 0 := by omega
              have HWI := hide (fun u => C.wint iv u HF.out.2.2.2.1)
              rw [hme] at HWI
              have hmz : (is.s.size : Int) = (s.size : Int) - (m : Int) := by omega
              have hmm : s.size - (s.size - m) = m := by omega
              clear hme hms
              go_wp2_with fail
              refine (HWI.out _).mono ?_
              rintro e w19 ⟨rfl, hb19⟩
              have HW19 := hide (C.frame HW18.out (hb19.block p3 (C.lt HW18.out))); have HB19 := hide (bnext HB18.out hb19)
              clear hb19
              go_wp2_with fail
              refine (C.left p3 is _ HW19.out HF.out.2.2.2.2.2).mono ?_
              rintro e w20 ⟨rfl, hb20⟩
              have HBX := hide (bnext HB19.out hb20)
              clear hb20
              go_wp2_with fail
              refine (alive_any C _).mono ?_
              rintro e w30 ⟨rfl, hb30⟩
              have HB30 := hide (bnext HBX.out hb30)
              clear hb30
              go_wp2
              go_ret
              exact ⟨rfl, HB30.out⟩
            · have hiz : ¬ (((is.e : Nat) : Int) = 0) := by omega
              have HBX := HB18
              go_wp2_with fail
              refine (alive_any C _).mono ?_
              rintro e w30 ⟨rfl, hb30⟩
              have HB30 := hide (bnext HBX.out hb30)
              clear hb30
              go_wp2
              go_ret
              exact ⟨rfl, HB30.out⟩
          · have huz : ¬ (((us.e : Nat) : Int) = 0) := by omega
            have HBY := HB8
            go_wp2_with fail
            refine (HN1.out _).mono ?_
            rintro e w16 ⟨p3, rfl, hp3, hw16, hb16⟩
            have HP3 := hide (Nat.le_trans HBY.out.size hp3); have HW16 := hide hw16; have HB16 := hide (bnext HBY.out hb16)
            clear hp3 hw16 hb16
            go_wp2_with fail
            refine (HI.out p3 _ HW16.out).mono ?_
            rintro e w17 ⟨rfl, hw17, hb17⟩
            have HW17 := hide hw17; have HB17 := hide (bbut HB16.out hb17 HP3.out)
            clear hw17 hb17
            go_wp2_with fail
            refine (C.err p3 is _ HW17.out).mono ?_
            rintro e w18 ⟨rfl, hb18⟩
            have HW18 := hide (C.frame HW17.out (hb18.block p3 (C.lt HW17.out))); have HB18 := hide (bnext HB17.out hb18)
            clear hb18
            by_cases hie : is.e = 0
            · obtain ⟨m, hm, hme, hms⟩ := HF.out.2.1 hie
              have hiz : ((is.e : Nat) : Int) = 0 := by omega
              have HWI := hide (fun u => C.wint iv u HF.out.2.2.2.1)
              rw [hme] at HWI
              have hmz : (is.s.size : Int) = (s.size : Int) - (m : Int) := by omega
              have hmm : s.size - (s.size - m) = m := by omega
              clear hme hms
              go_wp2_with fail
              refine (HWI.out _).mono ?_
              rintro e w19 ⟨rfl, hb19⟩
              have HW19 := hide (C.frame HW18.out (hb19.block p3 (C.lt HW18.out))); have HB19 := hide (bnext HB18.out hb19)
              clear hb19
              go_wp2_with fail
              refine (C.left p3 is _ HW19.out HF.out.2.2.2.2.2).mono ?_
              rintro e w20 ⟨rfl, hb20⟩
              have HBX := hide (bnext HB19.out hb20)
              clear hb20
              go_wp2_with fail
              refine (alive_any C _).mono ?_
              rintro e w30 ⟨rfl, hb30⟩
              have HB30 := hide (bnext HBX.out hb30)
              clear hb30
              go_wp2
              go_ret
              exact ⟨rfl, HB30.out⟩
            · have hiz : ¬ (((is.e : Nat) : Int) = 0) := by omega
              have HBX := HB18
              go_wp2_with fail
              refine (alive_any C _).mono ?_
              rintro e w30 ⟨rfl, hb30⟩
              have HB30 := hide (bnext HBX.out hb30)
              clear hb30
              go_wp2
              go_ret
              exact ⟨rfl, HB30.out⟩
end Go.Proofs.Ytodndkmpjpiidaa
namespace Go.Proofs.Ytodndkmpjpiidaa
open Go Go.RowKit
set_option maxRecDepth 10000 in
set_option maxHeartbeats 2000000 in
theorem WireBack_any {WAt : World → Nat → St → Prop} (C : Con WAt) (s : ByteArray) (a : Option Addr) (len cap : Nat) (K X : Nat → Nat) (T : Nat → ByteArray) (w : World) (hs : s.size ≤ 140737488351232) (hlen : len ≤ 9223372036854775807) (hl : Items a len K X T w) :
    Calls Try.prog 5 #[.slice a len cap, .string s] w fun e w' => e = .returned (.bool true) ∧ Below w.heap.size w w' := by
  by_cases h1 : 200 < len
  · have hz : (200 : Int) < (len : Int) := by omega
    clear hl
    go_enter Try.func5, Try.ntmps5
    go_wp2_with fail
    refine (alive_any C _).mono ?_
    rintro e w1 ⟨rfl, hb⟩
    have HB := hide hb
    clear hb
    go_wp2
    go_ret
    exact ⟨rfl, HB.out⟩
  · by_cases h2 : 4096 < s.size
    · have hz : ¬ ((200 : Int) < (len : Int)) := by omega
      have hz2 : (4096 : Int) < (s.size : Int) := by omega
      clear hl
      go_enter Try.func5, Try.ntmps5
      go_wp2_with fail
      refine (alive_any C _).mono ?_
      rintro e w1 ⟨rfl, hb⟩
      have HB := hide hb
      clear hb
      go_wp2
      go_ret
      exact ⟨rfl, HB.out⟩
    · exact WireBack_core C s a len cap K X T w (by omega) (by omega) hl
end Go.Proofs.Ytodndkmpjpiidaa
