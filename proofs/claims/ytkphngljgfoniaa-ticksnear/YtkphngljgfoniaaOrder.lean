/- The law TicksOrder, over the contracts. -/
import Derived.Test.YtkphngljgfoniaaNear
namespace Go.Proofs.Ytkphngljgfoniaa
open Go Go.RowKit

/-- Two clocks, and a row of numbers beside them. -/
structure Ord (TAt : World → Nat → Ck → (Nat → Prop) → Prop) (B : Nat) (W u : World) (p q g n : Nat) (c d : Ck) (F G : Nat → Prop) (bs : List Int) : Prop where
  da : TAt u p c F
  db : TAt u q d G
  row : NumsAt u g n bs
  apart : ∀ i, F i → ¬ G i
  fg : ∀ i, F i → i ≠ g
  gg : ∀ i, G i → i ≠ g
  ownF : ∀ i, F i → B ≤ i
  ownG : ∀ i, G i → B ≤ i
  ownR : B ≤ g
  below : Below B W u
  base : B ≤ W.heap.size
theorem Ord.size {TAt : World → Nat → Ck → (Nat → Prop) → Prop} {B : Nat} {W u : World} {p q g n : Nat} {c d : Ck} {F G : Nat → Prop} {bs : List Int} (h : Ord TAt B W u p q g n c d F G bs) : B ≤ u.heap.size := Nat.le_trans h.base h.below.size
theorem Ord.old {TAt : World → Nat → Ck → (Nat → Prop) → Prop} (C : Con TAt) {B : Nat} {W u v : World} {p q g n : Nat} {c d : Ck} {F G : Nat → Prop} {bs : List Int} (h : Ord TAt B W u p q g n c d F G bs) (hb : Below u.heap.size u v) : Ord TAt B W v p q g n c d F G bs :=
  ⟨C.below h.da hb, C.below h.db hb, h.row.below hb, h.apart, h.fg, h.gg, h.ownF, h.ownG, h.ownR, h.below.trans (hb.mono h.size), h.base⟩
theorem Ord.stepA {TAt : World → Nat → Ck → (Nat → Prop) → Prop} (C : Con TAt) {B : Nat} {W u v : World} {p q g n : Nat} {c c' d : Ck} {F F' G : Nat → Prop} {bs : List Int} (h : Ord TAt B W u p q g n c d F G bs) (hd : TAt v p c' F') (hl : Loc F F' u v) : Ord TAt B W v p q g n c' d F' G bs :=
  ⟨hd, C.same h.db (hl.other h.apart (C.lt h.db)), h.row.same (hl.block g h.row.lt (fun hF => h.fg g hF rfl)), hl.apart h.apart (C.lt h.db), fun i hi => (by
    rcases hl.own i hi with h1 | h1
    · exact h.fg i h1
    · have := h.row.lt; omega), h.gg, hl.beyond h.ownF h.size, h.ownG, h.ownR, h.below.trans (hl.below h.ownF h.size), h.base⟩
theorem Ord.stepB {TAt : World → Nat → Ck → (Nat → Prop) → Prop} (C : Con TAt) {B : Nat} {W u v : World} {p q g n : Nat} {c d d' : Ck} {F G G' : Nat → Prop} {bs : List Int} (h : Ord TAt B W u p q g n c d F G bs) (hd : TAt v q d' G') (hl : Loc G G' u v) : Ord TAt B W v p q g n c d' F G' bs :=
  ⟨C.same h.da (hl.other (fun i hg hf => h.apart i hf hg) (C.lt h.da)), hd, h.row.same (hl.block g h.row.lt (fun hF => h.gg g hF rfl)), fun i hf hg => hl.apart (G := F) (fun k hk hf => h.apart k hf hk) (C.lt h.da) i hg hf, h.fg, fun i hi => (by
    rcases hl.own i hi with h1 | h1
    · exact h.gg i h1
    · have := h.row.lt; omega), h.ownF, hl.beyond h.ownG h.size, h.ownR, h.below.trans (hl.below h.ownG h.size), h.base⟩
theorem Ord.set {TAt : World → Nat → Ck → (Nat → Prop) → Prop} (C : Con TAt) {B : Nat} {W u : World} {p q g n : Nat} {c d : Ck} {F G : Nat → Prop} {bs : List Int} (h : Ord TAt B W u p q g n c d F G bs) (k : Nat) (x : Int) : Ord TAt B W (u.setCell ⟨g, k, none⟩ (.int .i64 x)) p q g n c d F G (bs.set k x) :=
  ⟨C.same h.da (fun i hi => Below.heap_setCell u ⟨g, k, none⟩ _ i (h.fg i hi)), C.same h.db (fun i hi => Below.heap_setCell u ⟨g, k, none⟩ _ i (h.gg i hi)), h.row.set k x, h.apart, h.fg, h.gg, h.ownF, h.ownG, h.ownR, h.below.setCell (p := ⟨g, k, none⟩) h.ownR _, h.base⟩
/-- The numbers are small yet. -/
def Small (l : List Int) (m : Int) : Prop := ∀ x ∈ l, 0 ≤ x ∧ x ≤ m
theorem Small.set {l : List Int} {m : Int} (h : Small l m) (k : Nat) (hk : k < l.length) (y : Int) (hy : 0 ≤ y ∧ y ≤ 65535) : Small (l.set k (l[k] + y)) (m + 65535) := fun x hx => by
  rcases List.mem_or_eq_of_mem_set hx with h1 | h1
  · have := h x h1; omega
  · have := h _ (List.getElem_mem hk); omega
theorem Small.more {l : List Int} {m : Int} (h : Small l m) : Small l (m + 65535) := fun x hx => by have := h x hx; omega
/-- The second clocks in the midst of their one tick each, from the last one on. -/
theorem back_at (a : List Int) (m : Nat) (_ : m < a.length) : ((List.replicate (m + 1) (0 : Int) ++ a.drop (m + 1)))[m]? = some 0 := by
  rw [List.getElem?_append_left (by rw [List.length_replicate]; omega), List.getElem?_replicate, if_pos (by omega)]
theorem back_set (a : List Int) (m : Nat) (hm : m < a.length) : (List.replicate (m + 1) (0 : Int) ++ a.drop (m + 1)).set m (0 + a[m]) = List.replicate m 0 ++ a.drop m := by
  rw [List.set_append_left _ _ (by rw [List.length_replicate]; omega), List.replicate_succ', List.set_append_right _ _ (by rw [List.length_replicate]; omega), List.length_replicate, Nat.sub_self, List.set_cons_zero, List.append_assoc, List.drop_eq_getElem_cons hm, Int.zero_add]
  rfl
theorem back_len (a : List Int) (m : Nat) (hm : m ≤ a.length) : (List.replicate m (0 : Int) ++ a.drop m).length = a.length := by
  rw [List.length_append, List.length_replicate, List.length_drop]; omega
theorem i64_and16 (n : Int) : bits .and .i64 n 65535 = n % 65536 := by
  have h127 : (BitVec.ofInt 64 65535).toNat = 2 ^ 16 - 1 := by decide
  have key : (BitVec.ofInt 64 n &&& BitVec.ofInt 64 65535).toNat = (n % ((2 ^ 64 : Nat) : Int)).toNat % 2 ^ 16 := by
    rw [BitVec.toNat_and, BitVec.toNat_ofInt, h127, Nat.and_two_pow_sub_one_eq_mod]
  show IntKind.i64.wrap ((BitVec.ofInt 64 n &&& BitVec.ofInt 64 65535).toNat : Nat) = n % 65536
  rw [key, IntKind.wrap_i64]
  omega
set_option maxRecDepth 10000 in
set_option maxHeartbeats 8000000 in
theorem TicksOrder_any {TAt : World → Nat → Ck → (Nat → Prop) → Prop} (C : Con TAt) (nn : Int) (a : Option Addr) (ca : Nat) (l : List (Int × Int)) (w : World) (h : StepsAt w a l) (hok : ∀ x ∈ l, I64 x.1 ∧ I64 x.2) (hnn : I64 nn) (hl : l.length ≤ 140737488351232) :
    Calls Try.prog 6 #[.int .i64 nn, .slice a l.length ca] w fun e w' => e = .returned (.bool true) ∧ Below w.heap.size w w' := by
  have HC := hide C
  have HS := hide h
  have HOk := hide hok
  clear C h hok
  by_cases h200 : 200 < l.length
  · have KA := hide (alive_any HC.out w)
    have hz : (200 : Int) < (l.length : Int) := by omega
    go_enter Try.func6, Try.ntmps6
    go_wp2_with fail
    refine KA.out.mono ?_
    rintro e w5 ⟨rfl, hb5⟩
    have HB5 := hide hb5
    clear hb5
    go_wp2
    go_ret
    exact ⟨rfl, HB5.out⟩
  have hz : ¬ (200 : Int) < (l.length : Int) := by omega
  by_cases hin : 1 ≤ nn ∧ nn ≤ 128
  rotate_left 1
  · have KN := fun u => hide (HC.out.newNot nn 0 u hnn i64_0 (fun h => hin ⟨h.1, h.2.1⟩))
    clear hin hnn
    go_enter Try.func6, Try.ntmps6
    go_wp2_with fail
    refine (KN w).out.mono ?_
    rintro e w1 ⟨rfl, hb1⟩
    have HB1 := hide hb1
    clear hb1
    go_wp2_with fail
    refine (KN w1).out.mono ?_
    rintro e w2 ⟨rfl, hb1⟩
    have HB2 := hide (bnext HB1.out hb1)
    clear hb1 KN HB1
    have KA := hide (alive_any HC.out w2)
    go_wp2_with fail
    refine KA.out.mono ?_
    rintro e w5 ⟨rfl, hb5⟩
    have HB5 := hide (bnext HB2.out hb5)
    clear hb5
    go_wp2
    go_ret
    exact ⟨rfl, HB5.out⟩
  obtain ⟨n, rfl⟩ : ∃ n : Nat, nn = (n : Int) := ⟨nn.toNat, by omega⟩
  have hn1 : 1 ≤ n := by omega
  have hn2 : n ≤ 128 := by omega
  have KN := fun u => hide (HC.out.new n 0 u hn1 hn2 (by decide) (by decide))
  have HO0 := hide (Ck.Ok.new (b := 0) hn1 hn2 ⟨by decide, by decide⟩)
  clear hin hnn
  go_enter Try.func6, Try.ntmps6
  go_wp2_with fail
  refine (KN w).out.mono ?_
  rintro e w1 ⟨p, F, rfl, h1, hF, hb1⟩
  have H1 := hide (Has.mk (W := w) (B := w.heap.size) h1 HO0.out hF hb1)
  clear h1 hF hb1
  go_wp2_with fail
  refine (KN w1).out.mono ?_
  rintro e w2 ⟨q, G, rfl, h2, hG, hb2⟩
  have H2 := hide (H1.out.old HC.out hb2 H1.out.below.size)
  have HG := hide h2
  have HGF : Hid ((∀ i, F i → ¬ G i) ∧ (∀ i, G i → w.heap.size ≤ i)) := ⟨fun i hf hg => by have := HC.out.lt H1.out.at_ i hf; have := hG i hg; omega, fun i hg => Nat.le_trans H1.out.below.size (hG i hg)⟩
  clear h2 hG hb2 H1 KN
  have hmk := nmake n (by omega) w2
  have HR := hide (NumsAt.new w2 n (by omega))
  rw [show Array.replicate n (Value.int .i64 0) = zeros n from rfl] at HR
  have HAB := hide ((Below.refl w2.heap.size w2).alloc (Nat.le_refl _) (.cells (zeros n) 2))
  generalize zeros n = Z at *
  have HB0 : Hid (Ord TAt w.heap.size w (w2.alloc (.cells Z 2)) p q w2.heap.size n (Ck.new n 0) (Ck.new n 0) F G (Ck.new n 0).t) :=
    ⟨HC.out.below H2.out.at_ HAB.out, HC.out.below HG.out HAB.out, HR.out, HGF.out.1, fun i hi => (by have := HC.out.lt H2.out.at_ i hi; omega), fun i hi => (by have := HC.out.lt HG.out i hi; omega), H2.out.own, HGF.out.2, H2.out.below.size, H2.out.below.trans (HAB.out.mono H2.out.below.size), Nat.le_refl _⟩
  have HLn : Hid ((Ck.new n 0).t.length = n ∧ Small (Ck.new n 0).t 0) := ⟨List.length_replicate, fun x hx => by obtain ⟨_, rfl⟩ := List.mem_replicate.1 hx; exact ⟨by decide, by decide⟩⟩
  clear HR HAB H2 HG HGF
  go_wp2_with fail
  generalize (w2.alloc (.cells Z 2)) = W1 at *
  generalize w2.heap.size = g at *
  clear hmk
  go_loopw [10, 11, 12] (fun i _ _ wr => ∃ (j : Nat) (c : Ck) (F : Nat → Prop), j ≤ l.length ∧ i = .int .i64 (j : Int) ∧ Ord TAt w.heap.size w wr p q g n c (Ck.new n 0) F G c.t ∧ c.Ok ∧ c.t.length = n ∧ Small c.t (j * 65535)) (fun i _ _ _ => l.length - (intOf i).toNat)
  case atStart => exact ⟨0, Ck.new n 0, F, Nat.zero_le _, rfl, HB0.out, HO0.out, HLn.out⟩
  case round =>
    obtain ⟨j, c, F1, hj, rfl, hB, hok, hln, hsm⟩ := hrel
    have HB := hide hB
    have HOc := hide hok
    have HSm := hide hsm
    clear hB HB0 hok hsm
    by_cases hlt : j < l.length
    · obtain ⟨b, off, rfl, e1, e2⟩ := HS.out.there j hlt
      obtain ⟨hx, hy⟩ := HOk.out _ (List.getElem_mem hlt)
      have hbw := World.block_lt_of_cell? w _ e1
      have f1 := (HB.out.below.cell (p := ⟨b, off + j * 2, none⟩) hbw).trans e1
      have f2 := (HB.out.below.cell (p := ⟨b, off + j * 2 + 1, none⟩) hbw).trans e2
      clear e1 e2
      generalize l[j].1 = x at *
      generalize l[j].2 = y at *
      have hx1 := hx.1
      have hx2 := hx.2
      have hy1 := hy.1
      have hy2 := hy.2
      by_cases hin : 0 ≤ x ∧ x < (n : Int)
      · obtain ⟨k, rfl⟩ : ∃ k : Nat, x = (k : Int) := ⟨x.toNat, by omega⟩
        have hk : k < c.t.length := by omega
        have g1 := HB.out.row.cell k hk
        have g2 := HB.out.row.free k
        have hv0 := i64_and16 y
        have hv : 0 ≤ y % 65536 ∧ y % 65536 ≤ 65535 := by omega
        have hv1 : 0 ≤ y % 65536 := hv.1
        have hv2 : y % 65536 ≤ 65535 := hv.2
        generalize y % 65536 = v at *
        have hj200 : (j : Int) ≤ 200 := by omega
        have hck := HSm.out _ (List.getElem_mem hk)
        have hc1 : 0 ≤ c.t[k] := hck.1
        have hc2 : c.t[k] ≤ 13107000 := by have := hck.2; omega
        have hgo := Ck.tick_go c k v hk ⟨hv1, by omega⟩ (by omega)
        have hok2 := HOc.out.go k hk v hv1 (by omega)
        have KT := HC.out.tick p c F1 (k : Int) v
        rw [hgo] at KT
        have hset := HB.out.set HC.out k (c.t[k] + v)
        have HSet := hide hset
        have KT2 := hide (KT (wr.setCell ⟨g, k, none⟩ (.int .i64 (c.t[k] + v))) hset.da HOc.out ⟨by omega, by omega⟩ ⟨by omega, by omega⟩)
        have HN : Hid (∀ z, Ord TAt w.heap.size w z p q g n ⟨c.t.set k (c.t[k] + v), c.b, max c.m (apart (c.t.set k (c.t[k] + v)))⟩ (Ck.new n 0) F1 G (c.t.set k (c.t[k] + v)) → True) := fun _ _ => trivial
        have HNx : Hid (Ck.Ok ⟨c.t.set k (c.t[k] + v), c.b, max c.m (apart (c.t.set k (c.t[k] + v)))⟩ ∧ (c.t.set k (c.t[k] + v)).length = n ∧ Small (c.t.set k (c.t[k] + v)) (((j + 1 : Nat) : Int) * 65535)) := ⟨hok2, by rw [List.length_set]; exact hln, by
          have := HSm.out.set k hk v hv
          rw [show (((j + 1 : Nat) : Int) * 65535) = (j : Int) * 65535 + 65535 from by omega]
          exact this⟩
        clear hx hy KT hset hgo hok2 hck HB HN
        generalize hd : (⟨c.t.set k (c.t[k] + v), c.b, max c.m (apart (c.t.set k (c.t[k] + v)))⟩ : Ck) = d at *
        have hdt : c.t.set k (c.t[k] + v) = d.t := by rw [← hd]
        rw [hdt] at HSet HNx
        clear hd hdt HSm HOc
        generalize c.t[k] = ct at *
        go_wp2_with fail
        refine KT2.out.mono ?_
        rintro e z1 ⟨rfl, F2, h2, l2⟩
        have HN := hide (HSet.out.stepA HC.out h2 l2)
        clear h2 l2 KT2 HSet
        go_wp2_with fail
        exact ⟨⟨j + 1, d, F2, hlt, by go_num, HN.out, HNx.out⟩, by simp [intOf] <;> omega⟩
      · have hxn : x < 0 ∨ (n : Int) ≤ x := by omega
        have HSm1 : Hid (Small c.t (((j + 1 : Nat) : Int) * 65535)) := by
          have := HSm.out.more
          rw [show (((j + 1 : Nat) : Int) * 65535) = (j : Int) * 65535 + 65535 from by omega]
          exact this
        clear hx hy hin
        rcases hxn with hxn | hxn
        · go_wp2_with fail
          exact ⟨⟨j + 1, c, F1, hlt, by go_num, HB.out, HOc.out, hln, HSm1.out⟩, by simp [intOf] <;> omega⟩
        · have hx0 : ¬ x < 0 := by omega
          go_wp2_with fail
          exact ⟨⟨j + 1, c, F1, hlt, by go_num, HB.out, HOc.out, hln, HSm1.out⟩, by simp [intOf] <;> omega⟩
    · have hS : ∀ x ∈ c.t, 0 ≤ x ∧ x ≤ 13107000 := fun x hx => by have := HSm.out x hx; omega
      have HS2 := hide hS
      clear hS HSm HLn
      have HD0 : Hid ((Ck.new n 0).t = List.replicate n 0 ++ c.t.drop n) := by
        unfold Hid
        rw [List.drop_of_length_le (by omega), List.append_nil]
        rfl
      go_wp2_with fail
      go_loopw [13] (fun i wz => ∃ (s : Nat) (d : Ck) (G : Nat → Prop), s ≤ n ∧ i = .int .i64 ((s : Int) - 1) ∧ Ord TAt w.heap.size w wz p q g n c d F1 G c.t ∧ d.Ok ∧ d.t = List.replicate s 0 ++ c.t.drop s) (fun i _ => (intOf i + 1).toNat)
      case atStart => exact ⟨n, Ck.new n 0, G, Nat.le_refl _, rfl, HB.out, HO0.out, HD0.out⟩
      case round =>
        obtain ⟨s, d, G1, hs, rfl, hN, hdk, hdt⟩ := hrel
        have HN := hide hN
        have HDk := hide hdk
        have HDt := hide hdt
        clear hN HB HD0 hdk hdt
        cases s with
        | succ m =>
          have hm : m < c.t.length := by omega
          rw [show (((m + 1 : Nat) : Int) - 1) = (m : Int) from by omega]
          have hmd : m < d.t.length := by rw [HDt.out, back_len c.t (m + 1) (by omega)]; exact hm
          have hd0 : d.t[m] = 0 := by
            have := back_at c.t m hm
            rw [← HDt.out, List.getElem?_eq_getElem hmd] at this
            exact Option.some.inj this
          have g1 := HN.out.row.cell m hm
          have hck := HS2.out _ (List.getElem_mem hm)
          have hc1 := hck.1
          have hc2 := hck.2
          have hgo := Ck.tick_go d m c.t[m] hmd ⟨hc1, by omega⟩ (by omega)
          have hok2 := HDk.out.go m hmd c.t[m] hc1 (by omega)
          have KT := HC.out.tick q d G1 (m : Int) c.t[m]
          rw [hgo] at KT
          have KT2 := hide (KT wr HN.out.db HDk.out ⟨by omega, by omega⟩ ⟨by omega, by omega⟩)
          have hdt2 : d.t.set m (d.t[m] + c.t[m]) = List.replicate m 0 ++ c.t.drop m := by rw [hd0, HDt.out, back_set c.t m hm]
          have HX : Hid (Ck.Ok ⟨d.t.set m (d.t[m] + c.t[m]), d.b, max d.m (apart (d.t.set m (d.t[m] + c.t[m])))⟩ ∧ d.t.set m (d.t[m] + c.t[m]) = List.replicate m 0 ++ c.t.drop m) := ⟨hok2, hdt2⟩
          clear hdt2 hgo hok2 KT hck hd0
          generalize hd : (⟨d.t.set m (d.t[m] + c.t[m]), d.b, max d.m (apart (d.t.set m (d.t[m] + c.t[m])))⟩ : Ck) = d2 at *
          have hdt : d.t.set m (d.t[m] + c.t[m]) = d2.t := by rw [← hd]
          rw [hdt] at HX
          clear hd hdt HDt HDk
          generalize c.t[m] = ct at *
          go_wp2_with fail
          refine KT2.out.mono ?_
          rintro e z1 ⟨rfl, G2, h2, l2⟩
          have HN2 := hide (HN.out.stepB HC.out h2 l2)
          clear h2 l2 KT2 HN
          go_wp2_with fail
          exact ⟨⟨m, d2, G2, by omega, rfl, HN2.out, HX.out⟩, by simp [intOf] <;> omega⟩
        | zero =>
          have hdc : d.t = c.t := by rw [HDt.out]; rfl
          rw [show (((0 : Nat) : Int) - 1) = -1 from rfl]
          have KA := hide (fun k u F hu (hk : k < c.t.length) => HC.out.at_ p c F k u hu HOc.out hk)
          have KB : Hid (∀ k u F, TAt u q d F → (hk : k < c.t.length) → Calls Try.prog 16 #[.pointer (some ⟨q, 0, none⟩), .int .i64 (k : Int)] u fun e v => e = .returned (.tuple #[.int .i64 c.t[k], .int .i64 0]) ∧ Below u.heap.size u v) := fun k u F hu hk => by
            have := HC.out.at_ q d F k u hu HDk.out (by rw [hdc]; exact hk)
            simp only [hdc] at this
            exact this
          have KP : Hid (∀ u F, TAt u p c F → Calls Try.prog 13 #[.pointer (some ⟨p, 0, none⟩)] u fun e v => e = .returned (.int .i64 (apart c.t)) ∧ Below u.heap.size u v) := fun u F hu => HC.out.apart p c F u hu HOc.out
          have KQ : Hid (∀ u F, TAt u q d F → Calls Try.prog 13 #[.pointer (some ⟨q, 0, none⟩)] u fun e v => e = .returned (.int .i64 (apart c.t)) ∧ Below u.heap.size u v) := fun u F hu => by
            have := HC.out.apart q d F u hu HDk.out
            rw [hdc] at this
            exact this
          clear hdc HDt hs
          go_wp2_with fail
          go_loopw [14, 15, 16, 17, 18] (fun i _ _ _ _ wz => ∃ s : Nat, s ≤ n ∧ i = .int .i64 (s : Int) ∧ Ord TAt w.heap.size w wz p q g n c d F1 G1 c.t) (fun i _ _ _ _ _ => n - (intOf i).toNat)
          case atStart => exact ⟨0, Nat.zero_le _, rfl, HN.out⟩
          case round =>
            obtain ⟨s, hs, rfl, hM⟩ := hrel
            have HM := hide hM
            clear hM HN
            by_cases hsn : s < n
            · have hsc : s < c.t.length := by omega
              have K1 := hide (KA.out s _ _ HM.out.da hsc)
              have HK2 : Hid (∀ z, Ord TAt w.heap.size w z p q g n c d F1 G1 c.t → Calls Try.prog 16 #[.pointer (some ⟨q, 0, none⟩), .int .i64 (s : Int)] z fun e v => e = .returned (.tuple #[.int .i64 c.t[s], .int .i64 0]) ∧ Below z.heap.size z v) := fun z hz => KB.out s z _ hz.db hsc
              have HK3 : Hid (∀ z, Ord TAt w.heap.size w z p q g n c d F1 G1 c.t → z.cell? ⟨g, s, none⟩ = some (.int .i64 c.t[s])) := fun z hz => hz.row.cell s hsc
              generalize c.t[s] = ct at *
              go_wp2_with fail
              refine K1.out.mono ?_
              rintro e z1 ⟨rfl, hb⟩
              have HM1 := hide (HM.out.old HC.out hb)
              clear hb HM K1
              go_wp2_with fail
              refine (HK2.out _ HM1.out).mono ?_
              rintro e z2 ⟨rfl, hb⟩
              have HM2 := hide (HM1.out.old HC.out hb)
              clear hb HM1 HK2
              have f1 := HK3.out _ HM2.out
              go_wp2_with fail
              exact ⟨⟨s + 1, hsn, by go_num, HM2.out⟩, by simp [intOf] <;> omega⟩
            · have hsx : s = n := by omega
              clear KA KB
              generalize apart c.t = A at *
              have K1 := hide (KP.out _ _ HM.out.da)
              go_wp2_with fail
              refine K1.out.mono ?_
              rintro e z1 ⟨rfl, hb⟩
              have HM1 := hide (HM.out.old HC.out hb)
              clear hb HM K1
              have K2 := hide (KQ.out _ _ HM1.out.db)
              go_wp2_with fail
              refine K2.out.mono ?_
              rintro e z2 ⟨rfl, hb⟩
              have HM2 := hide (HM1.out.old HC.out hb)
              clear hb HM1 K2
              have K3 := hide (alive_any HC.out z2)
              go_wp2_with fail
              refine K3.out.mono ?_
              rintro e z3 ⟨rfl, hb⟩
              have HM3 := hide (HM2.out.old HC.out hb)
              clear hb HM2 K3
              go_wp2
              go_ret
              exact ⟨rfl, HM3.out.below⟩
end Go.Proofs.Ytkphngljgfoniaa
