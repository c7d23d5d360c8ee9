/- The law NetPlays, over the contracts and the document's net. -/
import Derived.Test.YtdfioggeiagihaaPl0
namespace Go.Proofs.Ytdfioggeiagihaa
open Go Go.RowKit

theorem RAt.new (u : World) : RAt (u.alloc (.cells #[.slice none 0 0, .int .u64 0, .slice none 0 0] 32)) u.heap.size (.slice none 0 0) (.slice none 0 0) Nt.new [] :=
  ⟨heap_alloc_last u _, Recs.nil _ _ _ _, Recs.nil _ _ _ _, fun _ _ => rfl⟩
set_option maxRecDepth 10000 in
set_option maxHeartbeats 8000000 in
theorem NetPlays_any {NAt : World → Nat → Nt → (Nat → Prop) → Prop} (C : Con NAt) (a : Option Addr) (c : Nat) (l : List Stp) (w : World) (h : StepsAt w a l) (hok : ∀ x ∈ l, x.Ok) (hl : l.length ≤ 140737488351232) :
    Calls Try.prog 3 #[.slice a l.length c] w fun e w' => e = .returned (.bool true) ∧ Below w.heap.size w w' := by
  have HC := hide C
  have HS := hide h
  have HOk := hide hok
  have KH := hide (heavy_any a c l w h hok hl)
  clear C h hok
  go_enter Try.func3, Try.ntmps3
  go_wp2_with fail
  refine KH.out.mono ?_
  rintro e w1 ⟨r, rfl, hw, hr⟩
  obtain rfl := hw.symm
  clear hw KH
  cases r with
  | true =>
    clear hr
    go_wp2_with fail
    refine (alive_any HC.out w).mono ?_
    rintro e w2 ⟨rfl, hb2⟩
    have HB2 := hide hb2
    clear hb2
    go_wp2
    go_ret
    exact ⟨rfl, HB2.out⟩
  | false =>
    have hl150 := hr rfl
    clear hr
    go_wp2_with fail
    refine (HC.out.new w).mono ?_
    rintro e w2 ⟨p, F, rfl, h1, hF, hb1⟩
    have HTw : Hid (Two NAt w.heap.size w (w2.alloc (.cells #[.slice none 0 0, .int .u64 0, .slice none 0 0] 32)) p w2.heap.size 0 Nt.new Nt.new F (.slice none 0 0) (.slice none 0 0) []) :=
      ⟨HC.out.below h1 (one_below _ _), Nt.Ok.new, hF, hb1.trans ((one_below w2 _).mono hb1.size), Nat.le_refl _, RAt.new w2, Nt.Ok.new, Nat.le_refl _, fun i hi e => (by have := HC.out.lt h1 i hi; rcases e with e | e | e <;> first | omega | cases e), fun i e => (by have := hb1.size; rcases e with e | e | e <;> first | omega | cases e)⟩
    clear h1 hF hb1
    go_wp2_with fail
    generalize w2.alloc (.cells #[.slice none 0 0, .int .u64 0, .slice none 0 0] 32) = w3 at *
    generalize w2.heap.size = q at *
    go_loopw [5, 6, 7, 8, 9, 10, 11, 12, 13, 14, 15, 16, 17, 18, 19, 20, 21] (fun i _ _ _ _ _ _ _ _ _ _ _ _ _ _ _ _ u => ∃ (k : Nat) (st : Nt) (F : Nat → Prop) (vL vC : Value) (cuts : List (Int × Int)), k ≤ l.length ∧ i = .int .i64 (k : Int) ∧ Two NAt w.heap.size w u p q k st st F vL vC cuts) (fun i _ _ _ _ _ _ _ _ _ _ _ _ _ _ _ _ _ => l.length - (intOf i).toNat)
    case atStart => exact ⟨0, Nt.new, F, _, _, _, Nat.zero_le _, rfl, HTw.out⟩
    case round =>
      obtain ⟨k, st, F1, vL, vC, cuts, hk, rfl, hon⟩ := hrel
      have HO := hide hon
      clear hon HTw
      by_cases hlt : k < l.length
      · obtain ⟨b, off, rfl, hc⟩ := HS.out.there k hlt
        have hxo := HOk.out _ (List.getElem_mem hlt)
        have HXo := hide hxo
        have hbw := World.block_lt_of_cell? w _ hc.1
        obtain ⟨e0, e1, e2, e3, e4⟩ := hc.old (HO.out.below)
        clear hc hxo
        generalize l[k] = x at *
        obtain ⟨xd, xa, xb, xn, xs⟩ := x
        dsimp only at e0 e1 e2 e3 e4
        have hk150 : k ≤ 150 := by omega
        have HR := hide (Tw.start HC.out HO.out #[.int .i64 xd, .int .i64 xa, .int .i64 xb, .int .u64 (xn : Int), .string xs])
        have hfew := HO.out.ok.few
        clear hbw HO
        go_upto_block 2 with fail
        clear e0 e1 e2 e3 e4
        generalize wr.alloc (.cells #[.int .i64 xd, .int .i64 xa, .int .i64 xb, .int .u64 (xn : Int), .string xs] 34) = W1 at *
        generalize wr.heap.size = X at *
        obtain ⟨c0, c1, c2, c3, c4⟩ := HR.out.box.five
        go_cut [7, 8, 9, 10, 11, 12, 13, 14, 15, 16, 17, 18, 19, 20, 21] from 42 to 189 (fun sv _ _ _ _ _ _ _ _ _ _ _ _ _ _ u => sv = .bool true ∧ ∃ (st' : Nt) (F' : Nat → Prop) (vL' vC' : Value) (cuts' : List (Int × Int)), Tw NAt w.heap.size w u p q (k + 1) st' st' F' vL' vC' cuts' X #[.int .i64 xd, .int .i64 xa, .int .i64 xb, .int .u64 (xn : Int), .string xs])
        case first =>
          go_wp2_with fail
          · as_aux_lemma =>
            have hO := HR.out.on.ok.send xa xb xs
            have KT := hide (HC.out.send p st F1 k xa xb xs W1 HR.out.on.net HR.out.on.ok (fine150 hk150) HXo.out.a HXo.out.b HXo.out.s)
            have KR : Hid (∀ z, RAt z q vL vC st cuts → Calls Try.prog 12 #[.pointer (some ⟨q, 0, none⟩), .int .i64 xa, .int .i64 xb, .string xs] z fun e w' => e = .returned (.tuple #[.int .u64 (((st.send xa xb xs).1 : Nat) : Int), .int .i64 (((st.send xa xb xs).2.1 : Nat) : Int)]) ∧ ∃ vL', RAt w' q vL' vC (st.send xa xb xs).2.2 cuts ∧ Loc (RF q vL vC) (RF q vL' vC) z w') := fun z hz => rSend q vL vC st cuts k xa xb xs z hz HR.out.on.ok (by omega) HXo.out.s
            have hcu := HR.out.on.few
            generalize st.send xa xb xs = R at *
            obtain ⟨r1, r2, st'⟩ := R
            have HO := hide hO
            clear hO
            go_wp2_with fail
            refine KT.out.mono ?_
            rintro e' w5 ⟨rfl, F5, h5, l5⟩
            have HR5 := hide (HR.out.call h5 l5 HO.out (Nat.le_succ k))
            clear h5 l5 KT HR c0 c1 c2 c3 c4
            obtain ⟨c0, c1, c2, c3, c4⟩ := HR5.out.box.five
            go_wp2_with fail
            refine (KR.out _ HR5.out.on.ref).mono ?_
            rintro e' w6 ⟨rfl, vL6, h6, l6⟩
            have HR6 := hide (HR5.out.turn HC.out h6 l6 HO.out (by omega))
            clear h6 l6 KR HR5 c0 c1 c2 c3 c4 HO
            go_wp2_with fail
            go_meet
            case rel => exact ⟨rfl, st', F5, vL6, vC, cuts, HR6.out⟩
          · as_aux_lemma =>
            have hx1 : xd = 1 := by simpa using ‹(xd == 1) = true›
            subst hx1
            have KR : Hid (Calls Try.prog 13 #[.pointer (some ⟨q, 0, none⟩)] W1 fun e w' => ∃ a c, e = .returned (.slice a st.ready.length c) ∧ IdsAt w' a st.ready ∧ Below W1.heap.size W1 w') := rReady q vL vC st cuts k W1 HR.out.on.ref HR.out.on.ok (by omega) (by have := HR.out.on.few; omega)
            have hrf : st.ready.length ≤ 4096 := by have := readyL_few st; rw [← ready_len] at this; have := HR.out.on.ok.few; omega
            have hcu := HR.out.on.few
            have HId : Hid (∀ i (h : i < st.ready.length), st.ready[i] < 18446744073709551616) := fun i h => by
              have hm : st.ready[i] ∈ st.ready := List.getElem_mem h
              obtain ⟨y, hy, e⟩ := List.mem_map.1 hm
              have := (HR.out.on.ok.ids y (mem_readyL.1 hy).1).2
              have := HR.out.on.ok.last
              omega
            refine KR.out.mono ?_
            rintro e' w5 ⟨ra, rc, rfl, hI, hb5⟩
            have HR5 := hide (HR.out.old HC.out hb5)
            have HI := hide hI
            clear hb5 KR HR c0 c1 c2 c3 c4 hI
            obtain ⟨c0, c1, c2, c3, c4⟩ := HR5.out.box.five
            generalize st.ready = R at *
            have KT := hide (HC.out.take p st F1 k xn w5 HR5.out.on.net HR5.out.on.ok (fine150 hk150) HXo.out.n)
            have KR : Hid (∀ z, RAt z q vL vC st cuts → Calls Try.prog 15 #[.pointer (some ⟨q, 0, none⟩), .int .u64 (xn : Int)] z fun e w' => e = .returned (.tuple #[(st.take xn).1.val, .int .i64 (((st.take xn).2.1 : Nat) : Int)]) ∧ ∃ vL', RAt w' q vL' vC (st.take xn).2.2 cuts ∧ Loc (RF q vL vC) (RF q vL' vC) z w') := fun z hz => rTake q vL vC st cuts k xn z hz HR5.out.on.ok (by omega)
            have hO := (HR5.out.on.ok.take xn).more (Nat.le_succ k)
            have hE := eqL (st.take xn).1
            generalize st.take xn = R5 at *
            obtain ⟨⟨yi, ya, yb, ys, yg⟩, r2, st'⟩ := R5
            dsimp only [Lt.val, Lt.cells] at hE KT KR
            have HO := hide hO
            clear hO
            go_wp2_with fail
            refine KT.out.mono ?_
            rintro e' w6 ⟨rfl, F6, h6, l6⟩
            have HR6 := hide (HR5.out.call h6 l6 HO.out (Nat.le_succ k))
            clear h6 l6 KT HR5 c0 c1 c2 c3 c4
            go_wp2_with fail
            have HR8 := hide (HR6.out.old HC.out (one_below w6 (.cells #[.int .u64 (yi : Int), .int .i64 ya, .int .i64 yb, .string ys, .int .i64 (yg : Int)] 41)))
            have HBx : Hid (Box (w6.alloc (.cells #[.int .u64 (yi : Int), .int .i64 ya, .int .i64 yb, .string ys, .int .i64 (yg : Int)] 41)) w6.heap.size #[.int .u64 (yi : Int), .int .i64 ya, .int .i64 yb, .string ys, .int .i64 (yg : Int)] 41 ∧ ¬ RF q vL vC w6.heap.size) := ⟨Box.new _ _ _, fun hf => (by have := HR6.out.on.ref.lt _ hf; omega)⟩
            clear HR6
            generalize w6.alloc (.cells #[.int .u64 (yi : Int), .int .i64 ya, .int .i64 yb, .string ys, .int .i64 (yg : Int)] 41) = w7 at *
            generalize w6.heap.size = Y at *
            refine (KR.out _ HR8.out.on.ref).mono ?_
            rintro e' w8 ⟨rfl, vL8, h8, l8⟩
            have HR9 := hide (HR8.out.turn HC.out h8 l8 HO.out (by omega))
            have hb9 := HBx.out.1.loc l8 HBx.out.2
            obtain ⟨y0, y1, y2, y3, y4⟩ := hb9.five
            have hYl := hb9.lt
            clear h8 l8 KR HR8 HBx hb9 HO
            go_wp2_with fail
            go_meet
            case rel => exact ⟨rfl, st', F6, vL8, vC, cuts, HR9.out.old HC.out (one_below _ _)⟩
          · as_aux_lemma =>
            have hx1 : xd = 7 := by simpa using ‹(xd == 7) = true›
            subst hx1
            have KR : Hid (Calls Try.prog 13 #[.pointer (some ⟨q, 0, none⟩)] W1 fun e w' => ∃ a c, e = .returned (.slice a st.ready.length c) ∧ IdsAt w' a st.ready ∧ Below W1.heap.size W1 w') := rReady q vL vC st cuts k W1 HR.out.on.ref HR.out.on.ok (by omega) (by have := HR.out.on.few; omega)
            have hrf : st.ready.length ≤ 4096 := by have := readyL_few st; rw [← ready_len] at this; have := HR.out.on.ok.few; omega
            have hcu := HR.out.on.few
            have HId : Hid (∀ i (h : i < st.ready.length), st.ready[i] < 18446744073709551616) := fun i h => by
              have hm : st.ready[i] ∈ st.ready := List.getElem_mem h
              obtain ⟨y, hy, e⟩ := List.mem_map.1 hm
              have := (HR.out.on.ok.ids y (mem_readyL.1 hy).1).2
              have := HR.out.on.ok.last
              omega
            refine KR.out.mono ?_
            rintro e' w5 ⟨ra, rc, rfl, hI, hb5⟩
            have HR5 := hide (HR.out.old HC.out hb5)
            have HI := hide hI
            clear hb5 KR HR c0 c1 c2 c3 c4 hI
            obtain ⟨c0, c1, c2, c3, c4⟩ := HR5.out.box.five
            generalize st.ready = R at *
            by_cases hr0 : 0 < R.length
            · have hMb := HId.out (xn % R.length) (Nat.mod_lt _ hr0)
              obtain ⟨rb, ro, rfl, hcell⟩ := HI.out.there hr0
              have hce := hcell (xn % R.length) (Nat.mod_lt _ hr0)
              generalize R[xn % R.length]'(Nat.mod_lt _ hr0) = M at *
              have hmod : ((xn : Int) % (R.length : Int)) = ((xn % R.length : Nat) : Int) := by omega
              have hmlt : xn % R.length < R.length := Nat.mod_lt _ hr0
              have hrz : (0 : Int) < (R.length : Int) := by omega
              have hrn : ¬ R.length = 0 := by omega
              have hrnz : ¬ (R.length : Int) = 0 := by omega
              have hcv : (R.length : Int) % 18446744073709551616 = (R.length : Int) := by omega
              clear hcell
              generalize hmm : xn % R.length = mm at *
              clear hmm
              have HMb := hide hMb
              clear hMb
              have KT := hide (HC.out.take p st F1 k M w5 HR5.out.on.net HR5.out.on.ok (fine150 hk150) HMb.out)
              have KR : Hid (∀ z, RAt z q vL vC st cuts → Calls Try.prog 15 #[.pointer (some ⟨q, 0, none⟩), .int .u64 (M : Int)] z fun e w' => e = .returned (.tuple #[(st.take M).1.val, .int .i64 (((st.take M).2.1 : Nat) : Int)]) ∧ ∃ vL', RAt w' q vL' vC (st.take M).2.2 cuts ∧ Loc (RF q vL vC) (RF q vL' vC) z w') := fun z hz => rTake q vL vC st cuts k M z hz HR5.out.on.ok (by omega)
              have hO := (HR5.out.on.ok.take M).more (Nat.le_succ k)
              have hE := eqL (st.take M).1
              generalize st.take M = R5 at *
              obtain ⟨⟨yi, ya, yb, ys, yg⟩, r2, st'⟩ := R5
              dsimp only [Lt.val, Lt.cells] at hE KT KR
              have HO := hide hO
              clear hO
              go_wp2_with fail
              refine KT.out.mono ?_
              rintro e' w6 ⟨rfl, F6, h6, l6⟩
              have HR6 := hide (HR5.out.call h6 l6 HO.out (Nat.le_succ k))
              clear h6 l6 KT HR5 c0 c1 c2 c3 c4 hce
              go_wp2_with fail
              have HR8 := hide (HR6.out.old HC.out (one_below w6 (.cells #[.int .u64 (yi : Int), .int .i64 ya, .int .i64 yb, .string ys, .int .i64 (yg : Int)] 41)))
              have HBx : Hid (Box (w6.alloc (.cells #[.int .u64 (yi : Int), .int .i64 ya, .int .i64 yb, .string ys, .int .i64 (yg : Int)] 41)) w6.heap.size #[.int .u64 (yi : Int), .int .i64 ya, .int .i64 yb, .string ys, .int .i64 (yg : Int)] 41 ∧ ¬ RF q vL vC w6.heap.size) := ⟨Box.new _ _ _, fun hf => (by have := HR6.out.on.ref.lt _ hf; omega)⟩
              clear HR6
              generalize w6.alloc (.cells #[.int .u64 (yi : Int), .int .i64 ya, .int .i64 yb, .string ys, .int .i64 (yg : Int)] 41) = w7 at *
              generalize w6.heap.size = Y at *
              refine (KR.out _ HR8.out.on.ref).mono ?_
              rintro e' w8 ⟨rfl, vL8, h8, l8⟩
              have HR9 := hide (HR8.out.turn HC.out h8 l8 HO.out (by omega))
              have hb9 := HBx.out.1.loc l8 HBx.out.2
              obtain ⟨y0, y1, y2, y3, y4⟩ := hb9.five
              have hYl := hb9.lt
              clear h8 l8 KR HR8 HBx hb9 HO
              go_wp2_with fail
              go_meet
              case rel => exact ⟨rfl, st', F6, vL8, vC, cuts, HR9.out.old HC.out (one_below _ _)⟩
            · have hrz : ¬ (0 : Int) < (R.length : Int) := by omega
              have KT := hide (HC.out.take p st F1 k xn w5 HR5.out.on.net HR5.out.on.ok (fine150 hk150) HXo.out.n)
              have KR : Hid (∀ z, RAt z q vL vC st cuts → Calls Try.prog 15 #[.pointer (some ⟨q, 0, none⟩), .int .u64 (xn : Int)] z fun e w' => e = .returned (.tuple #[(st.take xn).1.val, .int .i64 (((st.take xn).2.1 : Nat) : Int)]) ∧ ∃ vL', RAt w' q vL' vC (st.take xn).2.2 cuts ∧ Loc (RF q vL vC) (RF q vL' vC) z w') := fun z hz => rTake q vL vC st cuts k xn z hz HR5.out.on.ok (by omega)
              have hO := (HR5.out.on.ok.take xn).more (Nat.le_succ k)
              have hE := eqL (st.take xn).1
              generalize st.take xn = R5 at *
              obtain ⟨⟨yi, ya, yb, ys, yg⟩, r2, st'⟩ := R5
              dsimp only [Lt.val, Lt.cells] at hE KT KR
              have HO := hide hO
              clear hO
              go_wp2_with fail
              refine KT.out.mono ?_
              rintro e' w6 ⟨rfl, F6, h6, l6⟩
              have HR6 := hide (HR5.out.call h6 l6 HO.out (Nat.le_succ k))
              clear h6 l6 KT HR5 c0 c1 c2 c3 c4
              go_wp2_with fail
              have HR8 := hide (HR6.out.old HC.out (one_below w6 (.cells #[.int .u64 (yi : Int), .int .i64 ya, .int .i64 yb, .string ys, .int .i64 (yg : Int)] 41)))
              have HBx : Hid (Box (w6.alloc (.cells #[.int .u64 (yi : Int), .int .i64 ya, .int .i64 yb, .string ys, .int .i64 (yg : Int)] 41)) w6.heap.size #[.int .u64 (yi : Int), .int .i64 ya, .int .i64 yb, .string ys, .int .i64 (yg : Int)] 41 ∧ ¬ RF q vL vC w6.heap.size) := ⟨Box.new _ _ _, fun hf => (by have := HR6.out.on.ref.lt _ hf; omega)⟩
              clear HR6
              generalize w6.alloc (.cells #[.int .u64 (yi : Int), .int .i64 ya, .int .i64 yb, .string ys, .int .i64 (yg : Int)] 41) = w7 at *
              generalize w6.heap.size = Y at *
              refine (KR.out _ HR8.out.on.ref).mono ?_
              rintro e' w8 ⟨rfl, vL8, h8, l8⟩
              have HR9 := hide (HR8.out.turn HC.out h8 l8 HO.out (by omega))
              have hb9 := HBx.out.1.loc l8 HBx.out.2
              obtain ⟨y0, y1, y2, y3, y4⟩ := hb9.five
              have hYl := hb9.lt
              clear h8 l8 KR HR8 HBx hb9 HO
              go_wp2_with fail
              go_meet
              case rel => exact ⟨rfl, st', F6, vL8, vC, cuts, HR9.out.old HC.out (one_below _ _)⟩
          · as_aux_lemma =>
            have hO := HR.out.on.ok.double xn
            have KT := hide (HC.out.double p st F1 k xn W1 HR.out.on.net HR.out.on.ok (fine150 hk150) HXo.out.n)
            have KR : Hid (∀ z, RAt z q vL vC st cuts → Calls Try.prog 17 #[.pointer (some ⟨q, 0, none⟩), .int .u64 (xn : Int)] z fun e w' => e = .returned (.tuple #[.int .u64 (((st.double xn).1 : Nat) : Int), .int .i64 (((st.double xn).2.1 : Nat) : Int)]) ∧ ∃ vL', RAt w' q vL' vC (st.double xn).2.2 cuts ∧ Loc (RF q vL vC) (RF q vL' vC) z w') := fun z hz => rDouble q vL vC st cuts k xn z hz HR.out.on.ok (by omega)
            have hcu := HR.out.on.few
            generalize st.double xn = R at *
            obtain ⟨r1, r2, st'⟩ := R
            have HO := hide hO
            clear hO
            refine KT.out.mono ?_
            rintro e' w5 ⟨rfl, F5, h5, l5⟩
            have HR5 := hide (HR.out.call h5 l5 HO.out (Nat.le_succ k))
            clear h5 l5 KT HR c0 c1 c2 c3 c4
            obtain ⟨c0, c1, c2, c3, c4⟩ := HR5.out.box.five
            go_wp2_with fail
            refine (KR.out _ HR5.out.on.ref).mono ?_
            rintro e' w6 ⟨rfl, vL6, h6, l6⟩
            have HR6 := hide (HR5.out.turn HC.out h6 l6 HO.out (by omega))
            clear h6 l6 KR HR5 c0 c1 c2 c3 c4 HO
            go_wp2_with fail
            go_meet
            case rel => exact ⟨rfl, st', F5, vL6, vC, cuts, HR6.out⟩
          · as_aux_lemma =>
            have hO := (HR.out.on.ok.dropped xn).more (Nat.le_succ k)
            have KT : Hid (∀ z F, NAt z p st F → Calls Try.prog 18 #[.pointer (some ⟨p, 0, none⟩), .int .u64 (xn : Int)] z fun e v => e = .returned (.int .i64 (((st.drop xn).1 : Nat) : Int)) ∧ ∃ F', NAt v p (st.drop xn).2 F' ∧ Loc F F' z v) := fun z F hz => HC.out.drop p st F k xn z hz HR.out.on.ok (fine150 hk150) HXo.out.n
            have KR : Hid (∀ z, RAt z q vL vC st cuts → Calls Try.prog 19 #[.pointer (some ⟨q, 0, none⟩), .int .u64 (xn : Int)] z fun e w' => e = .returned (.int .i64 (((st.drop xn).1 : Nat) : Int)) ∧ ∃ vL', RAt w' q vL' vC (st.drop xn).2 cuts ∧ Loc (RF q vL vC) (RF q vL' vC) z w') := fun z hz => rDrop q vL vC st cuts k xn z hz HR.out.on.ok
            have hcu := HR.out.on.few
            have HK0 := hide (HR.out.old HC.out (below_drewN (Below.refl _ _) 1))
            change Hid (Tw NAt w.heap.size w W1.drew p q k st st F1 vL vC cuts X #[.int .i64 xd, .int .i64 xa, .int .i64 xb, .int .u64 (xn : Int), .string xs]) at HK0
            generalize st.drop xn = R at *
            obtain ⟨r1, st'⟩ := R
            have HO := hide hO
            clear hO HR
            refine wp_region_held_drew (S := fun z => z.cell? ⟨X, 3, none⟩ = some (.int .u64 (xn : Int))) (by kernel_rfl) (HK0.out.box.five.2.2.2.1) (fun hHeld => ?_)
            (try dsimp only at hHeld)
            refine takeAtQ 0 144 (v := ?v_r30x274_0) rfl rfl (by kernel_rfl) (by kernel_rfl) (by kernel_rfl) (fun _ _ _ h => h) (Or.inl ⟨by rfl, ?hy_r30x274_0⟩) (by assumption) ?rest_r30x274_0
            case hy_r30x274_0 => (intro w hSw; (try dsimp only at hSw); go_simp; first | done | with_reducible rfl)
            simp only [List.setIfInBounds_toArray, List.set_cons_succ, List.set_cons_zero]
            refine takeAtQ 1 145 (v := ?v_r30x274_1) rfl rfl (by kernel_rfl) (by kernel_rfl) (by kernel_rfl) (fun _ _ _ h => h) (Or.inl ⟨by rfl, ?hy_r30x274_1⟩) (by assumption) ?rest_r30x274_1
            case hy_r30x274_1 => (intro w hSw; (try dsimp only at hSw); go_simp; first | done | with_reducible rfl)
            simp only [List.setIfInBounds_toArray, List.set_cons_succ, List.set_cons_zero]
            refine takeAtQ 2 146 (v := ?v_r30x274_2) rfl rfl (by kernel_rfl) (by kernel_rfl) (by kernel_rfl) (fun _ _ _ h => h) (Or.inl ⟨by rfl, ?hy_r30x274_2⟩) (by assumption) ?rest_r30x274_2
            case hy_r30x274_2 => (intro w hSw; (try dsimp only at hSw); go_simp; first | done | with_reducible rfl)
            simp only [List.setIfInBounds_toArray, List.set_cons_succ, List.set_cons_zero]
            refine takeAtQ 4 148 (v := ?v_r30x274_4) rfl rfl (by kernel_rfl) (by kernel_rfl) (by kernel_rfl) (fun _ _ _ h => h) (Or.inl ⟨by rfl, ?hy_r30x274_4⟩) (by assumption) ?rest_r30x274_4
            case hy_r30x274_4 => (intro w hSw; (try dsimp only at hSw); go_simp; first | done | with_reducible rfl)
            simp only [List.setIfInBounds_toArray, List.set_cons_succ, List.set_cons_zero]
            refine takeAtQ 5 149 (v := ?v_r30x274_5) rfl rfl (by kernel_rfl) (by kernel_rfl) (by kernel_rfl) (fun _ _ _ h => h) (Or.inl ⟨by rfl, ?hy_r30x274_5⟩) (by assumption) ?rest_r30x274_5
            case hy_r30x274_5 => (intro w hSw; (try dsimp only at hSw); go_simp; first | done | with_reducible rfl)
            simp only [List.setIfInBounds_toArray, List.set_cons_succ, List.set_cons_zero]
            refine takeAtQ 6 150 (v := ?v_r30x274_6) rfl rfl (by kernel_rfl) (by kernel_rfl) (by kernel_rfl) (fun _ _ _ h => h) (Or.inl ⟨by rfl, ?hy_r30x274_6⟩) (by assumption) ?rest_r30x274_6
            case hy_r30x274_6 => (intro w hSw; (try dsimp only at hSw); go_simp; first | done | with_reducible rfl)
            simp only [List.setIfInBounds_toArray, List.set_cons_succ, List.set_cons_zero]
            refine wpAnyH_ready (rs := [3]) (by kernel_rfl) (by simp) ?_
            refine AllReadyH.cons (o := { dst := some 147, op := Go.Op.call { callee := Go.Callee.value (Go.Operand.func 18), args := #[Go.Operand.tmp 144, Go.Operand.tmp 146], argTypes := #[25, 29] }, type := 35, pos := "law.go:112", after := #[{ on := 0, ground := Go.Ground.data }, { on := 2, ground := Go.Ground.data }], guard := none }) rfl (fun K hK => ?_) AllReadyH.nil
            go_simp
            refine (KT.out _ _ HK0.out.on.net).mono ?_
            rintro e z1 ⟨rfl, F5, h5, l5⟩
            have HK1 := hide (HK0.out.call h5 l5 HO.out (Nat.le_succ k))
            clear h5 l5 HK0
            go_wp2_with fail
            refine hK.out _ _ (HK1.out.box.five.2.2.2.1) (fun hHeldN => ?_)
            clear hK K hHeld
            (try go_frame)
            have hHeld := hHeldN
            clear hHeldN
            (try dsimp only at hHeld)
            refine wpAnyH_ready (rs := [7]) (by kernel_rfl) (by simp) ?_
            refine AllReadyH.cons (o := { dst := some 151, op := Go.Op.call { callee := Go.Callee.value (Go.Operand.func 19), args := #[Go.Operand.tmp 148, Go.Operand.tmp 150], argTypes := #[27, 29] }, type := 35, pos := "law.go:112", after := #[{ on := 4, ground := Go.Ground.data }, { on := 6, ground := Go.Ground.data }, { on := 3, ground := Go.Ground.chain }], guard := none }) rfl (fun K hK => ?_) AllReadyH.nil
            go_simp
            refine (KR.out _ HK1.out.on.ref).mono ?_
            rintro e z2 ⟨rfl, vL6, h6, l6⟩
            have HK2 := hide (HK1.out.turn HC.out h6 l6 HO.out (by omega))
            clear h6 l6 HK1
            go_wp2_with fail
            refine hK.out _ _ (HK2.out.box.five.2.2.2.1) (fun hHeldN => ?_)
            clear hK K hHeld
            (try go_frame)
            have hHeld := hHeldN
            clear hHeldN
            (try dsimp only at hHeld)
            refine takeAtQ 8 152 (v := ?v_r30x274_8) rfl rfl (by kernel_rfl) (by kernel_rfl) (by kernel_rfl) (fun _ _ _ h => h) (Or.inl ⟨by rfl, ?hy_r30x274_8⟩) (by assumption) ?rest_r30x274_8
            case hy_r30x274_8 => (intro w hSw; (try dsimp only at hSw); go_simp; first | done | with_reducible rfl)
            simp only [List.setIfInBounds_toArray, List.set_cons_succ, List.set_cons_zero]
            refine takeAtQ 9 7 (v := ?v_r30x274_9) rfl rfl (by kernel_rfl) (by kernel_rfl) (by kernel_rfl) (fun _ _ _ h => h) (Or.inl ⟨by rfl, ?hy_r30x274_9⟩) (by assumption) ?rest_r30x274_9
            case hy_r30x274_9 => (intro w hSw; (try dsimp only at hSw); go_simp; first | done | with_reducible rfl)
            simp only [List.setIfInBounds_toArray, List.set_cons_succ, List.set_cons_zero]
            refine wpAnyH_done (by kernel_rfl) ?_ _
            clear hHeld
            clear KT KR HO c0 c1 c2 c3 c4
            go_wp2_with fail
            go_meet
            case rel => exact ⟨rfl, st', F5, vL6, vC, cuts, HK2.out⟩
          · as_aux_lemma =>
            have hO := (HR.out.on.ok.parted xa xb).more (Nat.le_succ k)
            have KT : Hid (∀ z F, NAt z p st F → Calls Try.prog 20 #[.pointer (some ⟨p, 0, none⟩), .int .i64 xa, .int .i64 xb] z fun e v => e = .returned (.int .i64 (((st.part xa xb).1 : Nat) : Int)) ∧ ∃ F', NAt v p (st.part xa xb).2 F' ∧ Loc F F' z v) := fun z F hz => HC.out.part p st F k xa xb z hz HR.out.on.ok (fine150 hk150) HXo.out.a HXo.out.b
            have KR : Hid (∀ z, RAt z q vL vC st cuts → Calls Try.prog 21 #[.pointer (some ⟨q, 0, none⟩), .int .i64 xa, .int .i64 xb] z fun e w' => e = .returned (.int .i64 (((st.part xa xb).1 : Nat) : Int)) ∧ ∃ vC' cuts', cuts'.length ≤ cuts.length + 1 ∧ RAt w' q vL vC' (st.part xa xb).2 cuts' ∧ Loc (RF q vL vC) (RF q vL vC') z w') := fun z hz => rPart q vL vC st cuts k xa xb z hz HR.out.on.ok (by have := HR.out.on.few; omega)
            have hcu := HR.out.on.few
            have HK0 := hide (HR.out.old HC.out (below_drewN (Below.refl _ _) 1))
            change Hid (Tw NAt w.heap.size w W1.drew p q k st st F1 vL vC cuts X #[.int .i64 xd, .int .i64 xa, .int .i64 xb, .int .u64 (xn : Int), .string xs]) at HK0
            generalize st.part xa xb = R at *
            obtain ⟨r1, st'⟩ := R
            have HO := hide hO
            clear hO HR
            refine wp_region_held_drew (S := fun z => z.cell? ⟨X, 1, none⟩ = some (.int .i64 xa) ∧ z.cell? ⟨X, 2, none⟩ = some (.int .i64 xb)) (by kernel_rfl) (⟨HK0.out.box.five.2.1, HK0.out.box.five.2.2.1⟩) (fun hHeld => ?_)
            (try dsimp only at hHeld)
            refine takeAtQ 0 155 (v := ?v_r32x345_0) rfl rfl (by kernel_rfl) (by kernel_rfl) (by kernel_rfl) (fun _ _ _ h => h) (Or.inl ⟨by rfl, ?hy_r32x345_0⟩) (by assumption) ?rest_r32x345_0
            case hy_r32x345_0 => (intro w hSw; (try dsimp only at hSw); go_simp; first | done | with_reducible rfl)
            simp only [List.setIfInBounds_toArray, List.set_cons_succ, List.set_cons_zero]
            refine takeAtQ 1 156 (v := ?v_r32x345_1) rfl rfl (by kernel_rfl) (by kernel_rfl) (by kernel_rfl) (fun _ _ _ h => h) (Or.inl ⟨by rfl, ?hy_r32x345_1⟩) (by assumption) ?rest_r32x345_1
            case hy_r32x345_1 => (intro w hSw; (try dsimp only at hSw); go_simp; first | done | with_reducible rfl)
            simp only [List.setIfInBounds_toArray, List.set_cons_succ, List.set_cons_zero]
            refine takeAtQ 2 157 (v := ?v_r32x345_2) rfl rfl (by kernel_rfl) (by kernel_rfl) (by kernel_rfl) (fun _ _ _ h => h) (Or.inl ⟨by rfl, ?hy_r32x345_2⟩) (by assumption) ?rest_r32x345_2
            case hy_r32x345_2 => (intro w hSw; (try dsimp only at hSw); go_simp; first | done | with_reducible rfl)
            simp only [List.setIfInBounds_toArray, List.set_cons_succ, List.set_cons_zero]
            refine takeAtQ 3 158 (v := ?v_r32x345_3) rfl rfl (by kernel_rfl) (by kernel_rfl) (by kernel_rfl) (fun _ _ _ h => h) (Or.inl ⟨by rfl, ?hy_r32x345_3⟩) (by assumption) ?rest_r32x345_3
            case hy_r32x345_3 => (intro w hSw; (try dsimp only at hSw); go_simp; first | done | with_reducible rfl)
            simp only [List.setIfInBounds_toArray, List.set_cons_succ, List.set_cons_zero]
            refine takeAtQ 4 159 (v := ?v_r32x345_4) rfl rfl (by kernel_rfl) (by kernel_rfl) (by kernel_rfl) (fun _ _ _ h => h) (Or.inl ⟨by rfl, ?hy_r32x345_4⟩) (by assumption) ?rest_r32x345_4
            case hy_r32x345_4 => (intro w hSw; (try dsimp only at hSw); go_simp; first | done | with_reducible rfl)
            simp only [List.setIfInBounds_toArray, List.set_cons_succ, List.set_cons_zero]
            refine takeAtQ 6 161 (v := ?v_r32x345_6) rfl rfl (by kernel_rfl) (by kernel_rfl) (by kernel_rfl) (fun _ _ _ h => h) (Or.inl ⟨by rfl, ?hy_r32x345_6⟩) (by assumption) ?rest_r32x345_6
            case hy_r32x345_6 => (intro w hSw; (try dsimp only at hSw); go_simp; first | done | with_reducible rfl)
            simp only [List.setIfInBounds_toArray, List.set_cons_succ, List.set_cons_zero]
            refine takeAtQ 7 162 (v := ?v_r32x345_7) rfl rfl (by kernel_rfl) (by kernel_rfl) (by kernel_rfl) (fun _ _ _ h => h) (Or.inl ⟨by rfl, ?hy_r32x345_7⟩) (by assumption) ?rest_r32x345_7
            case hy_r32x345_7 => (intro w hSw; (try dsimp only at hSw); go_simp; first | done | with_reducible rfl)
            simp only [List.setIfInBounds_toArray, List.set_cons_succ, List.set_cons_zero]
            refine takeAtQ 8 163 (v := ?v_r32x345_8) rfl rfl (by kernel_rfl) (by kernel_rfl) (by kernel_rfl) (fun _ _ _ h => h) (Or.inl ⟨by rfl, ?hy_r32x345_8⟩) (by assumption) ?rest_r32x345_8
            case hy_r32x345_8 => (intro w hSw; (try dsimp only at hSw); go_simp; first | done | with_reducible rfl)
            simp only [List.setIfInBounds_toArray, List.set_cons_succ, List.set_cons_zero]
            refine takeAtQ 9 164 (v := ?v_r32x345_9) rfl rfl (by kernel_rfl) (by kernel_rfl) (by kernel_rfl) (fun _ _ _ h => h) (Or.inl ⟨by rfl, ?hy_r32x345_9⟩) (by assumption) ?rest_r32x345_9
            case hy_r32x345_9 => (intro w hSw; (try dsimp only at hSw); go_simp; first | done | with_reducible rfl)
            simp only [List.setIfInBounds_toArray, List.set_cons_succ, List.set_cons_zero]
            refine takeAtQ 10 165 (v := ?v_r32x345_10) rfl rfl (by kernel_rfl) (by kernel_rfl) (by kernel_rfl) (fun _ _ _ h => h) (Or.inl ⟨by rfl, ?hy_r32x345_10⟩) (by assumption) ?rest_r32x345_10
            case hy_r32x345_10 => (intro w hSw; (try dsimp only at hSw); go_simp; first | done | with_reducible rfl)
            simp only [List.setIfInBounds_toArray, List.set_cons_succ, List.set_cons_zero]
            refine wpAnyH_ready (rs := [5]) (by kernel_rfl) (by simp) ?_
            refine AllReadyH.cons (o := { dst := some 160, op := Go.Op.call { callee := Go.Callee.value (Go.Operand.func 20), args := #[Go.Operand.tmp 155, Go.Operand.tmp 157, Go.Operand.tmp 159], argTypes := #[25, 3, 3] }, type := 35, pos := "law.go:114", after := #[{ on := 0, ground := Go.Ground.data }, { on := 2, ground := Go.Ground.data }, { on := 4, ground := Go.Ground.data }], guard := none }) rfl (fun K hK => ?_) AllReadyH.nil
            go_simp
            refine (KT.out _ _ HK0.out.on.net).mono ?_
            rintro e z1 ⟨rfl, F5, h5, l5⟩
            have HK1 := hide (HK0.out.call h5 l5 HO.out (Nat.le_succ k))
            clear h5 l5 HK0
            go_wp2_with fail
            refine hK.out _ _ (⟨HK1.out.box.five.2.1, HK1.out.box.five.2.2.1⟩) (fun hHeldN => ?_)
            clear hK K hHeld
            (try go_frame)
            have hHeld := hHeldN
            clear hHeldN
            (try dsimp only at hHeld)
            refine wpAnyH_ready (rs := [11]) (by kernel_rfl) (by simp) ?_
            refine AllReadyH.cons (o := { dst := some 166, op := Go.Op.call { callee := Go.Callee.value (Go.Operand.func 21), args := #[Go.Operand.tmp 161, Go.Operand.tmp 163, Go.Operand.tmp 165], argTypes := #[27, 3, 3] }, type := 35, pos := "law.go:114", after := #[{ on := 6, ground := Go.Ground.data }, { on := 8, ground := Go.Ground.data }, { on := 10, ground := Go.Ground.data }, { on := 5, ground := Go.Ground.chain }], guard := none }) rfl (fun K hK => ?_) AllReadyH.nil
            go_simp
            refine (KR.out _ HK1.out.on.ref).mono ?_
            rintro e z2 ⟨rfl, vC6, cuts6, hc6, h6, l6⟩
            have HK2 := hide (HK1.out.turn HC.out h6 l6 HO.out (by omega))
            clear h6 l6 HK1
            go_wp2_with fail
            refine hK.out _ _ (⟨HK2.out.box.five.2.1, HK2.out.box.five.2.2.1⟩) (fun hHeldN => ?_)
            clear hK K hHeld
            (try go_frame)
            have hHeld := hHeldN
            clear hHeldN
            (try dsimp only at hHeld)
            refine takeAtQ 12 167 (v := ?v_r32x345_12) rfl rfl (by kernel_rfl) (by kernel_rfl) (by kernel_rfl) (fun _ _ _ h => h) (Or.inl ⟨by rfl, ?hy_r32x345_12⟩) (by assumption) ?rest_r32x345_12
            case hy_r32x345_12 => (intro w hSw; (try dsimp only at hSw); go_simp; first | done | with_reducible rfl)
            simp only [List.setIfInBounds_toArray, List.set_cons_succ, List.set_cons_zero]
            refine takeAtQ 13 7 (v := ?v_r32x345_13) rfl rfl (by kernel_rfl) (by kernel_rfl) (by kernel_rfl) (fun _ _ _ h => h) (Or.inl ⟨by rfl, ?hy_r32x345_13⟩) (by assumption) ?rest_r32x345_13
            case hy_r32x345_13 => (intro w hSw; (try dsimp only at hSw); go_simp; first | done | with_reducible rfl)
            simp only [List.setIfInBounds_toArray, List.set_cons_succ, List.set_cons_zero]
            refine wpAnyH_done (by kernel_rfl) ?_ _
            clear hHeld
            clear KT KR HO c0 c1 c2 c3 c4
            go_wp2_with fail
            go_meet
            case rel => exact ⟨rfl, st', F5, vL, vC6, cuts6, HK2.out⟩
          · as_aux_lemma =>
            have hO := (HR.out.on.ok.joined xa xb).more (Nat.le_succ k)
            have KT : Hid (∀ z F, NAt z p st F → Calls Try.prog 22 #[.pointer (some ⟨p, 0, none⟩), .int .i64 xa, .int .i64 xb] z fun e v => e = .returned (.int .i64 (((st.join xa xb).1 : Nat) : Int)) ∧ ∃ F', NAt v p (st.join xa xb).2 F' ∧ Loc F F' z v) := fun z F hz => HC.out.join p st F k xa xb z hz HR.out.on.ok (fine150 hk150) HXo.out.a HXo.out.b
            have KR : Hid (∀ z, RAt z q vL vC st cuts → Calls Try.prog 23 #[.pointer (some ⟨q, 0, none⟩), .int .i64 xa, .int .i64 xb] z fun e w' => e = .returned (.int .i64 (((st.join xa xb).1 : Nat) : Int)) ∧ ∃ vC' cuts', cuts'.length ≤ cuts.length + 1 ∧ RAt w' q vL vC' (st.join xa xb).2 cuts' ∧ Loc (RF q vL vC) (RF q vL vC') z w') := fun z hz => rJoin q vL vC st cuts xa xb z hz (by have := HR.out.on.few; omega)
            have hcu := HR.out.on.few
            have HK0 := hide (HR.out.old HC.out (below_drewN (Below.refl _ _) 1))
            change Hid (Tw NAt w.heap.size w W1.drew p q k st st F1 vL vC cuts X #[.int .i64 xd, .int .i64 xa, .int .i64 xb, .int .u64 (xn : Int), .string xs]) at HK0
            generalize st.join xa xb = R at *
            obtain ⟨r1, st'⟩ := R
            have HO := hide hO
            clear hO HR
            refine wp_region_held_drew (S := fun z => z.cell? ⟨X, 1, none⟩ = some (.int .i64 xa) ∧ z.cell? ⟨X, 2, none⟩ = some (.int .i64 xb)) (by kernel_rfl) (⟨HK0.out.box.five.2.1, HK0.out.box.five.2.2.1⟩) (fun hHeld => ?_)
            (try dsimp only at hHeld)
            refine takeAtQ 0 170 (v := ?v_r34x428_0) rfl rfl (by kernel_rfl) (by kernel_rfl) (by kernel_rfl) (fun _ _ _ h => h) (Or.inl ⟨by rfl, ?hy_r34x428_0⟩) (by assumption) ?rest_r34x428_0
            case hy_r34x428_0 => (intro w hSw; (try dsimp only at hSw); go_simp; first | done | with_reducible rfl)
            simp only [List.setIfInBounds_toArray, List.set_cons_succ, List.set_cons_zero]
            refine takeAtQ 1 171 (v := ?v_r34x428_1) rfl rfl (by kernel_rfl) (by kernel_rfl) (by kernel_rfl) (fun _ _ _ h => h) (Or.inl ⟨by rfl, ?hy_r34x428_1⟩) (by assumption) ?rest_r34x428_1
            case hy_r34x428_1 => (intro w hSw; (try dsimp only at hSw); go_simp; first | done | with_reducible rfl)
            simp only [List.setIfInBounds_toArray, List.set_cons_succ, List.set_cons_zero]
            refine takeAtQ 2 172 (v := ?v_r34x428_2) rfl rfl (by kernel_rfl) (by kernel_rfl) (by kernel_rfl) (fun _ _ _ h => h) (Or.inl ⟨by rfl, ?hy_r34x428_2⟩) (by assumption) ?rest_r34x428_2
            case hy_r34x428_2 => (intro w hSw; (try dsimp only at hSw); go_simp; first | done | with_reducible rfl)
            simp only [List.setIfInBounds_toArray, List.set_cons_succ, List.set_cons_zero]
            refine takeAtQ 3 173 (v := ?v_r34x428_3) rfl rfl (by kernel_rfl) (by kernel_rfl) (by kernel_rfl) (fun _ _ _ h => h) (Or.inl ⟨by rfl, ?hy_r34x428_3⟩) (by assumption) ?rest_r34x428_3
            case hy_r34x428_3 => (intro w hSw; (try dsimp only at hSw); go_simp; first | done | with_reducible rfl)
            simp only [List.setIfInBounds_toArray, List.set_cons_succ, List.set_cons_zero]
            refine takeAtQ 4 174 (v := ?v_r34x428_4) rfl rfl (by kernel_rfl) (by kernel_rfl) (by kernel_rfl) (fun _ _ _ h => h) (Or.inl ⟨by rfl, ?hy_r34x428_4⟩) (by assumption) ?rest_r34x428_4
            case hy_r34x428_4 => (intro w hSw; (try dsimp only at hSw); go_simp; first | done | with_reducible rfl)
            simp only [List.setIfInBounds_toArray, List.set_cons_succ, List.set_cons_zero]
            refine takeAtQ 6 176 (v := ?v_r34x428_6) rfl rfl (by kernel_rfl) (by kernel_rfl) (by kernel_rfl) (fun _ _ _ h => h) (Or.inl ⟨by rfl, ?hy_r34x428_6⟩) (by assumption) ?rest_r34x428_6
            case hy_r34x428_6 => (intro w hSw; (try dsimp only at hSw); go_simp; first | done | with_reducible rfl)
            simp only [List.setIfInBounds_toArray, List.set_cons_succ, List.set_cons_zero]
            refine takeAtQ 7 177 (v := ?v_r34x428_7) rfl rfl (by kernel_rfl) (by kernel_rfl) (by kernel_rfl) (fun _ _ _ h => h) (Or.inl ⟨by rfl, ?hy_r34x428_7⟩) (by assumption) ?rest_r34x428_7
            case hy_r34x428_7 => (intro w hSw; (try dsimp only at hSw); go_simp; first | done | with_reducible rfl)
            simp only [List.setIfInBounds_toArray, List.set_cons_succ, List.set_cons_zero]
            refine takeAtQ 8 178 (v := ?v_r34x428_8) rfl rfl (by kernel_rfl) (by kernel_rfl) (by kernel_rfl) (fun _ _ _ h => h) (Or.inl ⟨by rfl, ?hy_r34x428_8⟩) (by assumption) ?rest_r34x428_8
            case hy_r34x428_8 => (intro w hSw; (try dsimp only at hSw); go_simp; first | done | with_reducible rfl)
            simp only [List.setIfInBounds_toArray, List.set_cons_succ, List.set_cons_zero]
            refine takeAtQ 9 179 (v := ?v_r34x428_9) rfl rfl (by kernel_rfl) (by kernel_rfl) (by kernel_rfl) (fun _ _ _ h => h) (Or.inl ⟨by rfl, ?hy_r34x428_9⟩) (by assumption) ?rest_r34x428_9
            case hy_r34x428_9 => (intro w hSw; (try dsimp only at hSw); go_simp; first | done | with_reducible rfl)
            simp only [List.setIfInBounds_toArray, List.set_cons_succ, List.set_cons_zero]
            refine takeAtQ 10 180 (v := ?v_r34x428_10) rfl rfl (by kernel_rfl) (by kernel_rfl) (by kernel_rfl) (fun _ _ _ h => h) (Or.inl ⟨by rfl, ?hy_r34x428_10⟩) (by assumption) ?rest_r34x428_10
            case hy_r34x428_10 => (intro w hSw; (try dsimp only at hSw); go_simp; first | done | with_reducible rfl)
            simp only [List.setIfInBounds_toArray, List.set_cons_succ, List.set_cons_zero]
            refine wpAnyH_ready (rs := [5]) (by kernel_rfl) (by simp) ?_
            refine AllReadyH.cons (o := { dst := some 175, op := Go.Op.call { callee := Go.Callee.value (Go.Operand.func 22), args := #[Go.Operand.tmp 170, Go.Operand.tmp 172, Go.Operand.tmp 174], argTypes := #[25, 3, 3] }, type := 35, pos := "law.go:116", after := #[{ on := 0, ground := Go.Ground.data }, { on := 2, ground := Go.Ground.data }, { on := 4, ground := Go.Ground.data }], guard := none }) rfl (fun K hK => ?_) AllReadyH.nil
            go_simp
            refine (KT.out _ _ HK0.out.on.net).mono ?_
            rintro e z1 ⟨rfl, F5, h5, l5⟩
            have HK1 := hide (HK0.out.call h5 l5 HO.out (Nat.le_succ k))
            clear h5 l5 HK0
            go_wp2_with fail
            refine hK.out _ _ (⟨HK1.out.box.five.2.1, HK1.out.box.five.2.2.1⟩) (fun hHeldN => ?_)
            clear hK K hHeld
            (try go_frame)
            have hHeld := hHeldN
            clear hHeldN
            (try dsimp only at hHeld)
            refine wpAnyH_ready (rs := [11]) (by kernel_rfl) (by simp) ?_
            refine AllReadyH.cons (o := { dst := some 181, op := Go.Op.call { callee := Go.Callee.value (Go.Operand.func 23), args := #[Go.Operand.tmp 176, Go.Operand.tmp 178, Go.Operand.tmp 180], argTypes := #[27, 3, 3] }, type := 35, pos := "law.go:116", after := #[{ on := 6, ground := Go.Ground.data }, { on := 8, ground := Go.Ground.data }, { on := 10, ground := Go.Ground.data }, { on := 5, ground := Go.Ground.chain }], guard := none }) rfl (fun K hK => ?_) AllReadyH.nil
            go_simp
            refine (KR.out _ HK1.out.on.ref).mono ?_
            rintro e z2 ⟨rfl, vC6, cuts6, hc6, h6, l6⟩
            have HK2 := hide (HK1.out.turn HC.out h6 l6 HO.out (by omega))
            clear h6 l6 HK1
            go_wp2_with fail
            refine hK.out _ _ (⟨HK2.out.box.five.2.1, HK2.out.box.five.2.2.1⟩) (fun hHeldN => ?_)
            clear hK K hHeld
            (try go_frame)
            have hHeld := hHeldN
            clear hHeldN
            (try dsimp only at hHeld)
            refine takeAtQ 12 182 (v := ?v_r34x428_12) rfl rfl (by kernel_rfl) (by kernel_rfl) (by kernel_rfl) (fun _ _ _ h => h) (Or.inl ⟨by rfl, ?hy_r34x428_12⟩) (by assumption) ?rest_r34x428_12
            case hy_r34x428_12 => (intro w hSw; (try dsimp only at hSw); go_simp; first | done | with_reducible rfl)
            simp only [List.setIfInBounds_toArray, List.set_cons_succ, List.set_cons_zero]
            refine takeAtQ 13 7 (v := ?v_r34x428_13) rfl rfl (by kernel_rfl) (by kernel_rfl) (by kernel_rfl) (fun _ _ _ h => h) (Or.inl ⟨by rfl, ?hy_r34x428_13⟩) (by assumption) ?rest_r34x428_13
            case hy_r34x428_13 => (intro w hSw; (try dsimp only at hSw); go_simp; first | done | with_reducible rfl)
            simp only [List.setIfInBounds_toArray, List.set_cons_succ, List.set_cons_zero]
            refine wpAnyH_done (by kernel_rfl) ?_ _
            clear hHeld
            clear KT KR HO c0 c1 c2 c3 c4
            go_wp2_with fail
            go_meet
            case rel => exact ⟨rfl, st', F5, vL, vC6, cuts6, HK2.out⟩
          · as_aux_lemma =>
            have hO := HR.out.on.ok.age
            have KT := hide (HC.out.age p st F1 k W1 HR.out.on.net HR.out.on.ok (fine150 hk150))
            have KR : Hid (∀ z, RAt z q vL vC st cuts → Calls Try.prog 25 #[.pointer (some ⟨q, 0, none⟩)] z fun e w' => e = .returned (.tuple #[]) ∧ RAt w' q vL vC (ageN st) cuts ∧ Loc (RF q vL vC) (RF q vL vC) z w') := fun z hz => rAge q vL vC st cuts k z hz HR.out.on.ok (by omega)
            have hcu := HR.out.on.few
            generalize ageN st = st' at *
            have HO := hide hO
            clear hO
            refine KT.out.mono ?_
            rintro e' w5 ⟨rfl, F5, h5, l5⟩
            have HR5 := hide (HR.out.call h5 l5 HO.out (Nat.le_succ k))
            clear h5 l5 KT HR c0 c1 c2 c3 c4
            go_wp2_with fail
            refine (KR.out _ HR5.out.on.ref).mono ?_
            rintro e' w6 ⟨rfl, h6, l6⟩
            have HR6 := hide (HR5.out.turn HC.out h6 l6 HO.out (by omega))
            clear h6 l6 KR HR5 HO
            go_wp2_with fail
            go_meet
            case rel => exact ⟨rfl, st', F5, vL, vC, cuts, HR6.out⟩
          · as_aux_lemma =>
            go_wp2_with fail
            go_meet
            case rel => exact ⟨rfl, st, F1, vL, vC, cuts, HR.out.more (Nat.le_succ k)⟩
        obtain ⟨rfl, st2, F2, vL2, vC2, cuts2, hrd⟩ := hcut
        obtain ⟨aL, cL, rfl, -⟩ := hrd.on.ref.letters
        have HK0 := hide (hrd.old HC.out (below_drewN (Below.refl _ _) 1))
        change Hid (Tw NAt w.heap.size w wc.drew p q (k + 1) st2 st2 F2 (.slice aL st2.l.length cL) vC2 cuts2 X #[.int .i64 xd, .int .i64 xa, .int .i64 xb, .int .u64 (xn : Int), .string xs]) at HK0
        have hfew2 := HK0.out.on.ok.few
        have hrf : st2.ready.length ≤ 4096 := by have := readyL_few st2; rw [← ready_len] at this; omega
        have KLen : Hid (∀ z, Tw NAt w.heap.size w z p q (k + 1) st2 st2 F2 (.slice aL st2.l.length cL) vC2 cuts2 X #[.int .i64 xd, .int .i64 xa, .int .i64 xb, .int .u64 (xn : Int), .string xs] → Calls Try.prog 26 #[.pointer (some ⟨p, 0, none⟩)] z fun e v => e = .returned (.int .i64 (st2.l.length : Int)) ∧ Below z.heap.size z v) := fun z hz => HC.out.len p st2 F2 (k + 1) z hz.on.net hz.on.ok (fine150 (by omega))
        have KLst : Hid (∀ z, Tw NAt w.heap.size w z p q (k + 1) st2 st2 F2 (.slice aL st2.l.length cL) vC2 cuts2 X #[.int .i64 xd, .int .i64 xa, .int .i64 xb, .int .u64 (xn : Int), .string xs] → Calls Try.prog 28 #[.pointer (some ⟨p, 0, none⟩)] z fun e v => ∃ a c, e = .returned (.slice a st2.l.length c) ∧ LettersAt v a st2.l ∧ Below z.heap.size z v) := fun z hz => HC.out.list p st2 F2 (k + 1) z hz.on.net hz.on.ok (fine150 (by omega))
        have KLet : Hid (∀ z a c, Tw NAt w.heap.size w z p q (k + 1) st2 st2 F2 (.slice aL st2.l.length cL) vC2 cuts2 X #[.int .i64 xd, .int .i64 xa, .int .i64 xb, .int .u64 (xn : Int), .string xs] → LettersAt z a st2.l → Calls Try.prog 27 #[.slice a st2.l.length c, .slice aL st2.l.length cL] z fun e v => e = .returned (.bool true) ∧ Below z.heap.size z v) := fun z a c hz hl => by
          obtain ⟨a2, c2, e2, h2⟩ := hz.on.ref.letters
          cases e2
          exact letters_same a aL c cL st2.l z hl h2 (by omega)
        have KRdy : Hid (∀ z, Tw NAt w.heap.size w z p q (k + 1) st2 st2 F2 (.slice aL st2.l.length cL) vC2 cuts2 X #[.int .i64 xd, .int .i64 xa, .int .i64 xb, .int .u64 (xn : Int), .string xs] → Calls Try.prog 30 #[.pointer (some ⟨p, 0, none⟩)] z fun e v => ∃ a c, e = .returned (.slice a st2.ready.length c) ∧ IdsAt v a st2.ready ∧ Below z.heap.size z v) := fun z hz => HC.out.ready p st2 F2 (k + 1) z hz.on.net hz.on.ok (fine150 (by omega))
        have KRef : Hid (∀ z, Tw NAt w.heap.size w z p q (k + 1) st2 st2 F2 (.slice aL st2.l.length cL) vC2 cuts2 X #[.int .i64 xd, .int .i64 xa, .int .i64 xb, .int .u64 (xn : Int), .string xs] → Calls Try.prog 13 #[.pointer (some ⟨q, 0, none⟩)] z fun e v => ∃ a c, e = .returned (.slice a st2.ready.length c) ∧ IdsAt v a st2.ready ∧ Below z.heap.size z v) := fun z hz => rReady q _ vC2 st2 cuts2 (k + 1) z hz.on.ref hz.on.ok (by omega) (by have := hz.on.few; omega)
        have KU : Hid (∀ z a b c d, IdsAt z a st2.ready → IdsAt z b st2.ready → Calls Try.prog 29 #[.slice a st2.ready.length c, .slice b st2.ready.length d] z fun e v => e = .returned (.bool true) ∧ Below z.heap.size z v) := fun z a b c d h1 h2 => uints_same a b c d st2.ready z h1 h2 (by omega)
        have KP : Hid (∀ z, Tw NAt w.heap.size w z p q (k + 1) st2 st2 F2 (.slice aL st2.l.length cL) vC2 cuts2 X #[.int .i64 xd, .int .i64 xa, .int .i64 xb, .int .u64 (xn : Int), .string xs] → Calls Try.prog 31 #[.pointer (some ⟨p, 0, none⟩), .int .i64 xa, .int .i64 xb] z fun e v => e = .returned (.bool (st2.p xa xb)) ∧ Below z.heap.size z v) := fun z hz => HC.out.parted p st2 F2 (k + 1) xa xb z hz.on.net hz.on.ok (fine150 (by omega)) HXo.out.a HXo.out.b
        have KQ : Hid (∀ z, Tw NAt w.heap.size w z p q (k + 1) st2 st2 F2 (.slice aL st2.l.length cL) vC2 cuts2 X #[.int .i64 xd, .int .i64 xa, .int .i64 xb, .int .u64 (xn : Int), .string xs] → Calls Try.prog 32 #[.pointer (some ⟨q, 0, none⟩), .int .i64 xa, .int .i64 xb] z fun e v => e = .returned (.bool (st2.p xa xb)) ∧ Below z.heap.size z v) := fun z hz => (rParted q _ vC2 st2 cuts2 xa xb z hz.on.ref (by have := hz.on.few; omega)).mono (fun e v h => ⟨h.1, h.2 ▸ Below.refl _ _⟩)
        have HSS : Hid (∀ z, Tw NAt w.heap.size w z p q (k + 1) st2 st2 F2 (.slice aL st2.l.length cL) vC2 cuts2 X #[.int .i64 xd, .int .i64 xa, .int .i64 xb, .int .u64 (xn : Int), .string xs] → z.cell? ⟨q, 0, none⟩ = some (.slice aL st2.l.length cL) ∧ z.cell? ⟨X, 1, none⟩ = some (.int .i64 xa) ∧ z.cell? ⟨X, 2, none⟩ = some (.int .i64 xb)) := fun z hz => ⟨hz.on.ref.cells.1, hz.box.five.2.1, hz.box.five.2.2.1⟩
        clear hrd HXo HR c0 c1 c2 c3 c4 hfew
        generalize st2.p xa xb = pt at *
        generalize hRd : st2.ready = RD at *
        go_wp2_with fail
        refine wp_region_held_drew (S := fun z => z.cell? ⟨q, 0, none⟩ = some (.slice aL st2.l.length cL) ∧ z.cell? ⟨X, 1, none⟩ = some (.int .i64 xa) ∧ z.cell? ⟨X, 2, none⟩ = some (.int .i64 xb)) (by kernel_rfl) (HSS.out _ HK0.out) (fun hHeld => ?_)
        (try dsimp only at hHeld)
        refine takeAtQ 0 189 (v := ?v_r38x546_0) rfl rfl (by kernel_rfl) (by kernel_rfl) (by kernel_rfl) (fun _ _ _ h => h) (Or.inl ⟨by rfl, ?hy_r38x546_0⟩) (by assumption) ?rest_r38x546_0
        case hy_r38x546_0 => (intro w hSw; (try dsimp only at hSw); go_simp; first | done | with_reducible rfl)
        simp only [List.setIfInBounds_toArray, List.set_cons_succ, List.set_cons_zero]
        refine takeAtQ 1 190 (v := ?v_r38x546_1) rfl rfl (by kernel_rfl) (by kernel_rfl) (by kernel_rfl) (fun _ _ _ h => h) (Or.inl ⟨by rfl, ?hy_r38x546_1⟩) (by assumption) ?rest_r38x546_1
        case hy_r38x546_1 => (intro w hSw; (try dsimp only at hSw); go_simp; first | done | with_reducible rfl)
        simp only [List.setIfInBounds_toArray, List.set_cons_succ, List.set_cons_zero]
        refine takeAtQ 2 191 (v := ?v_r38x546_2) rfl rfl (by kernel_rfl) (by kernel_rfl) (by kernel_rfl) (fun _ _ _ h => h) (Or.inl ⟨by rfl, ?hy_r38x546_2⟩) (by assumption) ?rest_r38x546_2
        case hy_r38x546_2 => (intro w hSw; (try dsimp only at hSw); go_simp; first | done | with_reducible rfl)
        simp only [List.setIfInBounds_toArray, List.set_cons_succ, List.set_cons_zero]
        refine takeAtQ 3 192 (v := ?v_r38x546_3) rfl rfl (by kernel_rfl) (by kernel_rfl) (by kernel_rfl) (fun _ _ _ h => h) (Or.inl ⟨by rfl, ?hy_r38x546_3⟩) (by assumption) ?rest_r38x546_3
        case hy_r38x546_3 => (intro w hSw; (try dsimp only at hSw); go_simp; first | done | with_reducible rfl)
        simp only [List.setIfInBounds_toArray, List.set_cons_succ, List.set_cons_zero]
        refine takeAtQ 5 194 (v := ?v_r38x546_5) rfl rfl (by kernel_rfl) (by kernel_rfl) (by kernel_rfl) (fun _ _ _ h => h) (Or.inl ⟨by rfl, ?hy_r38x546_5⟩) (by assumption) ?rest_r38x546_5
        case hy_r38x546_5 => (intro w hSw; (try dsimp only at hSw); go_simp; first | done | with_reducible rfl)
        simp only [List.setIfInBounds_toArray, List.set_cons_succ, List.set_cons_zero]
        refine takeAtQ 6 195 (v := ?v_r38x546_6) rfl rfl (by kernel_rfl) (by kernel_rfl) (by kernel_rfl) (fun _ _ _ h => h) (Or.inl ⟨by rfl, ?hy_r38x546_6⟩) (by assumption) ?rest_r38x546_6
        case hy_r38x546_6 => (intro w hSw; (try dsimp only at hSw); go_simp; first | done | with_reducible rfl)
        simp only [List.setIfInBounds_toArray, List.set_cons_succ, List.set_cons_zero]
        refine takeAtQ 7 196 (v := ?v_r38x546_7) rfl rfl (by kernel_rfl) (by kernel_rfl) (by kernel_rfl) (fun _ _ _ h => h) (Or.inl ⟨by rfl, ?hy_r38x546_7⟩) (by assumption) ?rest_r38x546_7
        case hy_r38x546_7 => (intro w hSw; (try dsimp only at hSw); go_simp; first | done | with_reducible rfl)
        simp only [List.setIfInBounds_toArray, List.set_cons_succ, List.set_cons_zero]
        refine takeAtQ 8 197 (v := ?v_r38x546_8) rfl rfl (by kernel_rfl) (by kernel_rfl) (by kernel_rfl) (fun _ _ _ h => h) (Or.inl ⟨by rfl, ?hy_r38x546_8⟩) (by assumption) ?rest_r38x546_8
        case hy_r38x546_8 => (intro w hSw; (try dsimp only at hSw); go_simp; first | done | with_reducible rfl)
        simp only [List.setIfInBounds_toArray, List.set_cons_succ, List.set_cons_zero]
        refine takeAtQ 9 198 (v := ?v_r38x546_9) rfl rfl (by kernel_rfl) (by kernel_rfl) (by kernel_rfl) (fun _ _ _ h => h) (Or.inl ⟨by rfl, ?hy_r38x546_9⟩) (by assumption) ?rest_r38x546_9
        case hy_r38x546_9 => (intro w hSw; (try dsimp only at hSw); go_simp; first | done | with_reducible rfl)
        simp only [List.setIfInBounds_toArray, List.set_cons_succ, List.set_cons_zero]
        refine wpAnyH_ready (rs := [4]) (by kernel_rfl) (by simp) ?_
        refine AllReadyH.cons (o := { dst := some 193, op := Go.Op.call { callee := Go.Callee.value (Go.Operand.func 26), args := #[Go.Operand.tmp 192], argTypes := #[25] }, type := 3, pos := "law.go:121", after := #[{ on := 3, ground := Go.Ground.data }, { on := 2, ground := Go.Ground.chain }, { on := 2, ground := Go.Ground.guard }], guard := some (2, false) }) rfl (fun K hK => ?_) AllReadyH.nil
        go_simp
        refine (KLen.out _ HK0.out).mono ?_
        rintro e z1 ⟨rfl, hb⟩
        have HK1 := hide (HK0.out.old HC.out hb)
        clear hb HK0
        go_wp2_with fail
        refine hK.out _ _ (HSS.out _ HK1.out) (fun hHeldN => ?_)
        clear hK K hHeld
        (try go_frame)
        have hHeld := hHeldN
        clear hHeldN
        (try dsimp only at hHeld)
        refine takeAtQ 10 199 (v := ?v_r38x546_10) rfl rfl (by kernel_rfl) (by kernel_rfl) (by kernel_rfl) (fun _ _ _ h => h) (Or.inl ⟨by rfl, ?hy_r38x546_10⟩) (by assumption) ?rest_r38x546_10
        case hy_r38x546_10 => (intro w hSw; (try dsimp only at hSw); go_simp; first | done | with_reducible rfl)
        simp only [List.setIfInBounds_toArray, List.set_cons_succ, List.set_cons_zero]
        refine takeAtQ 11 200 (v := ?v_r38x546_11) rfl rfl (by kernel_rfl) (by kernel_rfl) (by kernel_rfl) (fun _ _ _ h => h) (Or.inl ⟨by rfl, ?hy_r38x546_11⟩) (by assumption) ?rest_r38x546_11
        case hy_r38x546_11 => (intro w hSw; (try dsimp only at hSw); go_simp; first | done | with_reducible rfl)
        simp only [List.setIfInBounds_toArray, List.set_cons_succ, List.set_cons_zero]
        refine takeAtQ 12 201 (v := ?v_r38x546_12) rfl rfl (by kernel_rfl) (by kernel_rfl) (by kernel_rfl) (fun _ _ _ h => h) (Or.inl ⟨by rfl, ?hy_r38x546_12⟩) (by assumption) ?rest_r38x546_12
        case hy_r38x546_12 => (intro w hSw; (try dsimp only at hSw); go_simp; first | done | with_reducible rfl)
        simp only [List.setIfInBounds_toArray, List.set_cons_succ, List.set_cons_zero]
        refine takeAtQ 13 202 (v := ?v_r38x546_13) rfl rfl (by kernel_rfl) (by kernel_rfl) (by kernel_rfl) (fun _ _ _ h => h) (Or.inl ⟨by rfl, ?hy_r38x546_13⟩) (by assumption) ?rest_r38x546_13
        case hy_r38x546_13 => (intro w hSw; (try dsimp only at hSw); go_simp; first | done | with_reducible rfl)
        simp only [List.setIfInBounds_toArray, List.set_cons_succ, List.set_cons_zero]
        refine takeAtQ 15 204 (v := ?v_r38x546_15) rfl rfl (by kernel_rfl) (by kernel_rfl) (by kernel_rfl) (fun _ _ _ h => h) (Or.inl ⟨by rfl, ?hy_r38x546_15⟩) (by assumption) ?rest_r38x546_15
        case hy_r38x546_15 => (intro w hSw; (try dsimp only at hSw); go_simp; first | done | with_reducible rfl)
        simp only [List.setIfInBounds_toArray, List.set_cons_succ, List.set_cons_zero]
        refine takeAtQ 16 205 (v := ?v_r38x546_16) rfl rfl (by kernel_rfl) (by kernel_rfl) (by kernel_rfl) (fun _ _ _ h => h) (Or.inl ⟨by rfl, ?hy_r38x546_16⟩) (by assumption) ?rest_r38x546_16
        case hy_r38x546_16 => (intro w hSw; (try dsimp only at hSw); go_simp; first | done | with_reducible rfl)
        simp only [List.setIfInBounds_toArray, List.set_cons_succ, List.set_cons_zero]
        refine takeAtQ 17 206 (v := ?v_r38x546_17) rfl rfl (by kernel_rfl) (by kernel_rfl) (by kernel_rfl) (fun _ _ _ h => h) (Or.inl ⟨by rfl, ?hy_r38x546_17⟩) (by assumption) ?rest_r38x546_17
        case hy_r38x546_17 => (intro w hSw; (try dsimp only at hSw); go_simp; first | done | with_reducible rfl)
        simp only [List.setIfInBounds_toArray, List.set_cons_succ, List.set_cons_zero]
        refine takeAtQ 18 207 (v := ?v_r38x546_18) rfl rfl (by kernel_rfl) (by kernel_rfl) (by kernel_rfl) (fun _ _ _ h => h) (Or.inl ⟨by rfl, ?hy_r38x546_18⟩) (by assumption) ?rest_r38x546_18
        case hy_r38x546_18 => (intro w hSw; (try dsimp only at hSw); go_simp; first | done | with_reducible rfl)
        simp only [List.setIfInBounds_toArray, List.set_cons_succ, List.set_cons_zero]
        refine wpAnyH_ready (rs := [14]) (by kernel_rfl) (by simp) ?_
        refine AllReadyH.cons (o := { dst := some 203, op := Go.Op.call { callee := Go.Callee.value (Go.Operand.func 28), args := #[Go.Operand.tmp 202], argTypes := #[25] }, type := 28, pos := "law.go:121", after := #[{ on := 13, ground := Go.Ground.data }, { on := 12, ground := Go.Ground.chain }, { on := 12, ground := Go.Ground.guard }], guard := some (12, false) }) rfl (fun K hK => ?_) AllReadyH.nil
        go_simp
        refine (KLst.out _ HK1.out).mono ?_
        rintro e z2 ⟨la, lc, rfl, hL, hb⟩
        have HK2 := hide (HK1.out.old HC.out hb)
        have HL2 := hide hL
        clear hb HK1 hL
        go_wp2_with fail
        refine hK.out _ _ (HSS.out _ HK2.out) (fun hHeldN => ?_)
        clear hK K hHeld
        (try go_frame)
        have hHeld := hHeldN
        clear hHeldN
        (try dsimp only at hHeld)
        refine wpAnyH_ready (rs := [19]) (by kernel_rfl) (by simp) ?_
        refine AllReadyH.cons (o := { dst := some 208, op := Go.Op.call { callee := Go.Callee.value (Go.Operand.func 27), args := #[Go.Operand.tmp 203, Go.Operand.tmp 207], argTypes := #[28, 28] }, type := 4, pos := "law.go:121", after := #[{ on := 14, ground := Go.Ground.data }, { on := 18, ground := Go.Ground.data }, { on := 14, ground := Go.Ground.chain }, { on := 12, ground := Go.Ground.guard }], guard := some (12, false) }) rfl (fun K hK => ?_) AllReadyH.nil
        go_simp
        refine (KLet.out _ _ _ HK2.out HL2.out).mono ?_
        rintro e z3 ⟨rfl, hb⟩
        have HK3 := hide (HK2.out.old HC.out hb)
        clear hb HK2 HL2
        go_wp2_with fail
        refine hK.out _ _ (HSS.out _ HK3.out) (fun hHeldN => ?_)
        clear hK K hHeld
        (try go_frame)
        have hHeld := hHeldN
        clear hHeldN
        (try dsimp only at hHeld)
        refine takeAtQ 20 209 (v := ?v_r38x546_20) rfl rfl (by kernel_rfl) (by kernel_rfl) (by kernel_rfl) (fun _ _ _ h => h) (Or.inl ⟨by rfl, ?hy_r38x546_20⟩) (by assumption) ?rest_r38x546_20
        case hy_r38x546_20 => (intro w hSw; (try dsimp only at hSw); go_simp; first | done | with_reducible rfl)
        simp only [List.setIfInBounds_toArray, List.set_cons_succ, List.set_cons_zero]
        refine takeAtQ 21 210 (v := ?v_r38x546_21) rfl rfl (by kernel_rfl) (by kernel_rfl) (by kernel_rfl) (fun _ _ _ h => h) (Or.inl ⟨by rfl, ?hy_r38x546_21⟩) (by assumption) ?rest_r38x546_21
        case hy_r38x546_21 => (intro w hSw; (try dsimp only at hSw); go_simp; first | done | with_reducible rfl)
        simp only [List.setIfInBounds_toArray, List.set_cons_succ, List.set_cons_zero]
        refine takeAtQ 22 211 (v := ?v_r38x546_22) rfl rfl (by kernel_rfl) (by kernel_rfl) (by kernel_rfl) (fun _ _ _ h => h) (Or.inl ⟨by rfl, ?hy_r38x546_22⟩) (by assumption) ?rest_r38x546_22
        case hy_r38x546_22 => (intro w hSw; (try dsimp only at hSw); go_simp; first | done | with_reducible rfl)
        simp only [List.setIfInBounds_toArray, List.set_cons_succ, List.set_cons_zero]
        refine takeAtQ 23 212 (v := ?v_r38x546_23) rfl rfl (by kernel_rfl) (by kernel_rfl) (by kernel_rfl) (fun _ _ _ h => h) (Or.inl ⟨by rfl, ?hy_r38x546_23⟩) (by assumption) ?rest_r38x546_23
        case hy_r38x546_23 => (intro w hSw; (try dsimp only at hSw); go_simp; first | done | with_reducible rfl)
        simp only [List.setIfInBounds_toArray, List.set_cons_succ, List.set_cons_zero]
        refine takeAtQ 25 214 (v := ?v_r38x546_25) rfl rfl (by kernel_rfl) (by kernel_rfl) (by kernel_rfl) (fun _ _ _ h => h) (Or.inl ⟨by rfl, ?hy_r38x546_25⟩) (by assumption) ?rest_r38x546_25
        case hy_r38x546_25 => (intro w hSw; (try dsimp only at hSw); go_simp; first | done | with_reducible rfl)
        simp only [List.setIfInBounds_toArray, List.set_cons_succ, List.set_cons_zero]
        refine wpAnyH_ready (rs := [24]) (by kernel_rfl) (by simp) ?_
        refine AllReadyH.cons (o := { dst := some 213, op := Go.Op.call { callee := Go.Callee.value (Go.Operand.func 30), args := #[Go.Operand.tmp 212], argTypes := #[25] }, type := 38, pos := "law.go:121", after := #[{ on := 23, ground := Go.Ground.data }, { on := 22, ground := Go.Ground.chain }, { on := 22, ground := Go.Ground.guard }], guard := some (22, false) }) rfl (fun K hK => ?_) AllReadyH.nil
        go_simp
        refine (KRdy.out _ HK3.out).mono ?_
        rintro e z4 ⟨ra, rc, rfl, hI, hb⟩
        have HK4 := hide (HK3.out.old HC.out hb)
        have HI4 := hide hI
        clear hb HK3 hI
        go_wp2_with fail
        refine hK.out _ _ (HSS.out _ HK4.out) (fun hHeldN => ?_)
        clear hK K hHeld
        (try go_frame)
        have hHeld := hHeldN
        clear hHeldN
        (try dsimp only at hHeld)
        refine wpAnyH_ready (rs := [26]) (by kernel_rfl) (by simp) ?_
        refine AllReadyH.cons (o := { dst := some 215, op := Go.Op.call { callee := Go.Callee.value (Go.Operand.func 13), args := #[Go.Operand.tmp 214], argTypes := #[27] }, type := 38, pos := "law.go:121", after := #[{ on := 25, ground := Go.Ground.data }, { on := 24, ground := Go.Ground.chain }, { on := 22, ground := Go.Ground.guard }], guard := some (22, false) }) rfl (fun K hK => ?_) AllReadyH.nil
        go_simp
        refine (KRef.out _ HK4.out).mono ?_
        rintro e z5 ⟨rb, rd, rfl, hI, hb⟩
        have HK5 := hide (HK4.out.old HC.out hb)
        have HI5 := hide (And.intro (HI4.out.old hb) hI)
        clear hb HK4 hI HI4
        go_wp2_with fail
        refine hK.out _ _ (HSS.out _ HK5.out) (fun hHeldN => ?_)
        clear hK K hHeld
        (try go_frame)
        have hHeld := hHeldN
        clear hHeldN
        (try dsimp only at hHeld)
        refine wpAnyH_ready (rs := [27]) (by kernel_rfl) (by simp) ?_
        refine AllReadyH.cons (o := { dst := some 216, op := Go.Op.call { callee := Go.Callee.value (Go.Operand.func 29), args := #[Go.Operand.tmp 213, Go.Operand.tmp 215], argTypes := #[38, 38] }, type := 4, pos := "law.go:121", after := #[{ on := 24, ground := Go.Ground.data }, { on := 26, ground := Go.Ground.data }, { on := 26, ground := Go.Ground.chain }, { on := 22, ground := Go.Ground.guard }], guard := some (22, false) }) rfl (fun K hK => ?_) AllReadyH.nil
        go_simp
        refine (KU.out _ _ _ _ _ HI5.out.1 HI5.out.2).mono ?_
        rintro e z6 ⟨rfl, hb⟩
        have HK6 := hide (HK5.out.old HC.out hb)
        clear hb HK5 HI5
        go_wp2_with fail
        refine hK.out _ _ (HSS.out _ HK6.out) (fun hHeldN => ?_)
        clear hK K hHeld
        (try go_frame)
        have hHeld := hHeldN
        clear hHeldN
        (try dsimp only at hHeld)
        refine takeAtQ 28 217 (v := ?v_r38x546_28) rfl rfl (by kernel_rfl) (by kernel_rfl) (by kernel_rfl) (fun _ _ _ h => h) (Or.inl ⟨by rfl, ?hy_r38x546_28⟩) (by assumption) ?rest_r38x546_28
        case hy_r38x546_28 => (intro w hSw; (try dsimp only at hSw); go_simp; first | done | with_reducible rfl)
        simp only [List.setIfInBounds_toArray, List.set_cons_succ, List.set_cons_zero]
        refine takeAtQ 29 218 (v := ?v_r38x546_29) rfl rfl (by kernel_rfl) (by kernel_rfl) (by kernel_rfl) (fun _ _ _ h => h) (Or.inl ⟨by rfl, ?hy_r38x546_29⟩) (by assumption) ?rest_r38x546_29
        case hy_r38x546_29 => (intro w hSw; (try dsimp only at hSw); go_simp; first | done | with_reducible rfl)
        simp only [List.setIfInBounds_toArray, List.set_cons_succ, List.set_cons_zero]
        refine takeAtQ 30 219 (v := ?v_r38x546_30) rfl rfl (by kernel_rfl) (by kernel_rfl) (by kernel_rfl) (fun _ _ _ h => h) (Or.inl ⟨by rfl, ?hy_r38x546_30⟩) (by assumption) ?rest_r38x546_30
        case hy_r38x546_30 => (intro w hSw; (try dsimp only at hSw); go_simp; first | done | with_reducible rfl)
        simp only [List.setIfInBounds_toArray, List.set_cons_succ, List.set_cons_zero]
        refine takeAtQ 31 220 (v := ?v_r38x546_31) rfl rfl (by kernel_rfl) (by kernel_rfl) (by kernel_rfl) (fun _ _ _ h => h) (Or.inl ⟨by rfl, ?hy_r38x546_31⟩) (by assumption) ?rest_r38x546_31
        case hy_r38x546_31 => (intro w hSw; (try dsimp only at hSw); go_simp; first | done | with_reducible rfl)
        simp only [List.setIfInBounds_toArray, List.set_cons_succ, List.set_cons_zero]
        refine takeAtQ 32 221 (v := ?v_r38x546_32) rfl rfl (by kernel_rfl) (by kernel_rfl) (by kernel_rfl) (fun _ _ _ h => h) (Or.inl ⟨by rfl, ?hy_r38x546_32⟩) (by assumption) ?rest_r38x546_32
        case hy_r38x546_32 => (intro w hSw; (try dsimp only at hSw); go_simp; first | done | with_reducible rfl)
        simp only [List.setIfInBounds_toArray, List.set_cons_succ, List.set_cons_zero]
        refine takeAtQ 33 222 (v := ?v_r38x546_33) rfl rfl (by kernel_rfl) (by kernel_rfl) (by kernel_rfl) (fun _ _ _ h => h) (Or.inl ⟨by rfl, ?hy_r38x546_33⟩) (by assumption) ?rest_r38x546_33
        case hy_r38x546_33 => (intro w hSw; (try dsimp only at hSw); go_simp; first | done | with_reducible rfl)
        simp only [List.setIfInBounds_toArray, List.set_cons_succ, List.set_cons_zero]
        refine takeAtQ 34 223 (v := ?v_r38x546_34) rfl rfl (by kernel_rfl) (by kernel_rfl) (by kernel_rfl) (fun _ _ _ h => h) (Or.inl ⟨by rfl, ?hy_r38x546_34⟩) (by assumption) ?rest_r38x546_34
        case hy_r38x546_34 => (intro w hSw; (try dsimp only at hSw); go_simp; first | done | with_reducible rfl)
        simp only [List.setIfInBounds_toArray, List.set_cons_succ, List.set_cons_zero]
        refine takeAtQ 35 224 (v := ?v_r38x546_35) rfl rfl (by kernel_rfl) (by kernel_rfl) (by kernel_rfl) (fun _ _ _ h => h) (Or.inl ⟨by rfl, ?hy_r38x546_35⟩) (by assumption) ?rest_r38x546_35
        case hy_r38x546_35 => (intro w hSw; (try dsimp only at hSw); go_simp; first | done | with_reducible rfl)
        simp only [List.setIfInBounds_toArray, List.set_cons_succ, List.set_cons_zero]
        refine takeAtQ 37 226 (v := ?v_r38x546_37) rfl rfl (by kernel_rfl) (by kernel_rfl) (by kernel_rfl) (fun _ _ _ h => h) (Or.inl ⟨by rfl, ?hy_r38x546_37⟩) (by assumption) ?rest_r38x546_37
        case hy_r38x546_37 => (intro w hSw; (try dsimp only at hSw); go_simp; first | done | with_reducible rfl)
        simp only [List.setIfInBounds_toArray, List.set_cons_succ, List.set_cons_zero]
        refine takeAtQ 38 227 (v := ?v_r38x546_38) rfl rfl (by kernel_rfl) (by kernel_rfl) (by kernel_rfl) (fun _ _ _ h => h) (Or.inl ⟨by rfl, ?hy_r38x546_38⟩) (by assumption) ?rest_r38x546_38
        case hy_r38x546_38 => (intro w hSw; (try dsimp only at hSw); go_simp; first | done | with_reducible rfl)
        simp only [List.setIfInBounds_toArray, List.set_cons_succ, List.set_cons_zero]
        refine takeAtQ 39 228 (v := ?v_r38x546_39) rfl rfl (by kernel_rfl) (by kernel_rfl) (by kernel_rfl) (fun _ _ _ h => h) (Or.inl ⟨by rfl, ?hy_r38x546_39⟩) (by assumption) ?rest_r38x546_39
        case hy_r38x546_39 => (intro w hSw; (try dsimp only at hSw); go_simp; first | done | with_reducible rfl)
        simp only [List.setIfInBounds_toArray, List.set_cons_succ, List.set_cons_zero]
        refine takeAtQ 40 229 (v := ?v_r38x546_40) rfl rfl (by kernel_rfl) (by kernel_rfl) (by kernel_rfl) (fun _ _ _ h => h) (Or.inl ⟨by rfl, ?hy_r38x546_40⟩) (by assumption) ?rest_r38x546_40
        case hy_r38x546_40 => (intro w hSw; (try dsimp only at hSw); go_simp; first | done | with_reducible rfl)
        simp only [List.setIfInBounds_toArray, List.set_cons_succ, List.set_cons_zero]
        refine takeAtQ 41 230 (v := ?v_r38x546_41) rfl rfl (by kernel_rfl) (by kernel_rfl) (by kernel_rfl) (fun _ _ _ h => h) (Or.inl ⟨by rfl, ?hy_r38x546_41⟩) (by assumption) ?rest_r38x546_41
        case hy_r38x546_41 => (intro w hSw; (try dsimp only at hSw); go_simp; first | done | with_reducible rfl)
        simp only [List.setIfInBounds_toArray, List.set_cons_succ, List.set_cons_zero]
        refine wpAnyH_ready (rs := [36]) (by kernel_rfl) (by simp) ?_
        refine AllReadyH.cons (o := { dst := some 225, op := Go.Op.call { callee := Go.Callee.value (Go.Operand.func 31), args := #[Go.Operand.tmp 220, Go.Operand.tmp 222, Go.Operand.tmp 224], argTypes := #[25, 3, 3] }, type := 4, pos := "law.go:121", after := #[{ on := 31, ground := Go.Ground.data }, { on := 33, ground := Go.Ground.data }, { on := 35, ground := Go.Ground.data }, { on := 30, ground := Go.Ground.chain }, { on := 30, ground := Go.Ground.guard }], guard := some (30, false) }) rfl (fun K hK => ?_) AllReadyH.nil
        go_simp
        refine (KP.out _ HK6.out).mono ?_
        rintro e z7 ⟨rfl, hb⟩
        have HK7 := hide (HK6.out.old HC.out hb)
        clear hb HK6
        go_wp2_with fail
        refine hK.out _ _ (HSS.out _ HK7.out) (fun hHeldN => ?_)
        clear hK K hHeld
        (try go_frame)
        have hHeld := hHeldN
        clear hHeldN
        (try dsimp only at hHeld)
        refine wpAnyH_ready (rs := [42]) (by kernel_rfl) (by simp) ?_
        refine AllReadyH.cons (o := { dst := some 231, op := Go.Op.call { callee := Go.Callee.value (Go.Operand.func 32), args := #[Go.Operand.tmp 226, Go.Operand.tmp 228, Go.Operand.tmp 230], argTypes := #[27, 3, 3] }, type := 4, pos := "law.go:121", after := #[{ on := 37, ground := Go.Ground.data }, { on := 39, ground := Go.Ground.data }, { on := 41, ground := Go.Ground.data }, { on := 36, ground := Go.Ground.chain }, { on := 30, ground := Go.Ground.guard }], guard := some (30, false) }) rfl (fun K hK => ?_) AllReadyH.nil
        go_simp
        refine (KQ.out _ HK7.out).mono ?_
        rintro e z8 ⟨rfl, hb⟩
        have HK8 := hide (HK7.out.old HC.out hb)
        clear hb HK7
        go_wp2_with fail
        refine hK.out _ _ (HSS.out _ HK8.out) (fun hHeldN => ?_)
        clear hK K hHeld
        (try go_frame)
        have hHeld := hHeldN
        clear hHeldN
        (try dsimp only at hHeld)
        refine takeAtQ 43 232 (v := ?v_r38x546_43) rfl rfl (by kernel_rfl) (by kernel_rfl) (by kernel_rfl) (fun _ _ _ h => h) (Or.inl ⟨by rfl, ?hy_r38x546_43⟩) (by assumption) ?rest_r38x546_43
        case hy_r38x546_43 => (intro w hSw; (try dsimp only at hSw); go_simp; first | done | with_reducible rfl)
        simp only [List.setIfInBounds_toArray, List.set_cons_succ, List.set_cons_zero]
        refine takeAtQ 44 233 (v := ?v_r38x546_44) rfl rfl (by kernel_rfl) (by kernel_rfl) (by kernel_rfl) (fun _ _ _ h => h) (Or.inl ⟨by rfl, ?hy_r38x546_44⟩) (by assumption) ?rest_r38x546_44
        case hy_r38x546_44 => (intro w hSw; (try dsimp only at hSw); go_simp; first | done | with_reducible rfl)
        simp only [List.setIfInBounds_toArray, List.set_cons_succ, List.set_cons_zero]
        refine wpAnyH_done (by kernel_rfl) ?_ _
        clear hHeld
        clear KLen KLst KLet KRdy KRef KU KP KQ HSS
        go_wp2_with fail
        exact ⟨⟨k + 1, st2, F2, _, vC2, cuts2, hlt, by go_num, HK8.out.on⟩, by simp [intOf]; omega⟩
      · go_wp2_with fail
        refine (alive_any HC.out wr).mono ?_
        rintro e w2 ⟨rfl, hb2⟩
        have HB9 := hide (HO.out.below.trans (hb2.mono HO.out.size))
        clear hb2 HO
        go_wp2
        go_ret
        exact ⟨rfl, HB9.out⟩
end Go.Proofs.Ytdfioggeiagihaa
