/- The program's stores: Sync, Trim. The program's stores: Make's walk. The program's checkpoints: Load. The program's stores: Make. The program's stores: Open's first step. -/
import Derived.Test.YtchhojkhfdkhfaaGreatDoorK17
import Derived.Test.YtchhojkhfdkhfaaGreatDoorK09
import Derived.Test.YtchhojkhfdkhfaaGreatDoorK07
namespace Go.Proofs.YtchhojkhfdkhfaaGreatDoor
open Go Go.RowKit Frm
theorem pSync8 (p q ck lg : Nat) (s : Sto) (st : St) (A : Nat → Prop) (u : World) (h : PSt u p q ck lg s st A) (hok : st.Ok) (hl : st.loose.length + 3000 ≤ 8000) :
    Calls Tryz.prog 23 #[.pointer (some ⟨p, 0, none⟩)] u (PSSays PSt p q ck lg A u (stoSync st s)) := by
  obtain ⟨l, b, G, h, rfl⟩ := h
  obtain ⟨g, str, br⟩ := s
  have hbx := one_below u (.cells #[.pointer (some ⟨p, 0, none⟩)] 36)
  have hu := h.below hbx
  have hb1 : (u.alloc (.cells #[.pointer (some ⟨p, 0, none⟩)] 36)).cell? ⟨u.heap.size, 0, none⟩ = some (.pointer (some ⟨p, 0, none⟩)) := (cell_of_row _ _ 0 _ _ _ (heap_alloc_last u _)).trans rfl
  refine sync_wrap _ u _ pSays_ret ?_
  cases br with
  | true =>
    have e : stoSync st ⟨g, str, true⟩ = (3, ⟨g, str, true⟩, st) := by unfold stoSync; rw [if_pos rfl]
    rw [e]
    refine (guarded_down p _ _ (sfault_any p l q ck lg g true _ hu.c)).mono ?_
    rintro e v ⟨rfl, rfl⟩
    exact ⟨rfl, _, ⟨l, b, G, hu, rfl⟩, Loc.of_below _ hbx⟩
  | false =>
    have hb : b = false := by
      cases b with
      | true => exact absurd (h.bb rfl) (by simp)
      | false => rfl
    subst hb
    have hplt := h.c.lt
    have e : stoSync st ⟨g, str, false⟩ = (st.sync.1, Sto.told ⟨g, str, false⟩ st.sync.1, st.sync.2) := by
      unfold stoSync
      rw [if_neg (by simp)]
    rw [e]
    refine under h hbx (Or.inr (Or.inl ⟨_, rfl⟩)) _ ⟨g, str, false⟩ _ rfl ?_ h.sz h.gen
    intro n a he
    cases he
    refine calls_eq (a := #[.pointer (some ⟨u.heap.size, 0, none⟩)]) rfl ((sync1_any u.heap.size p l q ck lg g false _ (fun e z => e = .returned (.int .i64 ((st.sync.1 : Nat) : Int)) ∧ ∃ G2, DAt z q st.sync.2 G2 ∧ Loc G G2 (u.alloc (.cells #[.pointer (some ⟨p, 0, none⟩)] 36)) z) hb1 hu.c ?_ ?_).mono ?_)
    · rintro e z ⟨rfl, _⟩
      exact ⟨_, rfl⟩
    · refine (con.sync q st G _ hu.d hok (by omega)).mono ?_
      rintro e z ⟨rfl, G2, k2, k3⟩
      exact ⟨rfl, G2, k2, k3⟩
    · rintro e z ⟨rfl, G2, k2, k3⟩
      have hd := h.disk k2 ((Loc.of_below _ hbx).trans k3)
      exact ⟨rfl, l, false, G2, hd.c, hd.log, k2, hd.np, hd.nl, h.pl, (fun x => by simp at x), ((Loc.of_below _ hbx).trans k3).pair⟩
theorem sto_trim_go (st : St) (ck lg g : Nat) (str t : ByteArray) (hg : g < 4611686018427387904) (hr : ¬ room (2 * (ck : Int)) < (t.size : Int)) :
    stoTrim st ck lg ⟨g, str, false⟩ t = ((goR st ck lg (g + 1) t).1, (if (goR st ck lg (g + 1) t).1 = 0 then ⟨g + 1, goS st ck lg (g + 1) t, false⟩ else Sto.told ⟨g, str, false⟩ (goR st ck lg (g + 1) t).1), (goR st ck lg (g + 1) t).2) := by
  unfold stoTrim goR goS
  rw [if_neg (by simp), if_neg (show ¬ 4611686018427387904 ≤ g by omega), if_neg hr]
  by_cases h1 : (walClear st (lo ck lg (g + 1)) lg).1 ≠ 0
  · rw [if_pos h1, if_pos h1, if_neg h1]
  · rw [if_neg h1, if_neg h1]
    by_cases h2 : ((walClear st (lo ck lg (g + 1)) lg).2.save 0 (2 * (ck : Int)) (g + 1) t).1 ≠ 0
    · rw [if_pos h2, if_pos h2, if_neg h2]
    · rw [if_neg h2, if_neg h2]
      by_cases h3 : (walOpen ((walClear st (lo ck lg (g + 1)) lg).2.save 0 (2 * (ck : Int)) (g + 1) t).2 (lo ck lg (g + 1)) lg).1.1 ≠ 0
      · rw [if_pos h3, if_neg h3]
      · have h3 : (walOpen ((walClear st (lo ck lg (g + 1)) lg).2.save 0 (2 * (ck : Int)) (g + 1) t).2 (lo ck lg (g + 1)) lg).1.1 = 0 := by omega
        rw [if_neg (fun x => x h3), if_pos h3, h3]
theorem pTrim8 (p q ck lg : Nat) (s : Sto) (t : ByteArray) (st : St) (A : Nat → Prop) (u : World) (h : PSt u p q ck lg s st A) (hok : st.Ok) (hl : st.loose.length + 3000 ≤ 8000) (hc : Conf ck lg st.sure.length) (hn : lg ≤ 200) (ht : t.size ≤ 65536) :
    Calls Tryz.prog 24 #[.pointer (some ⟨p, 0, none⟩), .string t] u (PSSays PSt p q ck lg A u (stoTrim st ck lg s t)) := by
  obtain ⟨l, b, G, h, rfl⟩ := h
  obtain ⟨g, str, br⟩ := s
  have hbx := below_box2 u (.cells #[.pointer (some ⟨p, 0, none⟩)] 36) (.cells #[.string t] 9)
  have hu := h.below hbx
  obtain ⟨hb1, hb2⟩ := boxes2 u (.pointer (some ⟨p, 0, none⟩)) (.string t) 36 9
  have hg1 : 1 ≤ g ∧ g ≤ 4611686018427387904 := h.gen
  have hck := hc.ck256
  refine trim_wrap _ t u _ pSays_ret ?_
  cases br with
  | true =>
    have e : stoTrim st ck lg ⟨g, str, true⟩ t = (3, ⟨g, str, true⟩, st) := by unfold stoTrim; rw [if_pos rfl]
    rw [e]
    refine (guarded_down p _ _ (sfault_any p l q ck lg g true _ hu.c)).mono ?_
    rintro e v ⟨rfl, rfl⟩
    exact ⟨rfl, _, ⟨l, b, G, hu, rfl⟩, Loc.of_below _ hbx⟩
  | false =>
    have hb : b = false := by
      cases b with
      | true => exact absurd (h.bb rfl) (by simp)
      | false => rfl
    subst hb
    have hplt := h.c.lt
    have hltl := h.log.lt
    by_cases hm : g = 4611686018427387904
    · have e : stoTrim st ck lg ⟨g, str, false⟩ t = (2, Sto.told ⟨g, str, false⟩ 2, st) := by unfold stoTrim; rw [if_neg (by simp), if_pos (show 4611686018427387904 ≤ g by omega)]; rfl
      rw [e]
      refine under h hbx (Or.inr (Or.inr ⟨_, _, rfl⟩)) _ ⟨g, str, false⟩ _ rfl ?_ h.sz h.gen
      intro n a he
      cases he
      refine calls_eq (a := #[.pointer (some ⟨u.heap.size, 0, none⟩), .pointer (some ⟨u.heap.size + 1, 0, none⟩)]) rfl ((trim_gen u.heap.size (u.heap.size + 1) p l q ck lg g false _ hb1 hu.c hm).mono ?_)
      rintro e z ⟨rfl, rfl⟩
      exact ⟨rfl, l, false, G, hu.c, hu.log, hu.d, h.np, h.nl, h.pl, (fun x => by simp at x), Loc.of_below _ hbx⟩
    · have hR : ∀ v, Calls Tryz.prog 56 #[areaV (some ⟨q, 0, none⟩) (ck : Int) (lg : Int)] v fun e w' => e = .returned (.int .i64 (room (2 * (ck : Int)))) ∧ Below v.heap.size v w' := fun v =>
        aroom_any (some ⟨q, 0, none⟩) (ck : Int) (lg : Int) (room (2 * (ck : Int))) v (fun y => ckb_any _ _ _ y (by omega)) (fun y => room_any7 (2 * (ck : Int)) y (by omega))
      by_cases hr : room (2 * (ck : Int)) < (t.size : Int)
      · have e : stoTrim st ck lg ⟨g, str, false⟩ t = (4, Sto.told ⟨g, str, false⟩ 4, st) := by unfold stoTrim; rw [if_neg (by simp), if_neg (show ¬ 4611686018427387904 ≤ g by omega), if_pos hr]; rfl
        rw [e]
        refine under h hbx (Or.inr (Or.inr ⟨_, _, rfl⟩)) _ ⟨g, str, false⟩ _ rfl ?_ h.sz h.gen
        intro n a he
        cases he
        refine calls_eq (a := #[.pointer (some ⟨u.heap.size, 0, none⟩), .pointer (some ⟨u.heap.size + 1, 0, none⟩)]) rfl ((trim_long u.heap.size (u.heap.size + 1) p l q ck lg g false t _ _ hb1 hb2 hu.c hm hR hr).mono ?_)
        rintro e z ⟨rfl, hz⟩
        have hz2 := hu.below hz
        exact ⟨rfl, l, false, G, hz2.c, hz2.log, hz2.d, h.np, h.nl, h.pl, (fun x => by simp at x), Loc.of_below _ (bnext hbx hz)⟩
      · rw [sto_trim_go st ck lg g str t (by omega) hr]
        have hgo : ∀ v, Below ((u.alloc (.cells #[.pointer (some ⟨p, 0, none⟩)] 36)).alloc (.cells #[.string t] 9)).heap.size ((u.alloc (.cells #[.pointer (some ⟨p, 0, none⟩)] 36)).alloc (.cells #[.string t] 9)) v → Calls Tryz.prog 57 #[.pointer (some ⟨p, 0, none⟩), .int .u64 ((g + 1 : Nat) : Int), .string t] v (PGo p q ck lg (g + 1) t st G u) := fun v hv => by
          have hv2 := hu.below hv
          have hbv := bnext hbx hv
          refine (goOn_any p l q ck lg g (g + 1) t st G v hv2.c hv2.d h.np hok hl hc hn ht).mono ?_
          rintro e z ⟨rfl, hz⟩
          refine ⟨rfl, ?_⟩
          rcases hz with ⟨h0, pl2, F', k1, k2, k3, k4, k5, k6, k7⟩ | ⟨h0, F', k1, k2⟩
          · exact Or.inl ⟨h0, pl2, F', k1, k2, k3, (Loc.of_below _ hbv).trans k4, k5, k6, by have := hbv.size; omega⟩
          · exact Or.inr ⟨h0, F', k1, (Loc.of_below _ hbv).trans k2⟩
        have hsz : (goS st ck lg (g + 1) t).size ≤ lg * 255 := by
          have hlf := lo_fit hc (g + 1)
          have hcl := clear_long (lo ck lg (g + 1)) lg st (by omega)
          have hokC := clear_ok hok (lo ck lg (g + 1)) lg
          have hsl := save_long (walClear st (lo ck lg (g + 1)) lg).2 0 (2 * (ck : Int)) (g + 1) t
          exact open_size (save_ok8 hokC 0 (2 * (ck : Int)) (g + 1) t) _ _ (by omega)
        have hc2 : ∀ e z, PGo p q ck lg (g + 1) t st G u e z → ∃ x, e = .returned x := fun e z hz => ⟨_, hz.1⟩
        have hdo : ∀ n a, fnOf8 (.func (.func 55) #[] #[.pointer (some ⟨u.heap.size, 0, none⟩), .pointer (some ⟨u.heap.size + 1, 0, none⟩)]) = some (n, a) → Calls Tryz.prog n a ((u.alloc (.cells #[.pointer (some ⟨p, 0, none⟩)] 36)).alloc (.cells #[.string t] 9)) (PGo p q ck lg (g + 1) t st G u) := fun n a he => by
          cases he
          exact calls_eq (a := #[.pointer (some ⟨u.heap.size, 0, none⟩), .pointer (some ⟨u.heap.size + 1, 0, none⟩)]) rfl (trim_go u.heap.size (u.heap.size + 1) p l q ck lg g false t _ _ _ hb1 hb2 hu.c (by omega) hR hr hc2 hgo)
        have hnl2 : ∀ {F' : Nat → Prop} {z : World}, Loc G F' u z → ¬ F' p ∧ ¬ F' l := fun hl => ⟨own_new hl h.np hplt, own_new hl h.nl hltl⟩
        by_cases h0 : (goR st ck lg (g + 1) t).1 = 0
        · rw [if_pos h0, h0]
          have e2 : (⟨g + 1, goS st ck lg (g + 1) t, false⟩ : Sto) = Sto.told ⟨g + 1, goS st ck lg (g + 1) t, false⟩ 0 := rfl
          rw [e2]
          refine under h hbx (Or.inr (Or.inr ⟨_, _, rfl⟩)) _ ⟨g + 1, goS st ck lg (g + 1) t, false⟩ _ rfl ?_ hsz ⟨by show 1 ≤ g + 1; omega, by show g + 1 ≤ _; omega⟩
          intro n a he
          refine (hdo n a he).mono ?_
          rintro e z ⟨rfl, ⟨_, pl2, F', k1, k2, k3, k4, k5, k6, k7⟩ | ⟨h1, _⟩⟩
          · refine ⟨by rw [h0], pl2, false, F', k1, k2, k3, k5, k6, by omega, (fun x => by simp at x), ?_⟩
            refine ⟨k4.os, k4.tape, k4.output, k4.size, fun k hk hf => k4.block k hk (fun hh => hf (hh.elim Or.inl (fun e => Or.inr (Or.inr e)))), fun k hk => ?_⟩
            rcases hk with hk | hk | hk
            · rcases k4.own k (Or.inl hk) with (h1 | h1) | h1
              · exact Or.inl (Or.inl h1)
              · exact Or.inl (Or.inr (Or.inr h1))
              · exact Or.inr h1
            · exact Or.inr (by omega)
            · exact Or.inl (Or.inr (Or.inr hk))
          · exact absurd h0 h1
        · rw [if_neg h0]
          refine under h hbx (Or.inr (Or.inr ⟨_, _, rfl⟩)) _ ⟨g, str, false⟩ _ rfl ?_ h.sz h.gen
          intro n a he
          refine (hdo n a he).mono ?_
          rintro e z ⟨rfl, ⟨h1, _⟩ | ⟨_, F', k1, k2⟩⟩
          · exact absurd h1 h0
          · have hd := h.disk k1 k2
            exact ⟨rfl, l, false, F', hd.c, hd.log, k1, hd.np, hd.nl, h.pl, (fun x => by simp at x), k2.pair⟩
end Go.Proofs.YtchhojkhfdkhfaaGreatDoor
namespace Go.Proofs.YtchhojkhfdkhfaaGreatDoor
open Go Go.RowKit Frm
set_option maxRecDepth 10000 in
set_option maxHeartbeats 2000000 in
theorem unused_any (pd : Option Addr) (ck lg n : Int) (x : Nat) (y : ByteArray) (c : Nat) (w : World) (hK : ∀ u, Calls Tryz.prog 48 #[areaV pd ck lg] u fun e w' => e = .returned (.int .i64 n) ∧ Below u.heap.size u w')
    (hL : ∀ u, Below w.heap.size w u → Calls Tryz.prog 47 #[.pointer pd, .int .i64 0, .int .i64 n] u fun e v => e = .returned (.tuple #[.int .u64 (x : Int), .string y, .int .i64 (c : Int)]) ∧ Below u.heap.size u v) (r : Int) (hr : r = if c = 0 then 7 else if c = 5 then 0 else (c : Int)) :
    Calls Tryz.prog 43 #[areaV pd ck lg] w fun e w' => e = .returned (.int .i64 r) ∧ Below w.heap.size w w' := by
  have HB := hide (one_below w (.cells #[.pointer pd, .int .i64 ck, .int .i64 lg] 102))
  have HC : Hid (∀ z, Below (w.alloc (.cells #[.pointer pd, .int .i64 ck, .int .i64 lg] 102)).heap.size (w.alloc (.cells #[.pointer pd, .int .i64 ck, .int .i64 lg] 102)) z → _) := area_cells w pd ck lg
  have HK := hide hK
  have HL := hide hL
  have HB1 := hide (Below.refl (w.alloc (.cells #[.pointer pd, .int .i64 ck, .int .i64 lg] 102)).heap.size (w.alloc (.cells #[.pointer pd, .int .i64 ck, .int .i64 lg] 102))).drew
  have HR := hide hr
  unfold areaV at *
  clear hK hL hr
  go_enter Tryz.func43, Tryz.ntmps43
  go_wp2_with fail
  generalize w.alloc (.cells #[.pointer pd, .int .i64 ck, .int .i64 lg] 102) = W at *
  have K := HB1.out
  go_region_held3 (fun z => z.cell? ⟨w.heap.size, 0, none⟩ = some (.pointer pd) ∧ z.cell? ⟨w.heap.size, 1, none⟩ = some (.int .i64 ck) ∧ z.cell? ⟨w.heap.size, 2, none⟩ = some (.int .i64 lg))
    ((with_reducible exact HC.out _ K))
    (first
      | (go_at_call 48; refine (HK.out _).mono ?_; rintro e z0 ⟨rfl, hb0⟩; have K := bnext K hb0)
      | (go_at_call 47; refine (HL.out _ (HB.out.trans (K.mono HB.out.size))).mono ?_; rintro e z0 ⟨rfl, hb0⟩; have K := bnext K hb0))
  all_goals
    have HE := hide (HB.out.trans (K.mono HB.out.size))
    clear K
    by_cases h1 : c = 0
    · have hr : r = 7 := by rw [HR.out, if_pos h1]
      subst h1 hr
      go_wp2
      go_ret
      exact ⟨rfl, HE.out⟩
    · by_cases h2 : c = 5
      · have hr : r = 0 := by rw [HR.out, if_neg h1, if_pos h2]
        subst h2 hr
        go_wp2
        go_ret
        exact ⟨rfl, HE.out⟩
      · have z1 : ¬ ((c : Int) = 0) := by omega
        have z2 : ¬ ((c : Int) = 5) := by omega
        have hr : r = (c : Int) := by rw [HR.out, if_neg h1, if_neg h2]
        subst hr
        clear h1 h2
        go_wp2
        go_ret
        exact ⟨rfl, HE.out⟩
/-- A box of an area. -/
def ACell (B : Nat) (pd : Option Addr) (ck lg : Int) (u : World) : Prop := u.cell? ⟨B, 0, none⟩ = some (.pointer pd) ∧ u.cell? ⟨B, 1, none⟩ = some (.int .i64 ck) ∧ u.cell? ⟨B, 2, none⟩ = some (.int .i64 lg)
theorem ACell.below {B : Nat} {pd : Option Addr} {ck lg : Int} {u v : World} (h : ACell B pd ck lg u) (hb : Below u.heap.size u v) : ACell B pd ck lg v := ⟨cellB9 hb h.1, cellB9 hb h.2.1, cellB9 hb h.2.2⟩
theorem ACell.all {B : Nat} {pd : Option Addr} {ck lg : Int} {u : World} (h : ACell B pd ck lg u) : u.cell? ⟨B, 0, none⟩ = some (.pointer pd) ∧ u.cell? ⟨B, 1, none⟩ = some (.int .i64 ck) ∧ u.cell? ⟨B, 2, none⟩ = some (.int .i64 lg) := h
theorem ACell.lt {B : Nat} {pd : Option Addr} {ck lg : Int} {u : World} (h : ACell B pd ck lg u) : B < u.heap.size := World.block_lt_of_cell? u _ h.1
theorem ACell.same {B : Nat} {pd : Option Addr} {ck lg : Int} {u v : World} (h : ACell B pd ck lg u) (hs : v.heap[B]? = u.heap[B]?) : ACell B pd ck lg v := ⟨(cell_same8 hs 0).trans h.1, (cell_same8 hs 1).trans h.2.1, (cell_same8 hs 2).trans h.2.2⟩
/-- Make's boxes: its own area, those of its steps. -/
structure MIn (w : World) (pd : Option Addr) (ck lg : Int) (z : World) : Prop where
  below : Below w.heap.size w z
  a : ACell (w.heap.size + 1) pd ck lg z
/-- A step's boxes: an area, a number. -/
def MA (w : World) (pd : Option Addr) (ck lg : Int) (B1 B2 : Nat) (z : World) : Prop := (ACell B1 pd ck lg z ∧ z.cell? ⟨B2, 0, none⟩ = some (.int .u64 1)) ∧ w.heap.size + 2 ≤ B1 ∧ w.heap.size + 2 ≤ B2
def MT (w : World) (B : Nat) (z : World) : Prop := z.cell? ⟨B, 0, none⟩ = some (.string ⟨#[]⟩) ∧ w.heap.size + 2 ≤ B
theorem MIn.keep {w z v : World} {pd : Option Addr} {ck lg : Int} (h : MIn w pd ck lg z) (hb : Below z.heap.size z v) : MIn w pd ck lg v := ⟨bnext h.below hb, h.a.below hb⟩
theorem MA.keep {w z v : World} {pd : Option Addr} {ck lg : Int} {B1 B2 : Nat} (h : MA w pd ck lg B1 B2 z) (hb : Below z.heap.size z v) : MA w pd ck lg B1 B2 v := ⟨⟨h.1.1.below hb, cellB9 hb h.1.2⟩, h.2⟩
theorem MT.keep {w z v : World} {B : Nat} (h : MT w B z) (hb : Below z.heap.size z v) : MT w B v := ⟨cellB9 hb h.1, h.2⟩
theorem MA.new {w z : World} {pd : Option Addr} {ck lg : Int} (hz : w.heap.size + 2 ≤ z.heap.size) : MA w pd ck lg z.heap.size (z.heap.size + 1) ((z.alloc (.cells #[.pointer pd, .int .i64 ck, .int .i64 lg] 102)).alloc (.cells #[.int .u64 1] 50)) := by
  obtain ⟨c0, c1, c2⟩ := area_cells z pd ck lg _ (one_below (z.alloc (.cells #[.pointer pd, .int .i64 ck, .int .i64 lg] 102)) (.cells #[.int .u64 1] 50))
  refine ⟨⟨⟨c0, c1, c2⟩, ?_⟩, hz, by omega⟩
  have := heap_alloc_last (z.alloc (.cells #[.pointer pd, .int .i64 ck, .int .i64 lg] 102)) (.cells #[.int .u64 1] 50)
  rw [show (z.alloc (.cells #[.pointer pd, .int .i64 ck, .int .i64 lg] 102)).heap.size = z.heap.size + 1 from by simp] at this
  exact (cell_of_row _ _ 0 _ _ _ this).trans rfl
theorem MT.new {w z : World} {pd : Option Addr} {ck lg : Int} (hz : w.heap.size + 2 ≤ z.heap.size) : MT w (z.heap.size + 1 + 1) (((z.alloc (.cells #[.pointer pd, .int .i64 ck, .int .i64 lg] 102)).alloc (.cells #[.int .u64 1] 50)).alloc (.cells #[.string ⟨#[]⟩] 9)) := by
  refine ⟨?_, by omega⟩
  have := heap_alloc_last ((z.alloc (.cells #[.pointer pd, .int .i64 ck, .int .i64 lg] 102)).alloc (.cells #[.int .u64 1] 50)) (.cells #[.string ⟨#[]⟩] 9)
  rw [show ((z.alloc (.cells #[.pointer pd, .int .i64 ck, .int .i64 lg] 102)).alloc (.cells #[.int .u64 1] 50)).heap.size = z.heap.size + 1 + 1 from by simp] at this
  exact (cell_of_row _ _ 0 _ _ _ this).trans rfl
theorem MIn.start (w : World) (pd : Option Addr) (ck lg : Int) : MIn w pd ck lg ((w.alloc (.cells #[.int .i64 ck, .int .i64 lg] 23)).alloc (.cells #[.pointer pd, .int .i64 ck, .int .i64 lg] 102)) := by
  refine ⟨grow2 w _ _, ?_⟩
  obtain ⟨c0, c1, c2⟩ := area_cells (w.alloc (.cells #[.int .i64 ck, .int .i64 lg] 23)) pd ck lg _ (Below.refl _ _)
  rw [show (w.alloc (.cells #[.int .i64 ck, .int .i64 lg] 23)).heap.size = w.heap.size + 1 from by simp] at c0 c1 c2
  exact ⟨c0, c1, c2⟩
theorem conf_cells (w : World) (ck lg : Int) (z : World) (hb : Below (w.alloc (.cells #[.int .i64 ck, .int .i64 lg] 23)).heap.size (w.alloc (.cells #[.int .i64 ck, .int .i64 lg] 23)) z) : z.cell? ⟨w.heap.size, 0, none⟩ = some (.int .i64 ck) ∧ z.cell? ⟨w.heap.size, 1, none⟩ = some (.int .i64 lg) := by
  have hz := (hb.block w.heap.size (by simp)).trans (heap_alloc_last w (.cells #[.int .i64 ck, .int .i64 lg] 23))
  exact ⟨(cell_of_row _ _ 0 _ _ _ hz).trans rfl, (cell_of_row _ _ 1 _ _ _ hz).trans rfl⟩
/-- Make's steps. -/
def mSteps (pd : Option Addr) (ck lg : Int) (B1 B2 B3 B4 B5 : Nat) : List Value := [.func (.func 42) #[areaV pd ck lg] #[], .func (.func 43) #[areaV pd ck lg] #[], .func (.func 76) #[] #[.pointer (some ⟨B1, 0, none⟩), .pointer (some ⟨B2, 0, none⟩)], .func (.func 79) #[] #[.pointer (some ⟨B3, 0, none⟩), .pointer (some ⟨B4, 0, none⟩), .pointer (some ⟨B5, 0, none⟩)]]
set_option maxRecDepth 10000 in
set_option maxHeartbeats 2000000 in
theorem make_wrap (pd : Option Addr) (ck lg : Int) (w : World) (P : Ending → World → Prop) (hP : ∀ e w', P e w' → ∃ x, e = .returned x)
    (hG : ∀ z B1 B2 B3 B4 B5 c T, MIn w pd ck lg z → MA w pd ck lg B1 B2 z → MA w pd ck lg B3 B4 z → MT w B5 z → Calls Tryz.prog 41 #[.slice (some ⟨z.heap.size, 0, none⟩) 4 c] (z.alloc (.cells #[.func (.func 42) #[areaV pd ck lg] #[], .func (.func 43) #[areaV pd ck lg] #[], .func (.func 76) #[] #[.pointer (some ⟨B1, 0, none⟩), .pointer (some ⟨B2, 0, none⟩)], .func (.func 79) #[] #[.pointer (some ⟨B3, 0, none⟩), .pointer (some ⟨B4, 0, none⟩), .pointer (some ⟨B5, 0, none⟩)]] T)) fun e v => P e v ∧ ACell (w.heap.size + 1) pd ck lg v) :
    Calls Tryz.prog 19 #[.pointer pd, confV ck lg] w P := by
  have HG := hide hG
  have HP := hide hP
  obtain ⟨c0, c1⟩ := conf_cells w ck lg _ (Below.refl _ _)
  have K := (MIn.start w pd ck lg).keep ((Below.refl _ _).drew)
  have HK1 : Hid (∀ z, MIn w pd ck lg z → Calls Tryz.prog 44 #[areaV pd ck lg, .int .u64 1] z fun e v => e = .returned (.func (.func 76) #[] #[.pointer (some ⟨z.heap.size, 0, none⟩), .pointer (some ⟨z.heap.size + 1, 0, none⟩)]) ∧ MIn w pd ck lg v ∧ MA w pd ck lg z.heap.size (z.heap.size + 1) v) := fun z hK => by
    refine (clearing_any pd ck lg 1 z).mono ?_
    rintro e v ⟨rfl, rfl⟩
    exact ⟨rfl, hK.keep (grow2 z _ _), MA.new (by have := hK.a.lt; omega)⟩
  have HK2 : Hid (∀ z B1 B2, MIn w pd ck lg z → MA w pd ck lg B1 B2 z → Calls Tryz.prog 45 #[areaV pd ck lg, .int .u64 1, .string ⟨#[]⟩] z fun e v => e = .returned (.func (.func 79) #[] #[.pointer (some ⟨z.heap.size, 0, none⟩), .pointer (some ⟨z.heap.size + 1, 0, none⟩), .pointer (some ⟨z.heap.size + 1 + 1, 0, none⟩)]) ∧ MIn w pd ck lg v ∧ MA w pd ck lg B1 B2 v ∧ MA w pd ck lg z.heap.size (z.heap.size + 1) v ∧ MT w (z.heap.size + 1 + 1) v) := fun z B1 B2 hK hA => by
    refine (saving_any pd ck lg 1 ⟨#[]⟩ z).mono ?_
    rintro e v ⟨rfl, rfl⟩
    exact ⟨rfl, hK.keep (grow3 z _ _ _), hA.keep (grow3 z _ _ _), (MA.new (by have := hK.a.lt; omega)).keep (grow1 _ _), MT.new (by have := hK.a.lt; omega)⟩
  unfold areaV at HK1 HK2 HG
  unfold confV
  clear hG hP
  go_enter Tryz.func19, Tryz.ntmps19
  go_wp2_with fail
  generalize (w.alloc (.cells #[.int .i64 ck, .int .i64 lg] 23)).alloc (.cells #[.pointer pd, .int .i64 ck, .int .i64 lg] 102) = W at *
  clear c0 c1
  go_region_held3 (fun z => z.cell? ⟨w.heap.size + 1, 0, none⟩ = some (.pointer pd) ∧ z.cell? ⟨w.heap.size + 1, 1, none⟩ = some (.int .i64 ck) ∧ z.cell? ⟨w.heap.size + 1, 2, none⟩ = some (.int .i64 lg))
    ((first | (with_reducible exact (MIn.a K).all) | (with_reducible exact (MIn.a K.1).all) | (with_reducible exact ((MIn.a K.1).below (one_below _ _)).all) | (with_reducible exact ACell.all K.2)))
    (first
      | (go_at_call 44; refine (HK1.out _ K).mono ?_; rintro e z1 ⟨rfl, hk1⟩; have K := hk1)
      | (go_at_call 45; refine (HK2.out _ _ _ K.1 K.2).mono ?_; rintro e z2 ⟨rfl, hk2⟩; have K := hk2)
      | (go_at_call 41; refine (HG.out _ _ _ _ _ _ _ _ K.1 K.2.1 K.2.2.1 K.2.2.2).mono ?_; rintro e z3 ⟨hz3, ha3⟩; obtain ⟨x, rfl⟩ := HP.out _ _ hz3; have K := And.intro hz3 ha3))
  all_goals
    have HZ := hide K.1
    clear K
    go_wp2
    exact HZ.out
end Go.Proofs.YtchhojkhfdkhfaaGreatDoor
namespace Go.Proofs.YtchhojkhfdkhfaaGreatDoor
open Go Go.RowKit Frm
theorem whole_odd (l : List ByteArray) (odd : Nat) : (wholeT l odd).1 = 0 ∧ (wholeT l odd).2 = noText ∨ (wholeT l odd).1 % 2 = odd ∧ (wholeT l odd).1 ≠ 0 := by
  rw [whole_eq l odd _ rfl]
  split
  · exact Or.inl ⟨rfl, rfl⟩
  · rename_i h1
    split
    · exact Or.inr ⟨by show numL _ % 2 = odd; omega, by show numL _ ≠ 0; omega⟩
    · exact Or.inl ⟨rfl, rfl⟩
/-- The greater of two. -/
def pick (x c : Nat × ByteArray) : Nat × ByteArray := if x.1 < c.1 then c else x
/-- The slots' checkpoints. -/
def slotW (st : St) (o n : Int) (k : Nat) : Nat × ByteArray := wholeT (blocksAt st (slotAt o n k) (n.toNat / 2)) k
/-- The last one behind k slots. -/
def lastW (st : St) (o n : Int) : Nat → Nat × ByteArray
  | 0 => (0, noText)
  | k + 1 => pick (lastW st o n k) (slotW st o n k)
theorem load_last (st : St) (o n : Int) (hm : st.mayC o n) (h0 : st.left ≠ 0) : st.load o n = if (lastW st o n 2).1 = 0 then ((0, noText), 5) else (lastW st o n 2, 0) := by
  have h1 := whole_odd (blocksAt st (slotAt o n 0) (n.toNat / 2)) 0
  have h2 := whole_odd (blocksAt st (slotAt o n 1) (n.toNat / 2)) 1
  unfold St.load
  rw [if_neg (fun h => h hm), if_neg h0]
  show (if _ then _ else _) = _
  unfold lastW lastW lastW slotW
  generalize wholeT (blocksAt st (slotAt o n 0) (n.toNat / 2)) 0 = a at *
  generalize wholeT (blocksAt st (slotAt o n 1) (n.toNat / 2)) 1 = b at *
  obtain ⟨a1, a2⟩ := a
  obtain ⟨b1, b2⟩ := b
  unfold pick
  simp only at *
  by_cases ha : 0 < a1
  · rw [if_pos ha]
    by_cases hb : a1 < b1
    · rw [if_pos hb, if_neg (by simp; omega), if_neg (by simp; omega), if_neg (by simp; omega)]
    · rw [if_neg hb, if_neg (by simp; omega), if_pos (show b1 < a1 by omega), if_neg (by simp; omega)]
  · have ha0 : a1 = 0 := by omega
    rw [if_neg ha]
    by_cases hb : 0 < b1
    · rw [if_pos hb, if_neg (by simp; omega), if_neg (by simp; omega), if_neg (by simp; omega)]
    · rw [if_neg hb, if_pos ⟨ha0, by omega⟩, if_pos rfl]
set_option maxRecDepth 20000 in
set_option maxHeartbeats 4000000 in
theorem load_in (q : Nat) (o n : Int) (st : St) (F : Nat → Prop) (w : World) (hD : DAt w q st F) (hok : st.Ok) (hl : st.loose.length ≤ 10000) (hm : st.mayC o n) (h0 : st.left ≠ 0) :
    Calls Tryz.prog 47 #[.pointer (some ⟨q, 0, none⟩), .int .i64 o, .int .i64 n] w fun e v => e = .returned (.tuple #[.int .u64 (((st.load o n).1.1 : Nat) : Int), .string (st.load o n).1.2, .int .i64 (((st.load o n).2 : Nat) : Int)]) ∧ Below w.heap.size w v := by
  have hfa := fun u hu => fault_any7 q o n st F w u hD hok (by
    have := room_pos hm.1
    omega) hu
  have hc : faultC st o n = 0 := by unfold faultC; rw [if_pos hm]
  rw [hc] at hfa
  have HFa := hide (hfa _ (one_below w (.cells #[.pointer (some ⟨q, 0, none⟩), .int .i64 o, .int .i64 n] 134)))
  obtain ⟨p1, p2, p3, p4⟩ := room_pos hm.1
  obtain ⟨m1, m2, m3⟩ := hm
  have hF := con.lt hD
  have hfew := hok.few
  have hsl : ∀ k : Nat, k < 2 → slotAt o n k + n.toNat / 2 ≤ st.sure.length := fun k hk => by
    unfold slotAt
    rcases (by omega : k = 0 ∨ k = 1) with rfl | rfl
    · simp; omega
    · simp; omega
  have HS : Hid (∀ (k : Nat) (u : World), k < 2 → Calls Tryz.prog 82 #[.agg #[.pointer (some ⟨q, 0, none⟩), .int .i64 o, .int .i64 n], .int .u64 (k : Int)] u fun e w' => e = .returned (.agg #[.pointer (some ⟨q, 0, none⟩), .int .i64 ((slotAt o n k : Nat) : Int), .int .i64 ((n.toNat / 2 : Nat) : Int), .int .u64 (k : Int)]) ∧ Below u.heap.size u w') := fun k u hk => by
    have := slotOf_any q o n k u ⟨m2, by omega⟩ ⟨by omega, p2⟩
    unfold slotV at this
    rw [Nat.mod_eq_of_lt hk] at this
    exact this
  have HR : Hid (∀ (k : Nat) (u : World), k < 2 → Below w.heap.size w u → Calls Tryz.prog 83 #[.agg #[.pointer (some ⟨q, 0, none⟩), .int .i64 ((slotAt o n k : Nat) : Int), .int .i64 ((n.toNat / 2 : Nat) : Int), .int .u64 (k : Int)]] u fun e w' => ∃ v, e = .returned (.tuple #[v, .int .i64 0]) ∧ OwnL7 w' u.heap.size v (blocksAt st (slotAt o n k) (n.toNat / 2)) ∧ Below u.heap.size u w') := fun k u hk hu =>
    slotRead_any q (slotAt o n k) (n.toNat / 2) (k : Int) st F u (con.same hD (fun j hj => hu.block j (hF j hj))) hok hl (hsl k hk) h0
  have HW : Hid (∀ (k : Nat) (u : World) (base : Nat) (v : Value), k < 2 → OwnL7 u base v (blocksAt st (slotAt o n k) (n.toNat / 2)) → Calls Tryz.prog 84 #[.agg #[.pointer (some ⟨q, 0, none⟩), .int .i64 ((slotAt o n k : Nat) : Int), .int .i64 ((n.toNat / 2 : Nat) : Int), .int .u64 (k : Int)], v] u fun e w' => e = .returned (.agg #[.int .u64 (((slotW st o n k).1 : Nat) : Int), .string (slotW st o n k).2]) ∧ Below u.heap.size u w') := fun k u base v hk hv => by
    have := whole_any (some ⟨q, 0, none⟩) ((slotAt o n k : Nat) : Int) base k v (blocksAt st (slotAt o n k) (n.toNat / 2)) u hv (by rw [blocksAt_length]; omega) (by rw [blocksAt_length]; omega) (blocksAt_full hok _ _ (hsl k hk))
    rw [blocksAt_length] at this
    exact this
  have HLast := hide (load_last st o n ⟨m1, m2, m3⟩ h0)
  have HC0 := hide (heap_alloc_last w (.cells #[.pointer (some ⟨q, 0, none⟩), .int .i64 o, .int .i64 n] 134))
  have HB0 := hide (one_below w (.cells #[.pointer (some ⟨q, 0, none⟩), .int .i64 o, .int .i64 n] 134))
  clear hfa hc hD hok hl h0 hF hfew hsl
  generalize n.toNat / 2 = N2 at *
  go_enter Tryz.func47, Tryz.ntmps47
  go_wp2_with fail
  generalize w.alloc (.cells #[.pointer (some ⟨q, 0, none⟩), .int .i64 o, .int .i64 n] 134) = W at *
  refine HFa.out.mono ?_
  rintro e w1 ⟨rfl, hb1⟩
  have hlt1 : w.heap.size < W.heap.size := (Array.getElem?_eq_some_iff.1 HC0.out).1
  have HC1 := hide ((hb1.block _ hlt1).trans HC0.out)
  have HB1 := hide (HB0.out.trans (hb1.mono HB0.out.size))
  clear HFa HC0 HB0 hb1 hlt1
  go_wp2_with fail
  have HL0 := hide (heap_alloc_last w1 (.cells #[.int .u64 0, .string ⟨#[]⟩] 136))
  have HA0 := hide ((Below.heap_alloc w1 (.cells #[.int .u64 0, .string ⟨#[]⟩] 136) w.heap.size (Array.getElem?_eq_some_iff.1 HC1.out).1).trans HC1.out)
  have HW0 := hide (HB1.out.alloc HB1.out.size (.cells #[.int .u64 0, .string ⟨#[]⟩] 136))
  have HLge : Hid (w.heap.size < w1.heap.size) := (Array.getElem?_eq_some_iff.1 HC1.out).1
  clear HC1 HB1
  generalize w1.alloc (.cells #[.int .u64 0, .string ⟨#[]⟩] 136) = V0 at *
  generalize w1.heap.size = L at *
  go_loopw [12, 13, 14, 15, 16, 26] (fun _ _ _ _ _ i wr => ∃ k : Nat, k ≤ 2 ∧ i = .int .u64 (k : Int) ∧ wr.heap[w.heap.size]? = some (.cells #[.pointer (some ⟨q, 0, none⟩), .int .i64 o, .int .i64 n] 134 (0, 0)) ∧ wr.heap[L]? = some (.cells #[.int .u64 (((lastW st o n k).1 : Nat) : Int), .string (lastW st o n k).2] 136 (0, 0)) ∧ Below w.heap.size w wr) (fun _ _ _ _ _ i _ => 2 - (intOf i).toNat)
  case atStart => exact ⟨0, by omega, rfl, HA0.out, HL0.out, HW0.out⟩
  case round =>
    obtain ⟨k, hk, rfl, hA, hL, hB⟩ := hrel
    have HA := hide hA
    have HL := hide hL
    have HB := hide hB
    by_cases hlt : k < 2
    · have hk2 : (k : Int) < 2 := by omega
      have c0 : wr.cell? ⟨w.heap.size, 0, none⟩ = some (.pointer (some ⟨q, 0, none⟩)) := (cell_of_row wr _ 0 _ _ _ hA).trans rfl
      have c1 : wr.cell? ⟨w.heap.size, 1, none⟩ = some (.int .i64 o) := (cell_of_row wr _ 1 _ _ _ hA).trans rfl
      have c2 : wr.cell? ⟨w.heap.size, 2, none⟩ = some (.int .i64 n) := (cell_of_row wr _ 2 _ _ _ hA).trans rfl
      have KS := hide (HS.out k wr hlt)
      clear hA hL hB
      go_wp2_with fail
      refine KS.out.mono ?_
      rintro e w2 ⟨rfl, hb2⟩
      clear c0 c1 c2 KS
      go_wp2_with fail
      have hb3 := bnext hb2 (one_below w2 (.cells #[.pointer (some ⟨q, 0, none⟩), .int .i64 ((slotAt o n k : Nat) : Int), .int .i64 (N2 : Int), .int .u64 (k : Int)] 138))
      have hS3 := heap_alloc_last w2 (.cells #[.pointer (some ⟨q, 0, none⟩), .int .i64 ((slotAt o n k : Nat) : Int), .int .i64 (N2 : Int), .int .u64 (k : Int)] 138)
      have KR := hide (HR.out k _ hlt (HB.out.trans (hb3.mono HB.out.size)))
      generalize w2.alloc (.cells #[.pointer (some ⟨q, 0, none⟩), .int .i64 ((slotAt o n k : Nat) : Int), .int .i64 (N2 : Int), .int .u64 (k : Int)] 138) = U3 at *
      generalize w2.heap.size = S at *
      refine KR.out.mono ?_
      rintro e w4 ⟨bv, rfl, hO4, hb4⟩
      have hS4 := (hb4.block _ (Array.getElem?_eq_some_iff.1 hS3).1).trans hS3
      have HW4 := hide (HW.out k w4 _ bv hlt hO4)
      have HB4 := hide (bnext hb3 hb4)
      have c0 : w4.cell? ⟨S, 0, none⟩ = some (.pointer (some ⟨q, 0, none⟩)) := (cell_of_row w4 _ 0 _ _ _ hS4).trans rfl
      have c1 : w4.cell? ⟨S, 1, none⟩ = some (.int .i64 ((slotAt o n k : Nat) : Int)) := (cell_of_row w4 _ 1 _ _ _ hS4).trans rfl
      have c2 : w4.cell? ⟨S, 2, none⟩ = some (.int .i64 (N2 : Int)) := (cell_of_row w4 _ 2 _ _ _ hS4).trans rfl
      have c3 : w4.cell? ⟨S, 3, none⟩ = some (.int .u64 (k : Int)) := (cell_of_row w4 _ 3 _ _ _ hS4).trans rfl
      clear hS3 hS4 hb2 hb3 hb4 hO4 KR
      go_wp2_with fail
      refine HW4.out.mono ?_
      rintro e w5 ⟨rfl, hb5⟩
      have hb6 := (bnext (bnext HB4.out hb5) (one_below w5 (.cells #[.int .u64 (((slotW st o n k).1 : Nat) : Int), .string (slotW st o n k).2] 136)))
      have hLt : L < wr.heap.size := (Array.getElem?_eq_some_iff.1 HL.out).1
      have HA6 := hide ((hb6.block _ (Array.getElem?_eq_some_iff.1 HA.out).1).trans HA.out)
      have hL6 := (hb6.block _ hLt).trans HL.out
      have hC6 := heap_alloc_last w5 (.cells #[.int .u64 (((slotW st o n k).1 : Nat) : Int), .string (slotW st o n k).2] 136)
      have hCL : w5.heap.size ≠ L := by have := (bnext HB4.out hb5).size; omega
      have HB6 := hide (HB.out.trans (hb6.mono HB.out.size))
      have HL6 := hide hL6
      have e0 : (w5.alloc (.cells #[.int .u64 (((slotW st o n k).1 : Nat) : Int), .string (slotW st o n k).2] 136)).cell? ⟨w5.heap.size, 0, none⟩ = some (.int .u64 (((slotW st o n k).1 : Nat) : Int)) := new_cell w5 _ 136 0 rfl
      have e1 : (w5.alloc (.cells #[.int .u64 (((slotW st o n k).1 : Nat) : Int), .string (slotW st o n k).2] 136)).cell? ⟨w5.heap.size, 1, none⟩ = some (.string (slotW st o n k).2) := new_cell w5 _ 136 1 rfl
      have g0 : (w5.alloc (.cells #[.int .u64 (((slotW st o n k).1 : Nat) : Int), .string (slotW st o n k).2] 136)).cell? ⟨L, 0, none⟩ = some (.int .u64 (((lastW st o n k).1 : Nat) : Int)) := (cell_of_row _ _ 0 _ _ _ hL6).trans rfl
      have g1 : (w5.alloc (.cells #[.int .u64 (((slotW st o n k).1 : Nat) : Int), .string (slotW st o n k).2] 136)).cell? ⟨L, 1, none⟩ = some (.string (lastW st o n k).2) := (cell_of_row _ _ 1 _ _ _ hL6).trans rfl
      have f0 := free_of hL6 0
      have f1 := free_of hL6 1
      have hLw : w.heap.size ≤ L := Nat.le_of_lt HLge.out
      have HB7 := hide ((HB6.out.setCell (p := ⟨L, 0, none⟩) hLw (.int .u64 (((slotW st o n k).1 : Nat) : Int))).setCell (p := ⟨L, 1, none⟩) hLw (.string (slotW st o n k).2))
      have HL7 := hide (two_set hL6 (.int .u64 (((slotW st o n k).1 : Nat) : Int)) (.string (slotW st o n k).2))
      have hwL : w.heap.size ≠ L := Nat.ne_of_lt HLge.out
      have HA7 : Hid ((((w5.alloc (.cells #[.int .u64 (((slotW st o n k).1 : Nat) : Int), .string (slotW st o n k).2] 136)).setCell ⟨L, 0, none⟩ (.int .u64 (((slotW st o n k).1 : Nat) : Int))).setCell ⟨L, 1, none⟩ (.string (slotW st o n k).2)).heap[w.heap.size]? = some (.cells #[.pointer (some ⟨q, 0, none⟩), .int .i64 o, .int .i64 n] 134 (0, 0))) :=
        (Below.heap_setCell _ ⟨L, 1, none⟩ _ _ hwL).trans ((Below.heap_setCell _ ⟨L, 0, none⟩ _ _ hwL).trans HA6.out)
      have HP : Hid (lastW st o n (k + 1) = pick (lastW st o n k) (slotW st o n k)) := rfl
      clear c0 c1 c2 c3 hb5 hb6 hL6 hC6 HW4 HB4 hLt
      generalize slotW st o n k = c at *
      generalize lastW st o n k = x at *
      by_cases hgt : x.1 < c.1
      · have hgt2 : (x.1 : Int) < (c.1 : Int) := by omega
        have HQ : Hid (lastW st o n (k + 1) = c) := by rw [Hid, HP.out]; unfold pick; rw [if_pos hgt]
        go_wp2
        go_roundw
        case rel => exact ⟨k + 1, hlt, by go_num, HA7.out, by rw [HQ.out]; exact HL7.out, HB7.out⟩
        case measure => simp [intOf]; omega
      · have hgt2 : ¬ (x.1 : Int) < (c.1 : Int) := by omega
        have HQ : Hid (lastW st o n (k + 1) = x) := by rw [Hid, HP.out]; unfold pick; rw [if_neg hgt]
        go_wp2
        go_roundw
        case rel => exact ⟨k + 1, hlt, by go_num, HA6.out, by rw [HQ.out]; exact HL6.out, HB6.out⟩
        case measure => simp [intOf]; omega
    · have hke : k = 2 := by omega
      subst hke
      have g0 : wr.cell? ⟨L, 0, none⟩ = some (.int .u64 (((lastW st o n 2).1 : Nat) : Int)) := (cell_of_row _ _ 0 _ _ _ hL).trans rfl
      have g1 : wr.cell? ⟨L, 1, none⟩ = some (.string (lastW st o n 2).2) := (cell_of_row _ _ 1 _ _ _ hL).trans rfl
      clear hA hL hB hlt hk
      generalize lastW st o n 2 = x at *
      by_cases hx : x.1 = 0
      · have hx2 : (x.1 : Int) = 0 := by omega
        have HQ : Hid (st.load o n = ((0, noText), 5)) := by rw [Hid, HLast.out, if_pos hx]
        clear hx HLast
        go_wp2
        go_ret3
        rw [HQ.out]
        exact ⟨rfl, HB.out⟩
      · have hx2 : ¬ ((x.1 : Int) = 0) := by omega
        have HQ : Hid (st.load o n = (x, 0)) := by rw [Hid, HLast.out, if_neg hx]
        clear hx HLast
        go_wp2_with fail
        go_quiet (fail)
        go_wp2
        go_ret3
        rw [HQ.out]
        exact ⟨rfl, below_drewN HB.out _⟩
/-- Load tells a fault, of the blocks or of the disk. -/
theorem load_fault (pq : Option Addr) (o n : Int) (w : World) (c : Nat) (hc : c ≠ 0) (hF : Calls Tryz.prog 81 #[.agg #[.pointer pq, .int .i64 o, .int .i64 n]] (w.alloc (.cells #[.pointer pq, .int .i64 o, .int .i64 n] 134)) fun e v => e = .returned (.int .i64 (c : Int)) ∧ Below (w.alloc (.cells #[.pointer pq, .int .i64 o, .int .i64 n] 134)).heap.size (w.alloc (.cells #[.pointer pq, .int .i64 o, .int .i64 n] 134)) v) :
    Calls Tryz.prog 47 #[.pointer pq, .int .i64 o, .int .i64 n] w fun e v => e = .returned (.tuple #[.int .u64 0, .string noText, .int .i64 (c : Int)]) ∧ Below w.heap.size w v := by
  have HF := hide hF
  have HB := hide (one_below w (.cells #[.pointer pq, .int .i64 o, .int .i64 n] 134))
  have hz : ¬ ((c : Int) = 0) := by omega
  clear hF hc
  go_enter Tryz.func47, Tryz.ntmps47
  go_wp2_with fail
  generalize w.alloc (.cells #[.pointer pq, .int .i64 o, .int .i64 n] 134) = W at *
  refine HF.out.mono ?_
  rintro e w1 ⟨rfl, hb1⟩
  have HB1 := hide (bnext HB.out hb1)
  clear hb1 HF HB
  go_wp2
  go_ret3
  exact ⟨rfl, HB1.out⟩
set_option maxRecDepth 20000 in
set_option maxHeartbeats 4000000 in
theorem load_down (q : Nat) (o n : Int) (st : St) (F : Nat → Prop) (w : World) (hD : DAt w q st F) (hok : st.Ok) (hl : st.loose.length ≤ 10000) (hm : st.mayC o n) (h0 : st.left = 0) :
    Calls Tryz.prog 47 #[.pointer (some ⟨q, 0, none⟩), .int .i64 o, .int .i64 n] w fun e v => e = .returned (.tuple #[.int .u64 0, .string noText, .int .i64 50]) ∧ Below w.heap.size w v := by
  have hfa := fun u hu => fault_any7 q o n st F w u hD hok (by
    have := room_pos hm.1
    omega) hu
  have hc : faultC st o n = 0 := by unfold faultC; rw [if_pos hm]
  rw [hc] at hfa
  have HFa := hide (hfa _ (one_below w (.cells #[.pointer (some ⟨q, 0, none⟩), .int .i64 o, .int .i64 n] 134)))
  obtain ⟨p1, p2, p3, p4⟩ := room_pos hm.1
  obtain ⟨m1, m2, m3⟩ := hm
  have hF := con.lt hD
  have hfew := hok.few
  have hsl : slotAt o n 0 ≤ 9000 := by
    unfold slotAt
    simp; omega
  have HS : Hid (∀ (u : World), Calls Tryz.prog 82 #[.agg #[.pointer (some ⟨q, 0, none⟩), .int .i64 o, .int .i64 n], .int .u64 0] u fun e w' => e = .returned (.agg #[.pointer (some ⟨q, 0, none⟩), .int .i64 ((slotAt o n 0 : Nat) : Int), .int .i64 ((n.toNat / 2 : Nat) : Int), .int .u64 0]) ∧ Below u.heap.size u w') := fun u =>
    slotOf_any q o n 0 u ⟨m2, by omega⟩ ⟨by omega, p2⟩
  have HR : Hid (∀ (u : World), Below w.heap.size w u → Calls Tryz.prog 83 #[.agg #[.pointer (some ⟨q, 0, none⟩), .int .i64 ((slotAt o n 0 : Nat) : Int), .int .i64 ((n.toNat / 2 : Nat) : Int), .int .u64 0]] u fun e w' => e = .returned (.tuple #[.slice none 0 0, .int .i64 50]) ∧ Below u.heap.size u w') := fun u hu =>
    slotRead_down q ((slotAt o n 0 : Nat) : Int) ((n.toNat / 2 : Nat) : Int) 0 st F u (con.same hD (fun j hj => hu.block j (hF j hj))) hok hl (by omega) (by omega) h0
  have HC0 := hide (heap_alloc_last w (.cells #[.pointer (some ⟨q, 0, none⟩), .int .i64 o, .int .i64 n] 134))
  have HB0 := hide (one_below w (.cells #[.pointer (some ⟨q, 0, none⟩), .int .i64 o, .int .i64 n] 134))
  clear hfa hc hD hok hl h0 hF hfew hsl
  generalize n.toNat / 2 = N2 at *
  generalize slotAt o n 0 = sa at *
  go_enter Tryz.func47, Tryz.ntmps47
  go_wp2_with fail
  generalize w.alloc (.cells #[.pointer (some ⟨q, 0, none⟩), .int .i64 o, .int .i64 n] 134) = W at *
  refine HFa.out.mono ?_
  rintro e w1 ⟨rfl, hb1⟩
  have hlt1 : w.heap.size < W.heap.size := (Array.getElem?_eq_some_iff.1 HC0.out).1
  have hC1 := (hb1.block _ hlt1).trans HC0.out
  have HA0 := hide ((Below.heap_alloc w1 (.cells #[.int .u64 0, .string ⟨#[]⟩] 136) w.heap.size (Array.getElem?_eq_some_iff.1 hC1).1).trans hC1)
  have HB1 := (HB0.out.trans (hb1.mono HB0.out.size))
  have HW0 := hide (HB1.alloc HB1.size (.cells #[.int .u64 0, .string ⟨#[]⟩] 136))
  clear HFa HC0 HB0 hb1 hlt1 hC1 HB1
  go_wp2_with fail
  generalize w1.alloc (.cells #[.int .u64 0, .string ⟨#[]⟩] 136) = V0 at *
  generalize w1.heap.size = L at *
  go_loopw [12, 13, 14, 15, 16, 26] (fun _ _ _ _ _ i wr => i = .int .u64 0 ∧ wr = V0) (fun _ _ _ _ _ _ _ => 0)
  case atStart => exact ⟨rfl, rfl⟩
  case round =>
    obtain ⟨rfl, hwr⟩ := hrel
    obtain rfl := hwr.symm
    have c0 : V0.cell? ⟨w.heap.size, 0, none⟩ = some (.pointer (some ⟨q, 0, none⟩)) := (cell_of_row V0 _ 0 _ _ _ HA0.out).trans rfl
    have c1 : V0.cell? ⟨w.heap.size, 1, none⟩ = some (.int .i64 o) := (cell_of_row V0 _ 1 _ _ _ HA0.out).trans rfl
    have c2 : V0.cell? ⟨w.heap.size, 2, none⟩ = some (.int .i64 n) := (cell_of_row V0 _ 2 _ _ _ HA0.out).trans rfl
    go_wp2_with fail
    refine (HS.out _).mono ?_
    rintro e w2 ⟨rfl, hb2⟩
    clear c0 c1 c2 HS
    go_wp2_with fail
    have hb3 := bnext hb2 (one_below w2 (.cells #[.pointer (some ⟨q, 0, none⟩), .int .i64 (sa : Int), .int .i64 (N2 : Int), .int .u64 0] 138))
    have KR := hide (HR.out _ (HW0.out.trans (hb3.mono HW0.out.size)))
    have HB3 := hide (HW0.out.trans (hb3.mono HW0.out.size))
    generalize w2.alloc (.cells #[.pointer (some ⟨q, 0, none⟩), .int .i64 (sa : Int), .int .i64 (N2 : Int), .int .u64 0] 138) = U3 at *
    refine KR.out.mono ?_
    rintro e w4 ⟨rfl, hb4⟩
    have HB4 := hide (HB3.out.trans (hb4.mono HB3.out.size))
    clear hb2 hb3 hb4 KR HB3
    go_wp2
    go_ret3
    exact ⟨rfl, HB4.out⟩
theorem pLoad (q : Nat) (o n : Int) (st : St) (F : Nat → Prop) (w : World) (hD : DAt w q st F) (hok : st.Ok) (hl : st.loose.length ≤ 10000) (hn : -9223372036854775808 ≤ n ∧ n ≤ 9223372036854775807) :
    Calls Tryz.prog 47 #[.pointer (some ⟨q, 0, none⟩), .int .i64 o, .int .i64 n] w fun e v => e = .returned (.tuple #[.int .u64 (((st.load o n).1.1 : Nat) : Int), .string (st.load o n).1.2, .int .i64 (((st.load o n).2 : Nat) : Int)]) ∧ Below w.heap.size w v := by
  by_cases hm : st.mayC o n
  · by_cases h0 : st.left = 0
    · have e : st.load o n = ((0, noText), 50) := by unfold St.load; rw [if_neg (fun h => h hm), if_pos h0]
      rw [e]
      exact load_down q o n st F w hD hok hl hm h0
    · exact load_in q o n st F w hD hok hl hm h0
  · have e : st.load o n = ((0, noText), 2) := by unfold St.load; rw [if_pos hm]
    rw [e]
    have := fault_any7 q o n st F w _ hD hok hn (one_below w (.cells #[.pointer (some ⟨q, 0, none⟩), .int .i64 o, .int .i64 n] 134))
    unfold faultC at this
    rw [if_neg hm] at this
    exact load_fault (some ⟨q, 0, none⟩) o n w 2 (by decide) this
end Go.Proofs.YtchhojkhfdkhfaaGreatDoor
namespace Go.Proofs.YtchhojkhfdkhfaaGreatDoor
open Go Go.RowKit Frm
/-- A disk, since u0. -/
def Bq (q : Nat) (F : Nat → Prop) (u0 : World) (st : St) (v : World) : Prop := ∃ F', DAt v q st F' ∧ Loc F F' u0 v
theorem Bq.step {q : Nat} {F F1 F2 : Nat → Prop} {u0 v z : World} {st2 : St} (hl : Loc F F1 u0 v) (h1 : DAt z q st2 F2) (h2 : Loc F1 F2 v z) : Bq q F u0 st2 z := ⟨F2, h1, hl.trans h2⟩
/-- Make's boxes, at any step. -/
theorem m_boxes {w u0 v : World} {q : Nat} {F : Nat → Prop} {st : St} {ck lg : Int} {B1 B2 : Nat} (h : MA w (some ⟨q, 0, none⟩) ck lg B1 B2 u0) (hF : ∀ k, F k → k < w.heap.size) (hb : Bq q F u0 st v) : ABox B1 B2 q ck lg 1 v := by
  obtain ⟨F', _, hl⟩ := hb
  have hx : ABox B1 B2 q ck lg 1 u0 := ⟨h.1.1.1, h.1.1.2.1, h.1.1.2.2, h.1.2⟩
  exact hx.same (hl.block B1 hx.lt.1 (fun hf => by have := hF _ hf; have := h.2.1; omega)) (hl.block B2 hx.lt.2 (fun hf => by have := hF _ hf; have := h.2.2; omega))
set_option maxRecDepth 10000 in
set_option maxHeartbeats 1000000 in
theorem pMake8 (q : Nat) (st : St) (F : Nat → Prop) (ck lg : Int) (w : World) (hD : DAt w q st F) (hok : st.Ok) (hl : st.loose.length + 3000 ≤ 8000) (_ : st.sure.length ≤ 400) (_ : I64 ck) (_ : I64 lg) :
    Calls Tryz.prog 19 #[.pointer (some ⟨q, 0, none⟩), confV ck lg] w fun e v => e = .returned (.int .i64 (((stoMake st ck lg).1 : Nat) : Int)) ∧ ∃ F', DAt v q (stoMake st ck lg).2 F' ∧ Loc F F' w v := by
  have hF := con.lt hD
  refine make_wrap (some ⟨q, 0, none⟩) ck lg w _ (fun e v h => ⟨_, h.1⟩) ?_
  intro z B1 B2 B3 B4 B5 c T hz h1 h2 h3
  generalize hu0 : (z.alloc (.cells #[.func (.func 42) #[areaV (some ⟨q, 0, none⟩) ck lg] #[], .func (.func 43) #[areaV (some ⟨q, 0, none⟩) ck lg] #[], .func (.func 76) #[] #[.pointer (some ⟨B1, 0, none⟩), .pointer (some ⟨B2, 0, none⟩)], .func (.func 79) #[] #[.pointer (some ⟨B3, 0, none⟩), .pointer (some ⟨B4, 0, none⟩), .pointer (some ⟨B5, 0, none⟩)]] T)) = u0
  have hbu : Below z.heap.size z u0 := by rw [← hu0]; exact one_below z _
  have hbw := bnext hz.below hbu
  have hzs := hz.a.lt
  have hrow : ∀ k (hk : k < 4), u0.cell? ⟨z.heap.size, 0 + k, none⟩ = some (mSteps (some ⟨q, 0, none⟩) ck lg B1 B2 B3 B4 B5)[k] := fun k hk => by
    rw [← hu0]
    match k, hk with
    | 0, _ => exact (cell_of_row _ _ 0 _ _ _ (heap_alloc_last z _)).trans rfl
    | 1, _ => exact (cell_of_row _ _ 1 _ _ _ (heap_alloc_last z _)).trans rfl
    | 2, _ => exact (cell_of_row _ _ 2 _ _ _ (heap_alloc_last z _)).trans rfl
    | 3, _ => exact (cell_of_row _ _ 3 _ _ _ (heap_alloc_last z _)).trans rfl
  have k1 := h1.keep hbu
  have k2 := h2.keep hbu
  have k3 := h3.keep hbu
  have ka := hz.a.below hbu
  have hD0 : DAt u0 q st F := con.below hD hbw
  have hsame : ∀ {s : St} {v : World} (B : Nat), Bq q F u0 s v → w.heap.size ≤ B → B < u0.heap.size → v.heap[B]? = u0.heap[B]? := fun B hb hB hlt => by
    obtain ⟨F', _, hl⟩ := hb
    exact hl.block B hlt (fun hf => by have := hF _ hf; omega)
  have hz0 : z.heap.size < u0.heap.size := World.block_lt_of_cell? u0 _ (hrow 0 (by decide))
  have hfin : ∀ {s : St} {v : World}, Bq q F u0 s v → (∃ F', DAt v q s F' ∧ Loc F F' w v) ∧ ACell (w.heap.size + 1) (some ⟨q, 0, none⟩) ck lg v := fun hb => by
    have hs := hsame (w.heap.size + 1) hb (by omega) (by omega)
    obtain ⟨F', d1, d2⟩ := hb
    exact ⟨⟨F', d1, (Loc.of_below F hbw).trans d2⟩, ka.same hs⟩
  clear hu0
  have hl1 := hok.some
  have hl2 := hok.few
  have key := inOrder8 z.heap.size 0 c (mSteps (some ⟨q, 0, none⟩) ck lg B1 B2 B3 B4 B5)
    (fun k v => (k = 0 ∧ Bq q F u0 st v) ∨ (k = 1 ∧ st.mayS ck lg ∧ Bq q F u0 st v) ∨ (k = 2 ∧ st.mayS ck lg ∧ (st.load 0 (2 * ck)).2 = 5 ∧ Bq q F u0 st v) ∨
      (k = 3 ∧ st.mayS ck lg ∧ (st.load 0 (2 * ck)).2 = 5 ∧ (walClear st (lo ck.toNat lg.toNat 1) lg.toNat).1 = 0 ∧ Bq q F u0 (walClear st (lo ck.toNat lg.toNat 1) lg.toNat).2 v) ∨ (k = 4 ∧ (stoMake st ck lg).1 = 0 ∧ Bq q F u0 (stoMake st ck lg).2 v))
    (fun x v => x = (((stoMake st ck lg).1 : Nat) : Int) ∧ (stoMake st ck lg).1 ≠ 0 ∧ Bq q F u0 (stoMake st ck lg).2 v) u0 (show (4 : Nat) ≤ 5000 by decide) ?_ ?_ ?_ ?_
  · refine key.mono ?_
    rintro e v ⟨x, rfl, ⟨rfl, hr⟩ | ⟨hx, rfl, h0, hb⟩⟩
    · rcases hr with ⟨hk, _⟩ | ⟨hk, _⟩ | ⟨hk, _⟩ | ⟨hk, _⟩ | ⟨_, h0, hb⟩
      · exact absurd (show (4 : Nat) = 0 from hk) (by decide)
      · exact absurd (show (4 : Nat) = 1 from hk) (by decide)
      · exact absurd (show (4 : Nat) = 2 from hk) (by decide)
      · exact absurd (show (4 : Nat) = 3 from hk) (by decide)
      · exact ⟨⟨by rw [h0]; rfl, (hfin hb).1⟩, (hfin hb).2⟩
    · exact ⟨⟨rfl, (hfin hb).1⟩, (hfin hb).2⟩
  · intro k hk v hr
    have hb : ∃ s, Bq q F u0 s v := by
      rcases hr with ⟨_, hb⟩ | ⟨_, _, hb⟩ | ⟨_, _, _, hb⟩ | ⟨_, _, _, _, hb⟩ | ⟨_, _, hb⟩ <;> exact ⟨_, hb⟩
    obtain ⟨s, hb⟩ := hb
    exact (cell_same8 (hsame z.heap.size hb (by have := hz.below.size; omega) hz0) _).trans (hrow k hk)
  · intro k hk
    match k, hk with
    | 0, _ => exact Or.inl ⟨_, rfl⟩
    | 1, _ => exact Or.inr (Or.inl ⟨_, rfl⟩)
    | 2, _ => exact Or.inr (Or.inr (Or.inl ⟨_, _, rfl⟩))
    | 3, _ => exact Or.inr (Or.inr (Or.inr (Or.inl ⟨_, _, _, rfl⟩)))
  · intro k hk v hr
    rcases hr with ⟨rfl, hb⟩ | ⟨rfl, hm, hb⟩ | ⟨rfl, hm, hld, hb⟩ | ⟨rfl, hm, hld, hcl0, hb⟩ | ⟨rfl, _⟩
    · obtain ⟨F1, hd, hlc⟩ := hb
      intro n a he
      cases he
      by_cases hm : st.mayS ck lg
      · refine calls_eq (a := #[areaV (some ⟨q, 0, none⟩) ck lg]) rfl ((fault8_any (some ⟨q, 0, none⟩) ck lg (st.sure.length : Int) (blocksC ck lg) v 0 (fun y hy => con.size q st F1 y (con.below hd hy) hok) (fun y => blocks8_any ck lg y) ?_).mono ?_)
        · rw [if_neg (by omega), if_neg (by have := hm.1; have := hm.2; omega)]
        · rintro e y ⟨rfl, hy⟩
          exact ⟨0, rfl, Or.inl ⟨rfl, Or.inr (Or.inl ⟨rfl, hm, F1, con.below hd hy, hlc.trans (Loc.of_below F1 hy)⟩)⟩⟩
      · have e2 : stoMake st ck lg = (2, st) := by unfold stoMake; rw [if_pos hm]
        refine calls_eq (a := #[areaV (some ⟨q, 0, none⟩) ck lg]) rfl ((fault8_any (some ⟨q, 0, none⟩) ck lg (st.sure.length : Int) (blocksC ck lg) v 2 (fun y hy => con.size q st F1 y (con.below hd hy) hok) (fun y => blocks8_any ck lg y) ?_).mono ?_)
        · rw [if_neg (by omega), if_pos (by
            by_cases h0 : blocksC ck lg = 0
            · exact Or.inl h0
            · refine Or.inr ?_
              have : ¬ blocksC ck lg ≤ (st.sure.length : Int) := fun hh => hm ⟨h0, hh⟩
              omega)]
        · rintro e y ⟨rfl, hy⟩
          refine ⟨2, rfl, Or.inr ⟨by decide, ?_⟩⟩
          rw [e2]
          exact ⟨rfl, (show ¬ (2 : Nat) = 0 by decide), F1, con.below hd hy, hlc.trans (Loc.of_below F1 hy)⟩
    · obtain ⟨F1, hd, hlc⟩ := hb
      obtain ⟨kk, ll, rfl, rfl, q1, q2, q3, q4, q5, q6⟩ := mayS_nat hm
      intro n a he
      cases he
      have hld := fun y (hy : Below v.heap.size v y) => pLoad q 0 (2 * (kk : Int)) st F1 y (con.below hd hy) hok (by omega) (by omega)
      refine calls_eq (a := #[areaV (some ⟨q, 0, none⟩) (kk : Int) (ll : Int)]) rfl ((unused_any (some ⟨q, 0, none⟩) (kk : Int) (ll : Int) (2 * (kk : Int)) (st.load 0 (2 * (kk : Int))).1.1 (st.load 0 (2 * (kk : Int))).1.2 (st.load 0 (2 * (kk : Int))).2 v (fun y => ckb_any _ _ _ y (by omega)) hld _ rfl).mono ?_)
      rintro e y ⟨rfl, hy⟩
      have hb2 : Bq q F u0 st y := ⟨F1, con.below hd hy, hlc.trans (Loc.of_below F1 hy)⟩
      refine ⟨_, rfl, ?_⟩
      by_cases c0 : (st.load 0 (2 * (kk : Int))).2 = 0
      · have e2 : stoMake st (kk : Int) (ll : Int) = (7, st) := by unfold stoMake; rw [if_neg (fun x => x hm), if_pos c0]
        rw [if_pos c0, e2]
        exact Or.inr ⟨by decide, rfl, (show ¬ (7 : Nat) = 0 by decide), hb2⟩
      · by_cases c5 : (st.load 0 (2 * (kk : Int))).2 = 5
        · rw [if_neg c0, if_pos c5]
          exact Or.inl ⟨rfl, Or.inr (Or.inr (Or.inl ⟨rfl, hm, c5, hb2⟩))⟩
        · have e2 : stoMake st (kk : Int) (ll : Int) = ((st.load 0 (2 * (kk : Int))).2, st) := by unfold stoMake; rw [if_neg (fun x => x hm), if_neg c0, if_pos c5]
          rw [if_neg c0, if_neg c5, e2]
          exact Or.inr ⟨by omega, rfl, c0, hb2⟩
    · have ha := m_boxes k1 hF hb
      have hbx : ∀ {s : St} {y : World}, Bq q F u0 s y → ABox B1 B2 q ck lg 1 y := fun hy => m_boxes k1 hF hy
      obtain ⟨F1, hd, hlc⟩ := hb
      obtain ⟨kk, ll, rfl, rfl, q1, q2, q3, q4, q5, q6⟩ := mayS_nat hm
      have em : stoMake st (kk : Int) (ll : Int) = andT (walClear st (lo kk ll 1) ll) (fun s => s.save 0 (2 * (kk : Int)) 1 noText) := by
        unfold stoMake
        rw [if_neg (fun x => x hm), if_neg (by rw [hld]; decide), if_neg (fun x => x hld), Int.toNat_natCast, Int.toNat_natCast]
      intro n a he
      cases he
      rw [Int.toNat_natCast, Int.toNat_natCast]
      refine calls_eq (a := #[.pointer (some ⟨B1, 0, none⟩), .pointer (some ⟨B2, 0, none⟩)]) rfl (((clear1_any B1 B2 q (kk : Int) (ll : Int) 1 ((lo kk ll 1 : Nat) : Int) v (fun e z => e = .returned (.int .i64 (((walClear st (lo kk ll 1) ll).1 : Nat) : Int)) ∧ Bq q F u0 (walClear st (lo kk ll 1) ll).2 z) ha ?_ ?_ ?_)).mono ?_)
      · rintro e y ⟨rfl, hy⟩
        exact ⟨_, rfl, hbx hy⟩
      · exact fun y => logOf_any (some ⟨q, 0, none⟩) kk ll 1 y q2 q4
      · intro y hy
        refine (clear_any q (lo kk ll 1) ll st F1 y (con.below hd hy) hok (by omega) (by unfold lo; omega) q3).mono ?_
        rintro e z2 ⟨rfl, F2, hd2, hl2⟩
        exact ⟨rfl, Bq.step hlc hd2 ((Loc.of_below F1 hy).trans hl2)⟩
      · rintro e y ⟨rfl, hy⟩
        refine ⟨_, rfl, ?_⟩
        by_cases h0 : (walClear st (lo kk ll 1) ll).1 = 0
        · exact Or.inl ⟨by rw [h0]; rfl, Or.inr (Or.inr (Or.inr (Or.inl ⟨rfl, hm, hld, h0, hy⟩)))⟩
        · rw [em, andT_stop _ h0]
          exact Or.inr ⟨by omega, rfl, h0, hy⟩
    · have ha := m_boxes k2 hF hb
      have hbx : ∀ {s : St} {y : World}, Bq q F u0 s y → ABox B3 B4 q ck lg 1 y ∧ y.cell? ⟨B5, 0, none⟩ = some (.string ⟨#[]⟩) := fun hy =>
        ⟨m_boxes k2 hF hy, (cell_same8 (hsame B5 hy (by have := k3.2; omega) (World.block_lt_of_cell? u0 _ k3.1)) 0).trans k3.1⟩
      have h5 := (hbx hb).2
      obtain ⟨F1, hd, hlc⟩ := hb
      obtain ⟨kk, ll, rfl, rfl, q1, q2, q3, q4, q5, q6⟩ := mayS_nat hm
      have em : stoMake st (kk : Int) (ll : Int) = andT (walClear st (lo kk ll 1) ll) (fun s => s.save 0 (2 * (kk : Int)) 1 noText) := by
        unfold stoMake
        rw [if_neg (fun x => x hm), if_neg (by rw [hld]; decide), if_neg (fun x => x hld), Int.toNat_natCast, Int.toNat_natCast]
      rw [Int.toNat_natCast, Int.toNat_natCast] at hcl0 hd
      rw [andT_go _ hcl0] at em
      have hokC := clear_ok hok (lo kk ll 1) ll
      have hclf := clear_few st (lo kk ll 1) ll
      have hlng := clear_long (lo kk ll 1) ll st (by unfold lo; omega)
      intro n a he
      cases he
      rw [em]
      refine calls_eq (a := #[.pointer (some ⟨B3, 0, none⟩), .pointer (some ⟨B4, 0, none⟩), .pointer (some ⟨B5, 0, none⟩)]) rfl (((save1_any B3 B4 B5 q (kk : Int) (ll : Int) 1 (2 * (kk : Int)) ⟨#[]⟩ v (fun e z => e = .returned (.int .i64 ((((walClear st (lo kk ll 1) ll).2.save 0 (2 * (kk : Int)) 1 noText).1 : Nat) : Int)) ∧ Bq q F u0 ((walClear st (lo kk ll 1) ll).2.save 0 (2 * (kk : Int)) 1 noText).2 z) ha h5 ?_ ?_ ?_)).mono ?_)
      · rintro e y ⟨rfl, hy⟩
        exact ⟨_, rfl, hbx hy⟩
      · exact fun y => ckb_any (some ⟨q, 0, none⟩) (kk : Int) (ll : Int) y (by omega)
      · intro y hy
        refine (pSave q 0 (2 * (kk : Int)) 1 noText (walClear st (lo kk ll 1) ll).2 F1 y (con.below hd hy) hokC (by have := hlng.2 hcl0; rw [this]; decide) (by omega) (by decide)).mono ?_
        rintro e z2 ⟨rfl, F2, hd2, hl2⟩
        exact ⟨rfl, Bq.step hlc hd2 ((Loc.of_below F1 hy).trans hl2)⟩
      · rintro e y ⟨rfl, hy⟩
        refine ⟨_, rfl, ?_⟩
        by_cases h0 : ((walClear st (lo kk ll 1) ll).2.save 0 (2 * (kk : Int)) 1 noText).1 = 0
        · exact Or.inl ⟨by rw [h0]; rfl, Or.inr (Or.inr (Or.inr (Or.inr ⟨rfl, h0, hy⟩)))⟩
        · exact Or.inr ⟨by omega, rfl, h0, hy⟩
    · exact absurd (show (4 : Nat) < 4 from hk) (by decide)
  · exact Or.inl ⟨rfl, F, hD0, Loc.refl _ _⟩
end Go.Proofs.YtchhojkhfdkhfaaGreatDoor
namespace Go.Proofs.YtchhojkhfdkhfaaGreatDoor
open Go Go.RowKit Frm
/-- Nothing but some blocks was turned. -/
theorem Loc.two {F F' : Nat → Prop} {w u v : World} {N : Nat → Prop} (hb : Below w.heap.size w u) (hN : ∀ k, N k → w.heap.size ≤ k) (hl : Loc (fun k => F k ∨ N k) (fun k => F' k ∨ N k) u v) : Loc F F' w v :=
  ⟨hl.os.trans hb.os, hl.tape.trans hb.tape, hl.output.trans hb.output, Nat.le_trans hb.size hl.size, fun k hk hf => (hl.block k (Nat.lt_of_lt_of_le hk hb.size) (fun hh => hh.elim hf (fun e => by have := hN k e; omega))).trans (hb.block k hk), fun k hk => by
    rcases hl.own k (Or.inl hk) with (h | h) | h
    · exact Or.inl h
    · exact Or.inr (hN k h)
    · have := hb.size; exact Or.inr (by omega)⟩
/-- What Open's first step reads. -/
structure OBx (pd : Option Addr) (p Bd Bs : Nat) (x2 : Value) (ck lg : Int) (u : World) : Prop where
  d : u.cell? ⟨Bd, 0, none⟩ = some (.pointer pd)
  s : u.cell? ⟨Bs, 0, none⟩ = some (.pointer (some ⟨p, 0, none⟩))
  c2 : u.cell? ⟨p, 2, none⟩ = some x2
  c3 : u.cell? ⟨p, 3, none⟩ = some (.int .i64 ck)
  c4 : u.cell? ⟨p, 4, none⟩ = some (.int .i64 lg)
theorem OBx.all {pd : Option Addr} {p Bd Bs : Nat} {x2 : Value} {ck lg : Int} {u : World} (h : OBx pd p Bd Bs x2 ck lg u) : u.cell? ⟨Bd, 0, none⟩ = some (.pointer pd) ∧ u.cell? ⟨Bs, 0, none⟩ = some (.pointer (some ⟨p, 0, none⟩)) ∧ u.cell? ⟨p, 2, none⟩ = some x2 ∧ u.cell? ⟨p, 3, none⟩ = some (.int .i64 ck) ∧ u.cell? ⟨p, 4, none⟩ = some (.int .i64 lg) := ⟨h.d, h.s, h.c2, h.c3, h.c4⟩
theorem OBx.same {pd : Option Addr} {p Bd Bs : Nat} {x2 : Value} {ck lg : Int} {u v : World} (h : OBx pd p Bd Bs x2 ck lg u) (h1 : v.heap[Bd]? = u.heap[Bd]?) (h2 : v.heap[Bs]? = u.heap[Bs]?) (h3 : v.heap[p]? = u.heap[p]?) : OBx pd p Bd Bs x2 ck lg v :=
  ⟨(cell_same8 h1 0).trans h.d, (cell_same8 h2 0).trans h.s, (cell_same8 h3 2).trans h.c2, (cell_same8 h3 3).trans h.c3, (cell_same8 h3 4).trans h.c4⟩
theorem OBx.lt {pd : Option Addr} {p Bd Bs : Nat} {x2 : Value} {ck lg : Int} {u : World} (h : OBx pd p Bd Bs x2 ck lg u) : Bd < u.heap.size ∧ Bs < u.heap.size ∧ p < u.heap.size := ⟨World.block_lt_of_cell? u _ h.d, World.block_lt_of_cell? u _ h.s, World.block_lt_of_cell? u _ h.c2⟩
theorem OBx.below {pd : Option Addr} {p Bd Bs : Nat} {x2 : Value} {ck lg : Int} {u v : World} (h : OBx pd p Bd Bs x2 ck lg u) (hb : Below u.heap.size u v) : OBx pd p Bd Bs x2 ck lg v := h.same (hb.block _ h.lt.1) (hb.block _ h.lt.2.1) (hb.block _ h.lt.2.2)
theorem OBx.set {pd : Option Addr} {p Bd Bs B : Nat} {x2 : Value} {ck lg : Int} {u : World} (h : OBx pd p Bd Bs x2 ck lg u) (hB : B ≠ Bd ∧ B ≠ Bs ∧ B ≠ p) (i : Nat) (a : Value) : OBx pd p Bd Bs x2 ck lg (u.setCell ⟨B, i, none⟩ a) :=
  h.same (Below.heap_setCell u ⟨B, i, none⟩ a Bd (fun e => hB.1 e.symm)) (Below.heap_setCell u ⟨B, i, none⟩ a Bs (fun e => hB.2.1 e.symm)) (Below.heap_setCell u ⟨B, i, none⟩ a p (fun e => hB.2.2 e.symm))
theorem row_cells3 {u : World} {B : Nat} {x y z : Value} {T : TypeId} (h : u.heap[B]? = some (.cells #[x, y, z] T (0, 0))) : (u.cell? ⟨B, 0, none⟩ = some x ∧ u.cell? ⟨B, 1, none⟩ = some y ∧ u.cell? ⟨B, 2, none⟩ = some z) ∧ ∀ i, u.frozen? ⟨B, i, none⟩ = false := by
  refine ⟨⟨?_, ?_, ?_⟩, fun i => ?_⟩ <;> simp [World.cell?, World.frozen?, h]
set_option maxRecDepth 10000 in
set_option maxHeartbeats 2000000 in
theorem open1_any (pd : Option Addr) (p Bd Bs Bk : Nat) (x2 : Value) (ck lg n : Int) (g : Nat) (t : ByteArray) (c : Int) (u : World) (y0 y1 y2 : Value) (hx : x2 = .pointer pd) (h : OBx pd p Bd Bs x2 ck lg u) (hk : u.heap[Bk]? = some (.cells #[y0, y1, y2] 61 (0, 0))) (hB : Bk ≠ Bd ∧ Bk ≠ Bs ∧ Bk ≠ p)
    (hK : ∀ v, Calls Tryz.prog 48 #[areaV pd ck lg] v fun e w' => e = .returned (.int .i64 n) ∧ Below v.heap.size v w')
    (hL : ∀ v, Below u.heap.size u v → Calls Tryz.prog 47 #[.pointer pd, .int .i64 0, .int .i64 n] v fun e w' => e = .returned (.tuple #[.int .u64 (g : Int), .string t, .int .i64 c]) ∧ Below v.heap.size v w') :
    Calls Tryz.prog 46 #[.pointer (some ⟨Bd, 0, none⟩), .pointer (some ⟨Bs, 0, none⟩), .pointer (some ⟨Bk, 0, none⟩)] u fun e v => e = .returned (.int .i64 c) ∧ ∃ z, Below u.heap.size u z ∧ v = (z.setCell ⟨Bk, 0, none⟩ (.int .u64 (g : Int))).setCell ⟨Bk, 1, none⟩ (.string t) := by
  subst hx
  have HL := hide hL
  have HK := hide hK
  have HB := hide hB
  have HC : Hid (∀ v, Below u.heap.size u v → OBx pd p Bd Bs (.pointer pd) ck lg v) := fun v hb => h.below hb
  have HN : Hid (∀ v, Below u.heap.size u v → v.heap[Bk]? = some (.cells #[y0, y1, y2] 61 (0, 0))) := fun v hb => (hb.block _ (Array.getElem?_eq_some_iff.1 hk).1).trans hk
  have K : Below u.heap.size u u.drew := (Below.refl _ u).drew
  unfold areaV at *
  clear h hk hL hK hB
  go_enter Tryz.func46, Tryz.ntmps46
  go_wp2_with fail
  go_region_held3 (fun z => z.cell? ⟨Bd, 0, none⟩ = some (.pointer pd) ∧ z.cell? ⟨Bs, 0, none⟩ = some (.pointer (some ⟨p, 0, none⟩)) ∧ z.cell? ⟨p, 2, none⟩ = some (.pointer pd) ∧ z.cell? ⟨p, 3, none⟩ = some (.int .i64 ck) ∧ z.cell? ⟨p, 4, none⟩ = some (.int .i64 lg))
    ((first | (with_reducible exact (HC.out _ K).all) | (with_reducible exact ((HC.out _ K).set HB.out _ _).all) | (with_reducible exact (((HC.out _ K).set HB.out _ _).set HB.out _ _).all)))
    (first
      | (go_at_call 48; refine (HK.out _).mono ?_; rintro e z0 ⟨rfl, hb0⟩; have K := bnext K hb0)
      | (go_at_call 47; refine (HL.out _ K).mono ?_; rintro e z0 ⟨rfl, hb0⟩; have K := bnext K hb0; obtain ⟨⟨r0, r1, -⟩, fr⟩ := row_cells3 (HN.out _ K); have f0 := fr 0; have f1 := fr 1; clear fr))
  all_goals
    have HZ := hide K
    clear K
    go_wp2
    go_ret
    exact ⟨rfl, _, HZ.out, rfl⟩
end Go.Proofs.YtchhojkhfdkhfaaGreatDoor
