/- The program's checkpoints: each step does what it says. -/
import Derived.Test.YtiebhdgpnloieaaDoorCe
namespace Go.Proofs.YtiebhdgpnloieaaDoor
open Go Go.RowKit Frm
theorem act_sync (u : World) (q m : Nat) (K : Nat → Prop) : ActAt u q K (.func (.func 38) #[.pointer (some ⟨q, 0, none⟩)] #[]) St.sync m := by
  refine ⟨Or.inr (Or.inl ⟨q, rfl⟩), fun st F w _ _ hD _ hok hm n a e => ?_, fun st hok => ⟨hok.sync, ?_⟩⟩
  · cases e
    exact con.sync q st F w hD hok (by omega)
  · unfold St.sync
    split
    · show st.loose.length ≤ _; omega
    · show 0 ≤ _; omega
theorem write_few (st : St) (b : Int) (d : ByteArray) : (st.write b d).2.loose.length ≤ st.loose.length + 1 := by
  unfold St.write
  split
  · show st.loose.length ≤ _; omega
  · split
    · show st.loose.length ≤ _; omega
    · split
      · show st.loose.length ≤ _; omega
      · show (st.loose ++ [_]).length ≤ _; simp
theorem act_write (u : World) (q B m : Nat) (K : Nat → Prop) (b : Int) (d : ByteArray) (h : WrAt u B q b d) (hK : K B ∧ K (B + 1) ∧ K (B + 1 + 1)) (hm : 1 ≤ m) (hb : -9223372036854775808 ≤ b ∧ b ≤ 9223372036854775807) : ActAt u q K (wrV B) (fun s => s.write b d) m := by
  refine ⟨Or.inl ⟨B, rfl⟩, fun st F w _ hk hD _ hok hl n a e => ?_, fun st hok => ⟨hok.write b d, Nat.le_trans (write_few st b d) (by omega)⟩⟩
  cases e
  exact writing1_any B q b d st F w (h.same (hk _ hK.1) (hk _ hK.2.1) (hk _ hK.2.2)) hD hok (by omega) hb
theorem ActAt.more {u : World} {q m m' : Nat} {K K' : Nat → Prop} {v : Value} {f : St → Nat × St} (h : ActAt u q K v f m) (hK : ∀ k, K k → K' k) (hm : m ≤ m') : ActAt u q K' v f m' :=
  ⟨h.form, fun st F w hs hk hD hF hok hl => h.calls st F w hs (fun k kk => hk k (hK k kk)) hD (fun k kk => hF k (hK k kk)) hok (by omega), fun st hok => ⟨(h.ok st hok).1, Nat.le_trans (h.ok st hok).2 (by omega)⟩⟩
/-- The writes of a text's blocks. -/
def wrs (o : Nat) (t : ByteArray) (i n : Nat) : List (St → Nat × St) := (List.range' i n).map fun j => fun s => s.write ((o + j : Nat) : Int) (blkT t j)
theorem runs_wrs (o : Nat) (t : ByteArray) : ∀ (n i : Nat) (st : St), runs (wrs o t i n) st = putsT o t n i st
  | 0, _, _ => rfl
  | n + 1, i, st => by
    unfold wrs
    rw [List.range'_succ, List.map_cons]
    show andT _ (runs _) = andT _ _
    congr 1
    funext s
    exact runs_wrs o t n (i + 1) s
theorem putsT_ok (o : Nat) (t : ByteArray) : ∀ (n i : Nat) (st : St), st.Ok → (putsT o t n i st).2.Ok ∧ (putsT o t n i st).2.loose.length ≤ st.loose.length + n
  | 0, _, st, h => ⟨h, Nat.le_refl _⟩
  | n + 1, i, st, h => by
    have h1 := h.write ((o + i : Nat) : Int) (blkT t i)
    have h2 := write_few st ((o + i : Nat) : Int) (blkT t i)
    show (andT (st.write ((o + i : Nat) : Int) (blkT t i)) (putsT o t n (i + 1))).2.Ok ∧ (andT (st.write ((o + i : Nat) : Int) (blkT t i)) (putsT o t n (i + 1))).2.loose.length ≤ _
    unfold andT
    split
    · have h3 := putsT_ok o t n (i + 1) _ h1
      exact ⟨h3.1, by omega⟩
    · exact ⟨h1, by omega⟩
set_option maxRecDepth 10000 in
set_option maxHeartbeats 1000000 in
theorem inOrder_none (w : World) : Calls Tryd.prog 36 #[.slice none 0 0] w fun e v => e = .returned (.int .i64 0) ∧ v = w := by
  go_enter Tryd.func36, Tryd.ntmps36
  go_wp2_with fail
  go_loopw [4, 5, 8] (fun d e i wr => i = .int .i64 0 ∧ wr = w) (fun _ _ i _ => 0)
  case atStart => exact ⟨rfl, rfl⟩
  case round =>
    obtain ⟨rfl, hw⟩ := hrel
    obtain rfl := hw.symm
    go_wp2
    go_ret
    exact ⟨rfl, rfl⟩
set_option maxRecDepth 10000 in
set_option maxHeartbeats 1000000 in
/-- The step that writes a text. -/
theorem text1_any (p q o : Nat) (t : ByteArray) (vS : Value) (Bs : List Nat) (st : St) (F : Nat → Prop) (w : World) (hn : Bs.length ≤ 4000) (ho : o ≤ 9000) (hbox : w.cell? ⟨p, 0, none⟩ = some vS) (hrow : w.ownsRow 0 87 1 vS Bs.length (Bs.map wrV)) (hvF : ∀ j, vS.ownBlock = some j → ¬ F j)
    (hacts : ∀ j (hj : j < Bs.length), WrAt w Bs[j] q (((o + j : Nat) : Nat) : Int) (blkT t j) ∧ ¬ F Bs[j] ∧ ¬ F (Bs[j] + 1) ∧ ¬ F (Bs[j] + 1 + 1)) (hD : DAt w q st F) (hok : st.Ok) (hm : st.loose.length + Bs.length ≤ 10000) :
    Calls Tryd.prog 60 #[.pointer (some ⟨p, 0, none⟩)] w fun e v => e = .returned (.int .i64 (((putsT o t Bs.length 0 st).1 : Nat) : Int)) ∧ ∃ F', DAt v q (putsT o t Bs.length 0 st).2 F' ∧ Loc F F' w v := by
  have KC : Hid (Calls Tryd.prog 36 #[vS] w fun e v => e = .returned (.int .i64 (((putsT o t Bs.length 0 st).1 : Nat) : Int)) ∧ ∃ F', DAt v q (putsT o t Bs.length 0 st).2 F' ∧ Loc F F' w v) := by
    rcases hrow.2 with ⟨rfl, h0⟩ | ⟨g, cap, cur, rfl, hg, hh, hc, hx⟩
    · rw [h0]
      refine (inOrder_none w).mono ?_
      rintro e v ⟨rfl, rfl⟩
      exact ⟨rfl, F, hD, Loc.refl _ _⟩
    · rw [← runs_wrs]
      have hlen : (Bs.map wrV).length = Bs.length := List.length_map ..
      have hK : ∀ k, (∃ j, ∃ hj : j < Bs.length, k = Bs[j] ∨ k = Bs[j] + 1 ∨ k = Bs[j] + 1 + 1) → k < w.heap.size ∧ ¬ F k := by
        rintro k ⟨j, hj, hk⟩
        obtain ⟨h1, h2, h3, h4⟩ := hacts j hj
        have := h1.lt
        rcases hk with rfl | rfl | rfl
        · exact ⟨by omega, h2⟩
        · exact ⟨by omega, h3⟩
        · exact ⟨by omega, h4⟩
      have := inOrder_any q g 0 cap 1 (Bs.map wrV) (wrs o t 0 Bs.length) (fun k => ∃ j, ∃ hj : j < Bs.length, k = Bs[j] ∨ k = Bs[j] + 1 ∨ k = Bs[j] + 1 + 1) st F w (by unfold wrs; simp) (by rw [hlen]; omega)
        (fun j hj => by
          have hx := World.ownsRow.cells hrow (g := g) rfl j (Bs.map wrV)[j] (List.getElem?_eq_getElem hj)
          rw [add_at] at hx
          rw [Nat.zero_add]
          exact hx) (own_lt hrow rfl) (hvF g rfl)
        (fun j hj hf => by
          have hj2 : j < Bs.length := by rw [hlen] at hj; exact hj
          have e1 : (Bs.map wrV)[j] = wrV Bs[j] := List.getElem_map ..
          have e2 : (wrs o t 0 Bs.length)[j] = fun s => s.write ((o + j : Nat) : Int) (blkT t j) := by unfold wrs; simp
          rw [e1, e2]
          exact act_write w q Bs[j] 1 _ _ _ (hacts j hj2).1 ⟨⟨j, hj2, Or.inl rfl⟩, ⟨j, hj2, Or.inr (Or.inl rfl)⟩, ⟨j, hj2, Or.inr (Or.inr rfl)⟩⟩ (Nat.le_refl _) (by omega)) hD hok hK (by rw [hlen]; omega)
      rw [hlen] at this
      exact this
  clear hrow hacts hvF
  go_enter Tryd.func60, Tryd.ntmps60
  go_wp2_with fail
  refine KC.out.mono ?_
  rintro e w1 ⟨rfl, F1, h1, l1⟩
  go_wp2
  go_ret
  exact ⟨rfl, F1, h1, l1⟩
/-- The step that writes a text, as a step. -/
theorem act_text (u : World) (p q o m : Nat) (t : ByteArray) (vS : Value) (Bs : List Nat) (K : Nat → Prop) (hn : Bs.length ≤ 4000) (ho : o ≤ 9000) (hbox : u.cell? ⟨p, 0, none⟩ = some vS) (hrow : u.ownsRow 0 87 1 vS Bs.length (Bs.map wrV))
    (hK : K p ∧ (∀ j, vS.ownBlock = some j → K j) ∧ ∀ j (hj : j < Bs.length), K Bs[j] ∧ K (Bs[j] + 1) ∧ K (Bs[j] + 1 + 1)) (hacts : ∀ j (hj : j < Bs.length), WrAt u Bs[j] q (((o + j : Nat) : Nat) : Int) (blkT t j)) (hm : Bs.length ≤ m) :
    ActAt u q K (.func (.func 60) #[] #[.pointer (some ⟨p, 0, none⟩)]) (putsT o t Bs.length 0) m := by
  refine ⟨Or.inr (Or.inr ⟨p, rfl⟩), fun st F w _ hk hD hKF hok hl n a e => ?_, fun st hok => ⟨(putsT_ok o t _ 0 st hok).1, Nat.le_trans (putsT_ok o t _ 0 st hok).2 (by omega)⟩⟩
  cases e
  refine text1_any p q o t vS Bs st F w hn ho ((World.cell?_of_block (a := ⟨p, 0, none⟩) (hk _ hK.1)).trans hbox) (own_same hrow (fun j hj => hk j (hK.2.1 j hj))) (fun j hj => hKF j (hK.2.1 j hj)) (fun j hj => ?_) hD hok (by omega)
  obtain ⟨k1, k2, k3⟩ := hK.2.2 j hj
  exact ⟨(hacts j hj).same (hk _ k1) (hk _ k2) (hk _ k3), hKF _ k1, hKF _ k2, hKF _ k3⟩
end Go.Proofs.YtiebhdgpnloieaaDoor
