/- The document's own log: Append. -/
import Derived.Test.YtelkccfjeinlcaaGROpen
import Derived.Test.YtelkccfjeinlcaaGAlive
namespace Go.Proofs.Ytelkccfjeinlcaa
open Go Go.RowKit Frm
theorem RLAt.c0 {u : World} {p q o n : Nat} {s : ByteArray} {b : Bool} (h : RLAt u p q o n s b) : u.cell? ⟨p, 0, none⟩ = some (.pointer (some ⟨q, 0, none⟩)) := by simp [World.cell?, show u.heap[p]? = _ from h]
theorem RLAt.c1 {u : World} {p q o n : Nat} {s : ByteArray} {b : Bool} (h : RLAt u p q o n s b) : u.cell? ⟨p, 1, none⟩ = some (.int .i64 (o : Int)) := by simp [World.cell?, show u.heap[p]? = _ from h]
theorem RLAt.c2 {u : World} {p q o n : Nat} {s : ByteArray} {b : Bool} (h : RLAt u p q o n s b) : u.cell? ⟨p, 2, none⟩ = some (.int .i64 (n : Int)) := by simp [World.cell?, show u.heap[p]? = _ from h]
theorem RLAt.c3 {u : World} {p q o n : Nat} {s : ByteArray} {b : Bool} (h : RLAt u p q o n s b) : u.cell? ⟨p, 3, none⟩ = some (.string s) := by simp [World.cell?, show u.heap[p]? = _ from h]
theorem RLAt.c4 {u : World} {p q o n : Nat} {s : ByteArray} {b : Bool} (h : RLAt u p q o n s b) : u.cell? ⟨p, 4, none⟩ = some (.bool b) := by simp [World.cell?, show u.heap[p]? = _ from h]
theorem RLAt.free {u : World} {p q o n : Nat} {s : ByteArray} {b : Bool} (h : RLAt u p q o n s b) (i : Nat) : u.frozen? ⟨p, i, none⟩ = false := by simp [World.frozen?, show u.heap[p]? = _ from h]
/-- What Append answers, and leaves. -/
def RApd (p q o n : Nat) (s : ByteArray) (b : Bool) (st : St) (F : Nat → Prop) (w : World) (x : Int) (e : Ending) (w' : World) : Prop :=
  e = .returned (.int .i64 x) ∧ RLAt w' p q o n s b ∧ ∃ F', RD w' q st F' ∧ Loc (fun k => F k ∨ k = p) (fun k => F' k ∨ k = p) w w' ∧ ¬ F' p
theorem RApd.same {p q o n : Nat} {s : ByteArray} {b : Bool} {st : St} {F : Nat → Prop} {w w' : World} {x : Int} (hL : RLAt w p q o n s b) (hD : RD w q st F) (hp : ¬ F p) (hb : Below w.heap.size w w') : RApd p q o n s b st F w x (.returned (.int .i64 x)) w' :=
  ⟨rfl, hL.same (hb.block p hL.lt), F, hD.below hb, Loc.of_below _ hb, hp⟩
set_option maxRecDepth 10000 in
set_option maxHeartbeats 400000 in
theorem rAppend_broken (p q o n : Nat) (s t : ByteArray) (st : St) (F : Nat → Prop) (w : World) (hL : RLAt w p q o n s true) (hD : RD w q st F) (hp : ¬ F p) :
    Calls Try.prog 27 #[.pointer (some ⟨p, 0, none⟩), .string t] w (RApd p q o n s true st F w 3) := by
  have h4 := hL.c4
  have HE : Hid (RApd p q o n s true st F w 3 (.returned (.int .i64 3)) w) := RApd.same hL hD hp (Below.refl _ _)
  clear hL hD hp
  go_enter Try.func27, Try.ntmps27
  go_wp2
  go_ret
  exact HE.out
set_option maxRecDepth 10000 in
set_option maxHeartbeats 1000000 in
theorem rAppend_full (p q o n : Nat) (s t : ByteArray) (st : St) (F : Nat → Prop) (w : World) (hL : RLAt w p q o n s false) (hD : RD w q st F) (hp : ¬ F p) (ht : t.size ≤ 65536) (hn : n ≤ 200) (hs : s.size ≤ n * 255) (hfit : n * 255 < s.size + (t.size + 8)) :
    Calls Try.prog 27 #[.pointer (some ⟨p, 0, none⟩), .string t] w (RApd p q o n s false st F w 6) := by
  have h4 := hL.c4
  have KF := hide (refFrame_any t w ht)
  have HE : Hid (∀ u, Below w.heap.size w u → RApd p q o n s false st F w 6 (.returned (.int .i64 6)) u) := fun u hb => RApd.same hL hD hp hb
  have HC : Hid (∀ u, Below w.heap.size w u → u.cell? ⟨p, 2, none⟩ = some (.int .i64 (n : Int)) ∧ u.cell? ⟨p, 3, none⟩ = some (.string s)) := fun u hb => ⟨cellB hb hL.c2, cellB hb hL.c3⟩
  have hfs := frm_size t
  have hmul : IntKind.i64.wrap ((n : Int) * 255) = (n : Int) * 255 := by rw [IntKind.wrap_i64]; omega
  have hadd : IntKind.i64.wrap ((s.size : Int) + ((frm t).size : Int)) = (s.size : Int) + ((frm t).size : Int) := by rw [hfs, IntKind.wrap_i64]; omega
  have hgt : (n : Int) * 255 < (s.size : Int) + ((frm t).size : Int) := by rw [hfs]; omega
  clear hL hD hp hfs hfit hs ht
  generalize frm t = f at *
  go_enter Try.func27, Try.ntmps27
  go_wp2_with fail
  refine KF.out.mono ?_
  rintro e u ⟨rfl, hb⟩
  obtain ⟨h2, h3⟩ := HC.out u hb
  have HB := hide hb
  clear hb
  go_wp2_with fail
  go_quiet (fail)
  have HB2 := hide (below_drewN HB.out nq)
  generalize u.drewN nq = u2 at *
  go_wp2
  go_ret
  exact HE.out _ HB2.out
/-- In the midst of it. -/
structure RMid (w : World) (p q o n : Nat) (s : ByteArray) (a b : Nat → ByteArray) (st : St) (F : Nat → Prop) (k : Nat) (cur : St) (F' : Nat → Prop) (u : World) : Prop where
  puts : puts o (prs k a b) 0 st = (0, cur)
  disk : RD u q cur F'
  loc : Loc F F' w u
  log : RLAt u p q o n s false
  notp : ¬ F' p
theorem RMid.keep {w : World} {p q o n : Nat} {s : ByteArray} {a b : Nat → ByteArray} {st : St} {F : Nat → Prop} {k : Nat} {cur : St} {F' : Nat → Prop} {u v : World} (h : RMid w p q o n s a b st F k cur F' u) (hb : Below u.heap.size u v) : RMid w p q o n s a b st F k cur F' v :=
  ⟨h.puts, h.disk.below hb, h.loc.trans (Loc.of_below _ hb), h.log.same (hb.block p h.log.lt), h.notp⟩
theorem RMid.c3 {w : World} {p q o n : Nat} {s : ByteArray} {a b : Nat → ByteArray} {st : St} {F : Nat → Prop} {k : Nat} {cur : St} {F' : Nat → Prop} {u : World} (h : RMid w p q o n s a b st F k cur F' u) : u.cell? ⟨p, 3, none⟩ = some (.string s) := h.log.c3
theorem RMid.cells {w : World} {p q o n : Nat} {s : ByteArray} {a b : Nat → ByteArray} {st : St} {F : Nat → Prop} {k : Nat} {cur : St} {F' : Nat → Prop} {u : World} (h : RMid w p q o n s a b st F k cur F' u) : u.cell? ⟨p, 0, none⟩ = some (.pointer (some ⟨q, 0, none⟩)) ∧ u.cell? ⟨p, 1, none⟩ = some (.int .i64 (o : Int)) ∧ u.cell? ⟨p, 2, none⟩ = some (.int .i64 (n : Int)) ∧ u.cell? ⟨p, 3, none⟩ = some (.string s) := ⟨h.log.c0, h.log.c1, h.log.c2, h.log.c3⟩
theorem RMid.c01 {w : World} {p q o n : Nat} {s : ByteArray} {a b : Nat → ByteArray} {st : St} {F : Nat → Prop} {k : Nat} {cur : St} {F' : Nat → Prop} {u : World} (h : RMid w p q o n s a b st F k cur F' u) : u.cell? ⟨p, 0, none⟩ = some (.pointer (some ⟨q, 0, none⟩)) ∧ u.cell? ⟨p, 1, none⟩ = some (.int .i64 (o : Int)) := ⟨h.log.c0, h.log.c1⟩
/-- Behind a write. -/
structure RAft (w : World) (p q o n : Nat) (s : ByteArray) (st' : St) (F F' : Nat → Prop) (u : World) : Prop where
  disk : RD u q st' F'
  loc : Loc F F' w u
  log : RLAt u p q o n s false
  notp : ¬ F' p
theorem RAft.c01 {w : World} {p q o n : Nat} {s : ByteArray} {st' : St} {F F' : Nat → Prop} {u : World} (h : RAft w p q o n s st' F F' u) : u.cell? ⟨p, 0, none⟩ = some (.pointer (some ⟨q, 0, none⟩)) ∧ u.cell? ⟨p, 1, none⟩ = some (.int .i64 (o : Int)) := ⟨h.log.c0, h.log.c1⟩
theorem mid_write {w : World} {p q o n : Nat} {s : ByteArray} {a b : Nat → ByteArray} {st : St} {F : Nat → Prop} {k : Nat} {cur : St} {F' : Nat → Prop} {u : World} (t : ByteArray) (h : RMid w p q o n s a b st F k cur F' u) (hok : cur.Ok) (hl : cur.loose.length ≤ 10000) :
    Calls Try.prog 33 #[.pointer (some ⟨q, 0, none⟩), .int .i64 ((o + k : Nat) : Int), .string t] u fun e v => e = .returned (.int .i64 (((cur.write ((o + k : Nat) : Int) t).1 : Nat) : Int)) ∧ ∃ F2, RAft w p q o n s (cur.write ((o + k : Nat) : Int) t).2 F F2 v := by
  refine (rd_write q cur F' ((o + k : Nat) : Int) t u h.disk hok (by omega)).mono ?_
  rintro e v ⟨rfl, F2, hd, hl2⟩
  refine ⟨rfl, F2, hd, h.loc.trans hl2, h.log.same (hl2.block p h.log.lt h.notp), fun hf => ?_⟩
  rcases hl2.own p hf with h1 | h1
  · exact h.notp h1
  · have := h.log.lt; omega
theorem RAft.broken {w : World} {p q o n : Nat} {s : ByteArray} {st' : St} {F F' : Nat → Prop} {u : World} (h : RAft w p q o n s st' F F' u) (x : Int) : RApd p q o n s true st' F w x (.returned (.int .i64 x)) (u.setCell ⟨p, 4, none⟩ (.bool true)) := by
  refine ⟨rfl, ?_, F', h.disk.same (fun k hk => Below.heap_setCell u _ _ k (fun e => h.notp (by rw [show k = p from e] at hk; exact hk))), (h.loc.or (P := fun k => k = p)).trans (Loc.setCell u ⟨p, 4, none⟩ _ (Or.inr rfl)), h.notp⟩
  exact heap_set3 (i := 4) h.log (.bool true)
theorem RMid.done {w : World} {p q o n : Nat} {s : ByteArray} {a b : Nat → ByteArray} {st : St} {F : Nat → Prop} {k : Nat} {cur : St} {F' : Nat → Prop} {u : World} (h : RMid w p q o n s a b st F k cur F' u) (sf : ByteArray) : RApd p q o n sf false cur F w 0 (.returned (.int .i64 0)) (u.setCell ⟨p, 3, none⟩ (.string sf)) := by
  refine ⟨rfl, ?_, F', h.disk.same (fun k hk => Below.heap_setCell u _ _ k (fun e => h.notp (by rw [show k = p from e] at hk; exact hk))), (h.loc.or (P := fun k => k = p)).trans (Loc.setCell u ⟨p, 3, none⟩ _ (Or.inr rfl)), h.notp⟩
  exact heap_set3 (i := 3) h.log (.string sf)
set_option maxRecDepth 10000 in
set_option maxHeartbeats 4000000 in
theorem rAppend_fits (p q o n : Nat) (s t : ByteArray) (st : St) (F : Nat → Prop) (w : World) (R : Nat × St) (hR : R = puts o (prs n (blkOf s) (blkOf (s ++ frm t))) 0 st) (s' : ByteArray) (b' : Bool) (hs0 : R.1 = 0 → s' = s ++ frm t ∧ b' = false) (hs1 : R.1 ≠ 0 → s' = s ∧ b' = true) (hL : RLAt w p q o n s false) (hD : RD w q st F) (hp : ¬ F p) (hok : st.Ok) (hlo : st.loose.length + n ≤ 10000) (ho : o + n ≤ 4096) (ht : t.size ≤ 65536) (hn : n ≤ 200) (hs : s.size ≤ n * 255) (hfit : s.size + (t.size + 8) ≤ n * 255) :
    Calls Try.prog 27 #[.pointer (some ⟨p, 0, none⟩), .string t] w (RApd p q o n s' b' R.2 F w ((R.1 : Nat) : Int)) := by
  have h4 := hL.c4
  have KF := hide (refFrame_any t w ht)
  have hfs := frm_size t
  have hmul : IntKind.i64.wrap ((n : Int) * 255) = (n : Int) * 255 := by rw [IntKind.wrap_i64]; omega
  have hadd : IntKind.i64.wrap ((s.size : Int) + ((frm t).size : Int)) = (s.size : Int) + ((frm t).size : Int) := by rw [hfs, IntKind.wrap_i64]; omega
  have hgt : ¬ ((n : Int) * 255 < (s.size : Int) + ((frm t).size : Int)) := by rw [hfs]; omega
  have HSf : Hid ((s ++ frm t).size ≤ 281474976710656) := by show _ ≤ _; rw [ByteArray.size_append, hfs]; omega
  have hmax : s.size + (frm t).size ≤ maxLen := by rw [hfs]; unfold maxLen; omega
  have HSs : Hid (s.size ≤ 281474976710656) := by show _ ≤ _; omega
  have HM0 : Hid (∀ u, Below w.heap.size w u → RMid w p q o n s (blkOf s) (blkOf (s ++ frm t)) st F 0 st F u) := fun u hb => ⟨rfl, hD.below hb, Loc.of_below _ hb, hL.same (hb.block p hL.lt), hp⟩
  have HRes : Hid (∀ k, k ≤ n → (puts o (prs k (blkOf s) (blkOf (s ++ frm t))) 0 st).1 ≠ 0 → R = puts o (prs k (blkOf s) (blkOf (s ++ frm t))) 0 st) := fun k hk h => by rw [hR]; exact puts_stop hk h
  have HEnd : Hid (∀ cur, puts o (prs n (blkOf s) (blkOf (s ++ frm t))) 0 st = (0, cur) → R = (0, cur)) := fun cur h => by rw [hR]; exact h
  have HOkk : Hid (∀ k cur, k ≤ n → puts o (prs k (blkOf s) (blkOf (s ++ frm t))) 0 st = (0, cur) → cur.Ok ∧ cur.loose.length ≤ 10000) := fun k cur hk h => by
    have h1 := lay_len o k (blkOf s) (blkOf (s ++ frm t)) st hok
    rw [h] at h1
    exact ⟨h1.1, by have h2 : cur.loose.length ≤ st.loose.length + k := h1.2; omega⟩
  have HC : Hid (∀ u, Below w.heap.size w u → u.cell? ⟨p, 2, none⟩ = some (.int .i64 (n : Int)) ∧ u.cell? ⟨p, 3, none⟩ = some (.string s)) := fun u hb => ⟨cellB hb hL.c2, cellB hb hL.c3⟩
  have KB1 := hide (fun k u (hk : k ≤ 4096) => rBlock_any (s ++ frm t) k u hk HSf.out)
  have KB2 := hide (fun k u (hk : k ≤ 4096) => rBlock_any s k u hk HSs.out)
  have HP := hide hp
  have HS0 := hide hs0
  have HS1 := hide hs1
  clear hL hD hp hfs hfit hs ht hR hok hlo hs0 hs1
  generalize hsf : s ++ frm t = sf at *
  have HSF := hide hsf
  clear hsf
  generalize frm t = f at *
  go_enter Try.func27, Try.ntmps27
  go_wp2_with fail
  refine KF.out.mono ?_
  rintro e u ⟨rfl, hb⟩
  obtain ⟨h2, h3⟩ := HC.out u hb
  have HB := hide hb
  clear hb
  go_wp2_with fail
  go_quiet (fail)
  have HB2 := hide (below_drewN HB.out nq)
  generalize u.drewN nq = u2 at *
  obtain ⟨h2', h3'⟩ := HC.out u2 HB2.out
  have HMd := hide (HM0.out u2 HB2.out)
  clear hadd hmul h2 h3 KF HC HM0
  go_wp2_with fail
  rw [HSF.out]
  clear hgt hmax h2' h3' h4
  go_loopw [8, 9] (fun i _ u => ∃ (k : Nat) (cur : St) (F' : Nat → Prop), k ≤ n ∧ i = .int .i64 (k : Int) ∧ RMid w p q o n s (blkOf s) (blkOf sf) st F k cur F' u) (fun i _ _ => n - (intOf i).toNat)
  case atStart => exact ⟨0, st, F, Nat.zero_le _, rfl, HMd.out⟩
  case round =>
    obtain ⟨k, cur, F', hk, rfl, hm⟩ := hrel
    obtain ⟨d0, d1, d2, d3⟩ := hm.cells
    have HM := hide hm
    clear hm
    by_cases hlt : k < n
    · have hz : (k : Int) < (n : Int) := by omega
      have KBa := hide (fun u => KB1.out k u (by omega))
      have KBb := hide (fun u => KB2.out k u (by omega))
      have HPN := hide (puts_next HM.out.puts)
      have HCo := hide (HOkk.out k cur hk HM.out.puts)
      generalize blkOf sf k = tb at *
      generalize blkOf s k = ta at *
      by_cases hab : ta = tb
      · have HP2 : Hid (puts o (prs (k + 1) (blkOf s) (blkOf sf)) 0 st = (0, cur)) := by
          have := HPN.out
          rw [if_pos hab] at this
          exact this
        subst hab
        go_wp2_with fail
        have K := HM.out.keep ((Below.refl _ _).drew)
        go_region_held3 (fun z => z.cell? ⟨p, 3, none⟩ = some (.string s))
          ((with_reducible exact RMid.c3 K))
          (first
            | (go_at_call_of 57 (Value.string sf); refine (KBa.out _).mono ?_; rintro e z1 ⟨rfl, hb1⟩; have K := RMid.keep K hb1)
            | (go_at_call_of 57 (Value.string s); refine (KBb.out _).mono ?_; rintro e z1 ⟨rfl, hb1⟩; have K := RMid.keep K hb1))
        all_goals
          have HK := hide K
          clear K
          go_wp2
          go_roundw
          case rel => exact ⟨k + 1, cur, F', hlt, by go_num, ⟨HP2.out, HK.out.disk, HK.out.loc, HK.out.log, HK.out.notp⟩⟩
          case measure => simp [intOf]; omega
      · have hne : (tb.toList == ta.toList) = false := toList_ne (fun e => hab e.symm)
        have hw : IntKind.i64.wrap ((o : Int) + (k : Int)) = ((o + k : Nat) : Int) := by rw [IntKind.wrap_i64]; omega
        have HP2 : Hid (puts o (prs (k + 1) (blkOf s) (blkOf sf)) 0 st = cur.write ((o + k : Nat) : Int) tb) := by
          have := HPN.out
          rw [if_neg hab] at this
          exact this
        have HW := hide hw
        clear hw
        have KW := hide (fun z (hm : RMid w p q o n s (blkOf s) (blkOf sf) st F k cur F' z) => mid_write tb hm HCo.out.1 HCo.out.2)
        generalize cur.write ((o + k : Nat) : Int) tb = X at *
        by_cases he : X.1 = 0
        · have HP3 : Hid (puts o (prs (k + 1) (blkOf s) (blkOf sf)) 0 st = (0, X.2)) := HP2.out.trans (Prod.ext he rfl)
          rw [he] at KW
          clear he
          go_wp2_with fail
          have K := HM.out.keep ((Below.refl _ _).drew)
          go_region_held3 (fun z => z.cell? ⟨p, 3, none⟩ = some (.string s))
            ((with_reducible exact RMid.c3 K))
            (first
              | (go_at_call_of 57 (Value.string sf); refine (KBa.out _).mono ?_; rintro e z1 ⟨rfl, hb1⟩; have K := RMid.keep K hb1)
              | (go_at_call_of 57 (Value.string s); refine (KBb.out _).mono ?_; rintro e z1 ⟨rfl, hb1⟩; have K := RMid.keep K hb1))
          all_goals
            have HK := hide K
            clear K
            have hw := HW.out
            go_wp2_with fail
            have K := HK.out.keep ((Below.refl _ _).drew)
            clear HK
            go_region_held3 (fun z => z.cell? ⟨p, 0, none⟩ = some (.pointer (some ⟨q, 0, none⟩)) ∧ z.cell? ⟨p, 1, none⟩ = some (.int .i64 (o : Int)))
              ((first | (with_reducible exact RMid.c01 K) | (with_reducible exact RAft.c01 K)))
              (first
                | (go_at_call 57; refine (KBa.out _).mono ?_; rintro e z1 ⟨rfl, hb1⟩; have K := RMid.keep K hb1)
                | (go_at_call 33; refine (KW.out _ K).mono ?_; rintro e z2 ⟨rfl, F2, K⟩))
            all_goals
              have HK := hide K
              clear K
              go_wp2
              go_roundw
              case rel => exact ⟨k + 1, X.2, F2, hlt, by go_num, ⟨HP3.out, HK.out.disk, HK.out.loc, HK.out.log, HK.out.notp⟩⟩
              case measure => simp [intOf]; omega
        · have hez : ¬ (((X.1 : Nat) : Int) = 0) := by omega
          have HRe : Hid (R = X) := (HRes.out (k + 1) hlt (by rw [HP2.out]; exact he)).trans HP2.out
          have HSe := hide (HS1.out (by rw [HRe.out]; exact he))
          go_wp2_with fail
          have K := HM.out.keep ((Below.refl _ _).drew)
          go_region_held3 (fun z => z.cell? ⟨p, 3, none⟩ = some (.string s))
            ((with_reducible exact RMid.c3 K))
            (first
              | (go_at_call_of 57 (Value.string sf); refine (KBa.out _).mono ?_; rintro e z1 ⟨rfl, hb1⟩; have K := RMid.keep K hb1)
              | (go_at_call_of 57 (Value.string s); refine (KBb.out _).mono ?_; rintro e z1 ⟨rfl, hb1⟩; have K := RMid.keep K hb1))
          all_goals
            have HK := hide K
            clear K
            have hw := HW.out
            go_wp2_with fail
            have K := HK.out.keep ((Below.refl _ _).drew)
            clear HK
            go_region_held3 (fun z => z.cell? ⟨p, 0, none⟩ = some (.pointer (some ⟨q, 0, none⟩)) ∧ z.cell? ⟨p, 1, none⟩ = some (.int .i64 (o : Int)))
              ((first | (with_reducible exact RMid.c01 K) | (with_reducible exact RAft.c01 K)))
              (first
                | (go_at_call 57; refine (KBa.out _).mono ?_; rintro e z1 ⟨rfl, hb1⟩; have K := RMid.keep K hb1)
                | (go_at_call 33; refine (KW.out _ K).mono ?_; rintro e z2 ⟨rfl, F2, K⟩))
            all_goals
              have HK := hide K
              have d4 := K.log.c4
              have df4 := K.log.free 4
              clear K
              go_wp2
              go_ret
              rw [HRe.out, HSe.out.1, HSe.out.2]
              exact HK.out.broken _
    · have hkN : k = n := by omega
      subst hkN
      have HRe := hide (HEnd.out cur HM.out.puts)
      have HSe := hide (HS0.out (by rw [HRe.out]))
      have df3 := HM.out.log.free 3
      clear HEnd HRes HS0 HS1
      go_wp2
      go_ret
      rw [HRe.out, HSe.out.1, HSe.out.2]
      exact HM.out.done sf
theorem pRAppend (p q o n : Nat) (s t : ByteArray) (st : St) (F : Nat → Prop) (w : World) (hL : RLAt w p q o n s false) (hD : RD w q st F) (hp : ¬ F p) (hok : st.Ok) (hlo : st.loose.length + n ≤ 10000) (ho : o + n ≤ 4096) (hn : n ≤ 200) (hs : s.size ≤ n * 255) (ht : t.size ≤ 65536) :
    Calls Try.prog 27 #[.pointer (some ⟨p, 0, none⟩), .string t] w (RApd p q o n (walAppend st o n s t).2.1 (brk st o n s t) (walAppend st o n s t).2.2 F w (((walAppend st o n s t).1 : Nat) : Int)) := by
  unfold walAppend brk
  rw [if_neg (by omega)]
  by_cases h2 : n * 255 < s.size + (t.size + 8)
  · rw [if_pos h2, decide_eq_false (fun h => by omega)]
    exact rAppend_full p q o n s t st F w hL hD hp ht hn hs h2
  · rw [if_neg h2]
    by_cases h3 : (puts o (prs n (blkOf s) (blkOf (s ++ frm t))) 0 st).1 = 0
    · rw [if_neg (by rw [h3]; simp), decide_eq_false (fun h => h.2.2 h3)]
      have := rAppend_fits p q o n s t st F w _ rfl (s ++ frm t) false (fun _ => ⟨rfl, rfl⟩) (fun h => absurd h3 h) hL hD hp hok hlo ho ht hn hs (by omega)
      rw [h3] at this
      exact this
    · rw [if_pos h3, decide_eq_true ⟨by omega, by omega, h3⟩]
      exact rAppend_fits p q o n s t st F w _ rfl s true (fun h => absurd h h3) (fun _ => ⟨rfl, rfl⟩) hL hD hp hok hlo ho ht hn hs (by omega)
end Go.Proofs.Ytelkccfjeinlcaa
