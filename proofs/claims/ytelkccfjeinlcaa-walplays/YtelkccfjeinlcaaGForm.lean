/- The document's own disk by its footprint: contracts in the form of the program's. The document's own log: made. The document's own log: Clear. Logs, plain: what Open, Append and Clear leave of a disk's form. -/
import Derived.Test.YtelkccfjeinlcaaG1May
import Derived.Test.YtelkccfjeinlcaaGTail
import Derived.Test.YtelkccfjeinlcaaGAppend
namespace Go.Proofs.Ytelkccfjeinlcaa
open Go Go.RowKit
/-- The document's disk lies at block p, is st, and its blocks are F. -/
def RD (u : World) (p : Nat) (st : St) (F : Nat → Prop) : Prop := ∃ vS vL, F = RF p vS vL ∧ RAt u p vS vL st
theorem RD.lt {u : World} {p : Nat} {st : St} {F : Nat → Prop} (h : RD u p st F) : ∀ k, F k → k < u.heap.size := by
  obtain ⟨vS, vL, rfl, h⟩ := h
  exact h.lt
theorem RD.same {u v : World} {p : Nat} {st : St} {F : Nat → Prop} (h : RD u p st F) (hb : ∀ k, F k → v.heap[k]? = u.heap[k]?) : RD v p st F := by
  obtain ⟨vS, vL, rfl, h⟩ := h
  exact ⟨vS, vL, rfl, h.same hb⟩
theorem RD.below {u v : World} {p : Nat} {st : St} {F : Nat → Prop} (h : RD u p st F) (hb : Below u.heap.size u v) : RD v p st F := h.same (fun k hk => hb.block k (h.lt k hk))
theorem rd_may (p : Nat) (st : St) (F : Nat → Prop) (o n : Int) (w : World) (h : RD w p st F) (hl : st.sure.length ≤ 4096) :
    Calls Try.prog 54 #[.pointer (some ⟨p, 0, none⟩), .int .i64 o, .int .i64 n] w fun e w' => e = .returned (.bool (decide (st.may o n))) ∧ w' = w := by
  obtain ⟨vS, vL, rfl, h⟩ := h
  exact rMay p vS vL st o n w h hl
theorem rd_write (p : Nat) (st : St) (F : Nat → Prop) (b : Int) (d : ByteArray) (u : World) (h : RD u p st F) (hok : st.Ok) (hl : st.loose.length ≤ 100000) :
    Calls Try.prog 33 #[.pointer (some ⟨p, 0, none⟩), .int .i64 b, .string d] u fun e v => e = .returned (.int .i64 (((st.write b d).1 : Nat) : Int)) ∧ ∃ F', RD v p (st.write b d).2 F' ∧ Loc F F' u v := by
  obtain ⟨vS, vL, rfl, h⟩ := h
  refine (rWrite p vS vL st b d u h hok hl).mono ?_
  rintro e v ⟨rfl, vL', h2, l2⟩
  exact ⟨rfl, _, ⟨vS, vL', rfl, h2⟩, l2⟩
theorem rd_sync (p : Nat) (st : St) (F : Nat → Prop) (u : World) (h : RD u p st F) (hok : st.Ok) (hl : st.loose.length ≤ 100000) :
    Calls Try.prog 28 #[.pointer (some ⟨p, 0, none⟩)] u fun e v => e = .returned (.int .i64 ((st.sync.1 : Nat) : Int)) ∧ ∃ F', RD v p st.sync.2 F' ∧ Loc F F' u v := by
  obtain ⟨vS, vL, rfl, h⟩ := h
  refine (rSync p vS vL st u h hok hl).mono ?_
  rintro e v ⟨rfl, vL', h2, l2⟩
  exact ⟨rfl, _, ⟨vS, vL', rfl, h2⟩, l2⟩
theorem rd_read (p : Nat) (st : St) (F : Nat → Prop) (b : Int) (u : World) (h : RD u p st F) (hok : st.Ok) (hl : st.loose.length ≤ 100000) :
    Calls Try.prog 78 #[.pointer (some ⟨p, 0, none⟩), .int .i64 b] u fun e v => e = .returned (.tuple #[.string (st.read b).1, .int .i64 (((st.read b).2 : Nat) : Int)]) ∧ v = u := by
  obtain ⟨vS, vL, rfl, h⟩ := h
  exact rRead p vS vL st b u h hok hl
theorem rd_fuse (p : Nat) (st : St) (F : Nat → Prop) (n : Int) (u : World) (h : RD u p st F) (hn : n ≤ 9223372036854775807) :
    Calls Try.prog 30 #[.pointer (some ⟨p, 0, none⟩), .int .i64 n] u fun e v => (∃ x, e = .returned x) ∧ RD v p (st.fuse n) F ∧ Loc F F u v := by
  obtain ⟨vS, vL, rfl, h⟩ := h
  refine (rFuse p vS vL st n u h hn).mono ?_
  rintro e v ⟨he, h2, l2⟩
  exact ⟨he, ⟨vS, vL, rfl, h2⟩, l2⟩
theorem rd_sure (p : Nat) (st : St) (F : Nat → Prop) (u : World) (h : RD u p st F) (hok : st.Ok) :
    Calls Try.prog 14 #[.pointer (some ⟨p, 0, none⟩)] u fun e v => e = .returned (.string st.text) ∧ v = u := by
  obtain ⟨vS, vL, rfl, h⟩ := h
  exact rSure p vS vL st u h hok
theorem rd_crash (p : Nat) (st : St) (F : Nat → Prop) (a : Option Addr) (c : Nat) (picks : List Int) (u : World) (h : RD u p st F) (hok : st.Ok) (hl : st.loose.length ≤ 100000) (hP : IntsAt u a picks) (hap : Apart a picks F) (hpl : picks.length ≤ 140737488351232) :
    Calls Try.prog 29 #[.pointer (some ⟨p, 0, none⟩), .slice a picks.length c] u fun e v => (∃ x, e = .returned x) ∧ ∃ F', RD v p (st.crash picks) F' ∧ Loc F F' u v := by
  obtain ⟨vS, vL, rfl, h⟩ := h
  refine (rCrash p vS vL st a c picks u h hok hl hP hap hpl).mono ?_
  rintro e v ⟨he, vL', h2, l2⟩
  exact ⟨he, _, ⟨vS, vL', rfl, h2⟩, l2⟩
theorem rd_new (n : Nat) (u : World) (h1 : 1 ≤ n) (h2 : n ≤ 4096) :
    Calls Try.prog 10 #[.int .i64 (n : Int)] u fun e v => ∃ p F, e = .returned (.tuple #[.pointer (some ⟨p, 0, none⟩), .int .i64 0]) ∧ RD v p (St.new n) F ∧ (∀ k, F k → u.heap.size ≤ k) ∧ Below u.heap.size u v := by
  refine (rNew n u h1 h2).mono ?_
  rintro e v ⟨p, vS, rfl, h, _, hF, hb⟩
  exact ⟨p, _, rfl, ⟨vS, _, rfl, h⟩, hF, hb⟩
end Go.Proofs.Ytelkccfjeinlcaa
namespace Go.Proofs.Ytelkccfjeinlcaa
open Go Go.RowKit Frm
theorem puts_append (o : Nat) : ∀ (l m : List (ByteArray × ByteArray)) (i : Nat) (st : St), puts o (l ++ m) i st = if (puts o l i st).1 = 0 then puts o m (i + l.length) (puts o l i st).2 else puts o l i st
  | [], m, i, st => by simp [puts]
  | x :: l, m, i, st => by
    rw [List.cons_append, puts_cons, puts_cons, List.length_cons, show i + (l.length + 1) = i + 1 + l.length from by omega]
    split
    · exact puts_append o l m (i + 1) st
    · split
      · exact puts_append o l m (i + 1) _
      · rename_i h; first | rfl | rw [if_neg h]
theorem prs_succ (k : Nat) (a b : Nat → ByteArray) : prs (k + 1) a b = prs k a b ++ [(a k, b k)] := by unfold prs; rw [List.range_succ, List.map_append]; rfl
/-- One block more. -/
theorem puts_next {o k : Nat} {a b : Nat → ByteArray} {st cur : St} (h : puts o (prs k a b) 0 st = (0, cur)) : puts o (prs (k + 1) a b) 0 st = if a k = b k then (0, cur) else cur.write ((o + k : Nat) : Int) (b k) := by
  rw [prs_succ, puts_append, h, if_pos rfl, prs_length, Nat.zero_add, puts_cons]
  split
  · rfl
  · split
    · rename_i h2
      show (0, _) = _
      rw [← h2]
    · rfl
theorem puts_stop {o k N : Nat} {a b : Nat → ByteArray} {st : St} (hk : k ≤ N) (h : (puts o (prs k a b) 0 st).1 ≠ 0) : puts o (prs N a b) 0 st = puts o (prs k a b) 0 st := by
  obtain ⟨d, rfl⟩ : ∃ d, N = k + d := ⟨N - k, by omega⟩
  rw [prs_split, puts_append, if_neg h]
/-- A list of texts lies apart from an object's blocks. -/
def Clear (F : Nat → Prop) (a : Option Addr) : Prop := ∀ b off, a = some ⟨b, off, none⟩ → ¬ F b
theorem strs_loc {F F' : Nat → Prop} {u v : World} {a : Option Addr} {l : List ByteArray} (h : StrsAt u a l) (hl : Loc F F' u v) (hc : Clear F a) : StrsAt v a l := by
  rcases h with rfl | ⟨b, off, rfl, hx⟩
  · exact Or.inl rfl
  · exact Or.inr ⟨b, off, rfl, fun j hj => (World.cell?_of_block (a := ⟨b, off + j, none⟩) (hl.block b (World.block_lt_of_cell? u _ (hx j hj)) (hc b off rfl))).trans (hx j hj)⟩
theorem Loc.drewN {F F' : Nat → Prop} {u v : World} (h : Loc F F' u v) (n : Nat) : Loc F F' u (v.drewN n) := ⟨h.os, h.tape, h.output, h.size, h.block, h.own⟩
theorem RD.drewN {u : World} {p : Nat} {st : St} {F : Nat → Prop} (h : RD u p st F) (n : Nat) : RD (u.drewN n) p st F := h.same (fun _ _ => rfl)
set_option maxRecDepth 10000 in
set_option maxHeartbeats 2000000 in
theorem rMade (p o N : Nat) (aa ab : Option Addr) (ca cb : Nat) (la lb : List ByteArray) (st : St) (F : Nat → Prop) (w : World) (hD : RD w p st F) (hok : st.Ok) (hlo : st.loose.length + N ≤ 10000) (ho : o ≤ 4096) (hN : N ≤ 4096) (hla : la.length = N) (hlb : lb.length = N) (ha : StrsAt w aa la) (hb : StrsAt w ab lb) (hca : Clear F aa) (hcb : Clear F ab) (a b : Nat → ByteArray) (hav : ∀ i (hi : i < la.length), la[i] = a i) (hbv : ∀ i (hi : i < lb.length), lb[i] = b i) :
    Calls Try.prog 58 #[.pointer (some ⟨p, 0, none⟩), .int .i64 (o : Int), .slice aa la.length ca, .slice ab lb.length cb] w fun e w' => e = .returned (.int .i64 (((made o (prs N a b) st).1 : Nat) : Int)) ∧ ∃ F', RD w' p (made o (prs N a b) st).2 F' ∧ Loc F F' w w' := by
  have HM := hide (made_of o N a b st)
  have HA := hide (fun (u : World) (F' : Nat → Prop) (hl : Loc F F' w u) => And.intro (strs_loc ha hl hca) (strs_loc hb hl hcb))
  have HAV := hide hav
  have HBV := hide hbv
  subst hla
  have HLB := hide hlb
  clear hav hbv hca hcb ha hb
  rw [hlb]
  clear hlb
  generalize made o (prs la.length a b) st = M at *
  go_enter Try.func58, Try.ntmps58
  go_wp2_with fail
  go_loopw [9, 10, 11] (fun sm i _ u => ∃ (k : Nat) (cur : St) (F' : Nat → Prop), k ≤ la.length ∧ i = .int .i64 (k : Int) ∧ sm = .bool (!(df a b k).isEmpty) ∧ puts o (prs k a b) 0 st = (0, cur) ∧ RD u p cur F' ∧ Loc F F' w u) (fun _ i _ _ => la.length - (intOf i).toNat)
  case atStart => exact ⟨0, st, F, Nat.zero_le _, rfl, rfl, rfl, hD, Loc.refl _ _⟩
  case round =>
    obtain ⟨k, cur, F', hk, rfl, rfl, hpu, hd, hloc⟩ := hrel
    by_cases hlt : k < la.length
    · obtain ⟨hsa, hsb⟩ := HA.out wr F' hloc
      obtain ⟨b1, o1, rfl, hx1⟩ : ∃ b1 o1, aa = some ⟨b1, o1, none⟩ ∧ wr.cell? ⟨b1, o1 + k, none⟩ = some (.string (a k)) := by
        rcases hsa with rfl | ⟨b1, o1, e, h⟩
        · exact absurd hlt (by simp)
        · exact ⟨b1, o1, e, by rw [← HAV.out k hlt]; exact h k hlt⟩
      obtain ⟨b2, o2, rfl, hx2⟩ : ∃ b2 o2, ab = some ⟨b2, o2, none⟩ ∧ wr.cell? ⟨b2, o2 + k, none⟩ = some (.string (b k)) := by
        rcases hsb with rfl | ⟨b2, o2, e, h⟩
        · have := HLB.out; simp at this; omega
        · have hlt2 : k < lb.length := by have := HLB.out; omega
          exact ⟨b2, o2, e, by rw [← HBV.out k hlt2]; exact h k hlt2⟩
      clear hsa hsb
      have hz : (k : Int) < (la.length : Int) := by omega
      have hw : wrap64 ((o : Int) + (k : Int)) = ((o + k : Nat) : Int) := by unfold wrap64; omega
      have hw2 : IntKind.i64.wrap ((k : Int) + 1) = (k : Int) + 1 := by rw [IntKind.wrap_i64]; omega
      have hcok : cur.Ok ∧ cur.loose.length ≤ st.loose.length + k := by
        have h1 := lay_len o k a b st hok
        rw [hpu] at h1
        exact h1
      have HPN := hide (puts_next hpu)
      have HDS := hide (df_succ a b k)
      have HD := hide hd
      have HLoc := hide hloc
      by_cases hab : a k = b k
      · have hP2 := HPN.out
        have hD2 := HDS.out
        rw [if_pos hab] at hP2 hD2
        rw [List.append_nil] at hD2
        have HP2 := hide hP2
        have HD2 := hide hD2
        rw [hab] at hx1
        clear hP2 hD2 hpu hd hloc hab hcok
        generalize b k = t at *
        generalize hsm : (!(df a b k).isEmpty) = sm at *
        have HSM := hide hsm
        clear hsm
        go_wp2_with fail
        go_quiet (fail)
        go_wp2
        go_roundw
        case rel => exact ⟨k + 1, cur, F', hlt, by go_num, by rw [HD2.out, HSM.out], HP2.out, HD.out.drewN _, HLoc.out.drewN _⟩
        case measure => simp [intOf]; omega
      · have hne : ((a k).toList == (b k).toList) = false := toList_ne hab
        have hP2 := HPN.out
        have hD2 := HDS.out
        rw [if_neg hab] at hP2 hD2
        have HP2 := hide hP2
        have HD2 : Hid ((!(df a b (k + 1)).isEmpty) = true) := by
          show _ = _
          rw [hD2]
          cases df a b k <;> rfl
        have KW := hide (fun n => rd_write p cur F' ((o + k : Nat) : Int) (b k) (wr.drewN n) (hd.drewN n) hcok.1 (by have := hcok.2; omega))
        clear hP2 hD2 hpu hd hloc hab hcok
        generalize hsm : (!(df a b k).isEmpty) = sm at *
        clear hsm
        by_cases he : (cur.write ((o + k : Nat) : Int) (b k)).1 = 0
        · rw [he] at KW
          have HE := hide he
          clear he
          generalize b k = t at *
          generalize a k = t2 at *
          go_wp2_with fail
          go_quiet (fail)
          go_wp2_with fail
          refine (KW.out _).mono ?_
          rintro e u ⟨rfl, F2, hd2, hl2⟩
          have HDD := hide hd2
          have HLL := hide ((HLoc.out.drewN _).trans hl2)
          clear hd2 hl2
          go_wp2
          go_roundw
          case rel => exact ⟨k + 1, _, F2, hlt, by go_num, by rw [HD2.out], HP2.out.trans (Prod.ext HE.out rfl), HDD.out, HLL.out⟩
          case measure => simp [intOf]; omega
        · have hez : ¬ ((((cur.write ((o + k : Nat) : Int) (b k)).1 : Nat) : Int) = 0) := by omega
          have HMM : Hid (M = cur.write ((o + k : Nat) : Int) (b k)) := by
            show _ = _
            have h1 : (puts o (prs (k + 1) a b) 0 st).1 ≠ 0 := by rw [HP2.out]; exact he
            have h2 := puts_stop (N := la.length) hlt h1
            rw [HM.out.1 (by rw [h2]; exact h1), h2, HP2.out]
          clear he
          generalize cur.write ((o + k : Nat) : Int) (b k) = X at *
          generalize b k = t at *
          generalize a k = t2 at *
          go_wp2_with fail
          go_quiet (fail)
          go_wp2_with fail
          refine (KW.out _).mono ?_
          rintro e u ⟨rfl, F2, hd2, hl2⟩
          have HDD := hide hd2
          have HLL := hide ((HLoc.out.drewN _).trans hl2)
          clear hd2 hl2
          go_wp2
          go_ret
          exact ⟨by rw [HMM.out]; rfl, F2, by rw [HMM.out]; exact HDD.out, HLL.out⟩
    · have hkl : k = la.length := by omega
      subst hkl
      have hcok : cur.Ok ∧ cur.loose.length ≤ st.loose.length + la.length := by
        have h1 := lay_len o la.length a b st hok
        rw [hpu] at h1
        exact h1
      have h0 : (puts o (prs la.length a b) 0 st).1 = 0 := by rw [hpu]
      have HD := hide hd
      have HLoc := hide hloc
      by_cases hdf : df a b la.length = []
      · have HMM := hide (HM.out.2.1 h0 hdf)
        rw [hpu] at HMM
        have hsm : (!(df a b la.length).isEmpty) = false := by rw [hdf]; rfl
        clear hpu hd hloc hdf h0 hcok
        rw [hsm]
        clear hsm
        go_wp2
        go_ret
        exact ⟨by rw [HMM.out]; rfl, F', by rw [HMM.out]; exact HD.out, HLoc.out⟩
      · have HMM := hide (HM.out.2.2 h0 hdf)
        rw [hpu] at HMM
        have hsm : (!(df a b la.length).isEmpty) = true := by
          cases h : df a b la.length with
          | nil => exact absurd h hdf
          | cons x l => rfl
        have KS := hide (rd_sync p cur F' wr hd hcok.1 (by have := hcok.2; omega))
        clear hpu hd hloc hdf h0 hcok
        rw [hsm]
        clear hsm
        go_wp2_with fail
        refine KS.out.mono ?_
        rintro e u ⟨rfl, F2, hd2, hl2⟩
        have HDD := hide hd2
        have HLL := hide (HLoc.out.trans hl2)
        clear hd2 hl2
        go_wp2
        go_ret
        exact ⟨by rw [HMM.out]; rfl, F2, by rw [HMM.out]; exact HDD.out, HLL.out⟩
end Go.Proofs.Ytelkccfjeinlcaa
namespace Go.Proofs.Ytelkccfjeinlcaa
open Go Go.RowKit Frm
/-- Between two writes. -/
structure RClr (w : World) (p o N : Nat) (st : St) (F : Nat → Prop) (k : Nat) (cur : St) (F' : Nat → Prop) (u : World) : Prop where
  rest : zeros N o st = zeros (N - k) (o + k) cur
  disk : RD u p cur F'
  loc : Loc F F' w u
  ok : cur.Ok
  few : cur.loose.length ≤ st.loose.length + k
set_option maxRecDepth 10000 in
set_option maxHeartbeats 2000000 in
theorem rClear (p o N : Nat) (st : St) (F : Nat → Prop) (w : World) (hD : RD w p st F) (hok : st.Ok) (hl : st.loose.length + N ≤ 10000) (hN : o + N ≤ st.sure.length) (h1 : 1 ≤ N) :
    Calls Try.prog 34 #[.pointer (some ⟨p, 0, none⟩), .int .i64 (o : Int), .int .i64 (N : Int)] w fun e w' => e = .returned (.int .i64 (((walClear st o N).1 : Nat) : Int)) ∧ ∃ F', RD w' p (walClear st o N).2 F' ∧ Loc F F' w w' := by
  have hfew := hok.few
  have hmay : decide (st.may (o : Int) (N : Int)) = true := decide_eq_true (by unfold St.may; omega)
  have KM := hide (rd_may p st F (o : Int) (N : Int) w hD hfew)
  rw [hmay] at KM
  have HS : Hid (RClr w p o N st F 0 st F w) := ⟨rfl, hD, Loc.refl _ _, hok, Nat.le_refl _⟩
  have HC := hide (clear_of (st := st) (o := o) (N := N))
  have ho4 : o ≤ 4096 := by omega
  have hN4 : N ≤ 4096 := by omega
  have hzm := zmake
  have hzt := ztext
  generalize zcells = Z at *
  clear hD hok hN hmay
  generalize walClear st o N = M at *
  go_enter Try.func34, Try.ntmps34
  go_wp2_with fail
  refine KM.out.mono ?_
  rintro e w1 ⟨rfl, hw1⟩
  obtain rfl := hw1.symm
  clear hw1
  go_wp2_with fail
  go_loopw [7, 8] (fun c _ wr => ∃ k : Nat, k ≤ N ∧ c = .int .i64 (k : Int) ∧ ∃ cur F', RClr w p o N st F k cur F' wr) (fun c _ _ => N - (intOf c).toNat)
  case atStart => exact ⟨0, Nat.zero_le _, rfl, st, F, HS.out⟩
  case round =>
    obtain ⟨k, hk, rfl, cur, F', hc⟩ := hrel
    by_cases hlt : k < N
    · have hz : (k : Int) < (N : Int) := by omega
      have hw : wrap64 ((o : Int) + (k : Int)) = ((o + k : Nat) : Int) := by unfold wrap64; omega
      have hw2 : IntKind.i64.wrap ((k : Int) + 1) = (k : Int) + 1 := by rw [IntKind.wrap_i64]; omega
      have hze : zeros N o st = if (cur.write ((o + k : Nat) : Int) zblock).1 = 0 then zeros (N - (k + 1)) (o + (k + 1)) (cur.write ((o + k : Nat) : Int) zblock).2 else cur.write ((o + k : Nat) : Int) zblock := by
        rw [hc.rest, show N - k = N - (k + 1) + 1 from by omega, zeros_succ, Nat.add_assoc]
      have HZE := hide hze
      have hb3 : Below wr.heap.size wr (wr.alloc (.cells Z 5)) := (Below.refl _ _).alloc (Nat.le_refl _) _
      have KW := hide (rd_write p cur F' ((o + k : Nat) : Int) zblock (wr.alloc (.cells Z 5)) (hc.disk.below hb3) hc.ok (by have := hc.few; omega))
      have HB3 := hide hb3
      have HCl := hide hc
      have HOK := hide (hc.ok.write ((o + k : Nat) : Int) zblock)
      have HFW := hide (write_loose cur ((o + k : Nat) : Int) zblock)
      clear hze hc hb3
      generalize zblock = zb at *
      by_cases he : (cur.write ((o + k : Nat) : Int) zb).1 = 0
      · rw [he] at KW
        have HZ2 : Hid (zeros N o st = zeros (N - (k + 1)) (o + (k + 1)) (cur.write ((o + k : Nat) : Int) zb).2) := by
          have := HZE.out
          rw [if_pos he] at this
          exact this
        clear he
        generalize (cur.write ((o + k : Nat) : Int) zb).2 = nx at *
        go_wp2_with fail
        refine KW.out.mono ?_
        rintro e w4 ⟨rfl, F2, hd4, hl4⟩
        have HD4 := hide hd4
        have HL4 := hide hl4
        clear hd4 hl4
        go_wp2
        go_roundw
        case rel => exact ⟨k + 1, hlt, by go_num, nx, F2, ⟨HZ2.out, HD4.out, HCl.out.loc.trans ((Loc.of_below _ HB3.out).trans HL4.out), HOK.out, by have := HFW.out; have := HCl.out.few; omega⟩⟩
        case measure => simp [intOf]; omega
      · have hez : ¬ ((((cur.write ((o + k : Nat) : Int) zb).1 : Nat) : Int) = 0) := by omega
        have HZ2 : Hid (M = cur.write ((o + k : Nat) : Int) zb) := by
          have := HZE.out
          rw [if_neg he] at this
          have h2 := HC.out.1 (by rw [this]; exact he)
          rw [this] at h2
          exact h2
        clear he
        generalize cur.write ((o + k : Nat) : Int) zb = nx at *
        go_wp2_with fail
        refine KW.out.mono ?_
        rintro e w4 ⟨rfl, F2, hd4, hl4⟩
        have HD4 := hide hd4
        have HL4 := hide hl4
        clear hd4 hl4
        go_wp2
        go_ret
        exact ⟨by rw [HZ2.out]; rfl, F2, by rw [HZ2.out]; exact HD4.out, HCl.out.loc.trans ((Loc.of_below _ HB3.out).trans HL4.out)⟩
    · have hkN : k = N := by omega
      subst hkN
      have hze : zeros k o st = (0, cur) := by rw [hc.rest, Nat.sub_self]; rfl
      have HM : Hid (M = cur.sync) := by
        have := HC.out.2 (by rw [hze])
        rw [hze] at this
        exact this
      have KS := hide (rd_sync p cur F' wr hc.disk hc.ok (by have := hc.few; omega))
      have HCl := hide hc
      clear hze hc
      go_wp2_with fail
      refine KS.out.mono ?_
      rintro e w4 ⟨rfl, F2, hd4, hl4⟩
      have HD4 := hide hd4
      have HL4 := hide hl4
      clear hd4 hl4
      go_wp2
      go_ret
      exact ⟨by rw [HM.out]; rfl, F2, by rw [HM.out]; exact HD4.out, HCl.out.loc.trans HL4.out⟩
set_option maxRecDepth 10000 in
set_option maxHeartbeats 1000000 in
theorem rClear_not (p : Nat) (o n : Int) (st : St) (F : Nat → Prop) (w : World) (hD : RD w p st F) (hok : st.Ok) (hmay : ¬ st.may o n) :
    Calls Try.prog 34 #[.pointer (some ⟨p, 0, none⟩), .int .i64 o, .int .i64 n] w fun e w' => e = .returned (.int .i64 2) ∧ w' = w := by
  have KM := hide (rd_may p st F o n w hD hok.few)
  rw [decide_eq_false hmay] at KM
  clear hD hok hmay
  go_enter Try.func34, Try.ntmps34
  go_wp2_with fail
  refine KM.out.mono ?_
  rintro e w1 ⟨rfl, hw1⟩
  obtain rfl := hw1.symm
  go_wp2
  go_ret
  exact ⟨rfl, rfl⟩
end Go.Proofs.Ytelkccfjeinlcaa
namespace Go.Proofs.Ytelkccfjeinlcaa
open Frm
/-- A disk in form, so many blocks, so many loose writes at the most. -/
structure Form (n c : Nat) (st : St) : Prop where
  ok : st.Ok
  len : st.sure.length = n
  few : st.loose.length ≤ c
theorem Form.more {n c c' : Nat} {st : St} (h : Form n c st) (hc : c ≤ c') : Form n c' st := ⟨h.ok, h.len, Nat.le_trans h.few hc⟩
theorem Form.write {n c : Nat} {st : St} (h : Form n c st) (b : Int) (d : ByteArray) : Form n (c + 1) (st.write b d).2 :=
  ⟨h.ok.write b d, by rw [write_sure]; exact h.len, by have := write_loose st b d; have := h.few; omega⟩
theorem Form.sync {n c : Nat} {st : St} (h : Form n c st) : Form n c st.sync.2 := by
  refine ⟨h.ok.sync, ?_, ?_⟩
  · unfold St.sync
    split
    · exact h.len
    · show (laid _ _).length = n
      rw [laid_length]; exact h.len
  · unfold St.sync
    split
    · exact h.few
    · exact Nat.zero_le _
theorem Form.fuse {n c : Nat} {st : St} (h : Form n c st) (k : Int) (hk : k ≤ 9223372036854775807) : Form n c (st.fuse k) := ⟨h.ok.fuse k hk, h.len, h.few⟩
theorem Form.crash {n c : Nat} {st : St} (h : Form n c st) (p : List Int) : Form n 0 (st.crash p) := ⟨h.ok.crash p, by show (crashed _ _ _ _).length = n; rw [crashed_length]; exact h.len, Nat.le_refl _⟩
theorem puts_sure (o : Nat) : ∀ (l : List (ByteArray × ByteArray)) (i : Nat) (st : St), (puts o l i st).2.sure = st.sure
  | [], _, _ => rfl
  | x :: l, i, st => by
    rw [puts_cons]
    split
    · exact puts_sure o l _ _
    · split
      · rw [puts_sure o l _ _, write_sure]
      · exact write_sure _ _ _
theorem Form.puts {n c : Nat} {st : St} (h : Form n c st) (o N : Nat) (a b : Nat → ByteArray) : Form n (c + N) (puts o (prs N a b) 0 st).2 := by
  have h1 := lay_len o N a b st h.ok
  exact ⟨h1.1, by rw [puts_sure]; exact h.len, by have := h.few; omega⟩
theorem Form.made {n c : Nat} {st : St} (h : Form n c st) (o N : Nat) (a b : Nat → ByteArray) : Form n (c + N) (made o (prs N a b) st).2 := by
  unfold Go.Proofs.Ytelkccfjeinlcaa.made
  split
  · exact h.puts o N a b
  · split
    · exact h.puts o N a b
    · exact (h.puts o N a b).sync
theorem Form.open {n c : Nat} {st : St} (h : Form n c st) (o N : Nat) : Form n (c + N + N) (walOpen st o N).2 := by
  unfold walOpen
  split
  · exact h.more (by omega)
  · split
    · exact h.more (by omega)
    · split
      · exact (h.made o N _ _).more (by omega)
      · split
        · exact (h.made o N _ _).made o N _ _
        · exact (h.made o N _ _).made o N _ _
theorem Form.append {n c : Nat} {st : St} (h : Form n c st) (o N : Nat) (s t : ByteArray) : Form n (c + N) (walAppend st o N s t).2.2 := by
  unfold walAppend
  split
  · exact h.more (by omega)
  · split
    · exact h.more (by omega)
    · split
      · exact h.puts o N _ _
      · exact h.puts o N _ _
theorem Form.zeros {n : Nat} : ∀ (N c o : Nat) (st : St), Form n c st → Form n (c + N) (zeros N o st).2
  | 0, _, _, _, h => h
  | N + 1, c, o, st, h => by
    rw [zeros_succ]
    split
    · exact (Form.zeros N (c + 1) (o + 1) _ (h.write _ _)).more (by omega)
    · exact (h.write _ _).more (by omega)
theorem Form.clear {n c : Nat} {st : St} (h : Form n c st) (o N : Nat) : Form n (c + N) (walClear st o N).2 := by
  unfold walClear
  split
  · exact Form.zeros N c o st h
  · exact (Form.zeros N c o st h).sync
theorem Form.new {n : Nat} (h1 : 1 ≤ n) (h2 : n ≤ 4096) : Form n 0 (St.new n) := ⟨St.Ok.new h1 h2, by unfold St.new; simp, Nat.le_refl _⟩
theorem kept_size (l : List ByteArray) (h : ∀ b ∈ l, b.size = 256) : (kept l).size ≤ l.length * 255 := by
  unfold kept
  rw [ByteArray.size_extract]
  have h1 := heads_size (upTo l) (fun b hb => h b (by rw [upTo_prefix] at hb; exact List.mem_of_mem_take hb))
  rw [heads_upTo] at h1
  have h2 := Nat.mul_le_mul_right 255 (upTo_le l)
  exact Nat.le_trans (Nat.le_trans (Nat.sub_le _ _) (Nat.min_le_right _ _)) (Nat.le_trans h1 h2)
theorem open_size {st : St} (hok : st.Ok) (o N : Nat) (hN : o + N ≤ st.sure.length) : (walOpen st o N).1.2.1.size ≤ N * 255 := by
  have h1 := kept_size (reads st o N) (fun b hb => by
    obtain ⟨i, hi, rfl⟩ := List.getElem_of_mem hb
    rw [reads_at]
    exact at_size hok _ (by rw [reads_length] at hi; omega))
  rw [reads_length] at h1
  unfold walOpen
  split
  · exact Nat.zero_le _
  · split
    · exact Nat.zero_le _
    · split
      · exact Nat.zero_le _
      · split
        · exact Nat.zero_le _
        · exact h1
theorem append_size (st : St) (o N : Nat) (s t : ByteArray) (h : s.size ≤ N * 255) : (walAppend st o N s t).2.1.size ≤ N * 255 := by
  unfold walAppend
  split
  · exact h
  · split
    · exact h
    · split
      · exact h
      · show (s ++ frm t).size ≤ _
        rw [ByteArray.size_append, frm_size]
        omega
end Go.Proofs.Ytelkccfjeinlcaa
