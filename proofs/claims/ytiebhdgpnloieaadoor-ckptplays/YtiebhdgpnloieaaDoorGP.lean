/- The law CkptPlays: both disks, side by side. The law CkptPlays: one step of both: Load, Save, Fuse, Write. The law CkptPlays: one step of both: Fuse, Write. The law CkptPlays: one step of both: Crash. The law CkptPlays: one step of both: a bit is turned; any step. Steps of the laws: heavy, told plainly. The law CkptPlays. -/
import Derived.Test.YtiebhdgpnloieaaDoorGR
import Derived.Test.YtiebhdgpnloieaaDoorGSteps
import Derived.Test.YtiebhdgpnloieaaDoorReg
namespace Go.Proofs.YtiebhdgpnloieaaDoor
open Go Go.RowKit Frm
/-- A disk in form, so many blocks, so many loose writes at the most. -/
structure Form (n c : Nat) (st : St) : Prop where
  ok : st.Ok
  len : st.sure.length = n
  few : st.loose.length ≤ c
theorem Form.more {n c c' : Nat} {st : St} (h : Form n c st) (hc : c ≤ c') : Form n c' st := ⟨h.ok, h.len, Nat.le_trans h.few hc⟩
theorem write_long (st : St) (b : Int) (d : ByteArray) : (st.write b d).2.sure.length = st.sure.length := by
  unfold St.write
  split
  · rfl
  · split
    · rfl
    · split <;> rfl
theorem Form.write {n c : Nat} {st : St} (h : Form n c st) (b : Int) (d : ByteArray) : Form n (c + 1) (st.write b d).2 :=
  ⟨h.ok.write b d, by rw [write_long]; exact h.len, by have := write_few st b d; have := h.few; omega⟩
theorem Form.sync {n c : Nat} {st : St} (h : Form n c st) : Form n c st.sync.2 := by
  refine ⟨h.ok.sync, ?_, ?_⟩
  · unfold St.sync
    split
    · exact h.len
    · show (laid _ _).length = n
      rw [laid_length]; exact h.len
  · unfold St.sync
    split
    · exact h.few
    · exact Nat.zero_le _
theorem Form.fuse {n c : Nat} {st : St} (h : Form n c st) (k : Int) (hk : k ≤ 9223372036854775807) : Form n c (st.fuse k) := ⟨h.ok.fuse k hk, h.len, h.few⟩
theorem Form.crash {n c : Nat} {st : St} (h : Form n c st) (p : List Int) : Form n 0 (st.crash p) := ⟨h.ok.crash p, by show (crashed _ _ _ _).length = n; rw [crashed_length]; exact h.len, Nat.le_refl _⟩
theorem Form.new {n : Nat} (h1 : 1 ≤ n) (h2 : n ≤ 4096) : Form n 0 (St.new n) := ⟨St.Ok.new h1 h2, List.length_replicate .., Nat.le_refl _⟩
theorem Form.andT {n c d : Nat} {r : Nat × St} {f : St → Nat × St} (h : Form n c r.2) (hf : ∀ s, Form n c s → Form n d (f s).2) (hcd : c ≤ d) : Form n d (andT r f).2 := by
  unfold Go.Proofs.YtiebhdgpnloieaaDoor.andT
  split
  · exact hf _ h
  · exact h.more hcd
theorem Form.puts {n : Nat} (o : Nat) (t : ByteArray) : ∀ (m i c : Nat) (st : St), Form n c st → Form n (c + m) (putsT o t m i st).2
  | 0, _, _, _, h => h
  | m + 1, i, c, st, h => by
    show Form n (c + (m + 1)) (Go.Proofs.YtiebhdgpnloieaaDoor.andT _ _).2
    exact (h.write _ _).andT (fun s hs => (Form.puts o t m (i + 1) (c + 1) s hs).more (by omega)) (by omega)
theorem Form.saveAt {n c : Nat} {st : St} (h : Form n c st) (a g : Nat) (t : ByteArray) : Form n (c + nb t.size + 2) (saveAt a g t st).2 := by
  unfold Go.Proofs.YtiebhdgpnloieaaDoor.saveAt
  have h1 := (h.write (a : Int) zblock).andT (f := St.sync) (fun s hs => hs.sync) (Nat.le_refl _)
  have h2 := h1.andT (d := c + 1 + nb t.size) (fun s hs => Form.puts (a + 1) t (nb t.size) 0 _ s hs) (by omega)
  have h3 := h2.andT (f := St.sync) (fun s hs => hs.sync) (Nat.le_refl _)
  have h4 := h3.andT (d := c + 1 + nb t.size + 1) (f := fun s => s.write (a : Int) (headT g t)) (fun s hs => hs.write _ _) (by omega)
  exact (h4.andT (f := St.sync) (fun s hs => hs.sync) (Nat.le_refl _)).more (by omega)
theorem Form.save {c : Nat} {st : St} (h : Form 8 c st) (o n : Int) (g : Nat) (t : ByteArray) : Form 8 (c + 8) (st.save o n g t).2 := by
  unfold St.save
  split
  · exact h.more (by omega)
  · rename_i hm
    split
    · exact h.more (by omega)
    · split
      · exact h.more (by omega)
      · rename_i hr
        have hm' : st.mayC o n := Decidable.byContradiction hm
        have q := room_pos hm'.1
        have h8 := h.len
        have q2 := hm'.2
        have hnb : nb t.size ≤ 6 := by unfold nb; omega
        exact (h.saveAt _ g t).more (by omega)
/-- Two disks of the caller's own: the program's is st1, the document's st. -/
structure Duo (w : World) (pd pr : Nat) (st st1 : St) (F G : Nat → Prop) (u : World) : Prop where
  d : DAt u pd st1 F
  r : RD u pr st G
  below : Below w.heap.size w u
  ap : ∀ k, F k → ¬ G k
  fNew : ∀ k, F k → w.heap.size ≤ k
  gNew : ∀ k, G k → w.heap.size ≤ k
theorem Duo.keep {w : World} {pd pr : Nat} {st st1 : St} {F G : Nat → Prop} {u v : World} (h : Duo w pd pr st st1 F G u) (hb : Below u.heap.size u v) : Duo w pd pr st st1 F G v :=
  ⟨con.below h.d hb, h.r.below hb, bnext h.below hb, h.ap, h.fNew, h.gNew⟩
theorem Duo.first {w : World} {pd pr : Nat} {st st1 st2 : St} {F F' G : Nat → Prop} {u v : World} (h : Duo w pd pr st st1 F G u) (hd : DAt v pd st2 F') (hl : Loc F F' u v) : Duo w pd pr st st2 F' G v :=
  ⟨hd, h.r.same (hl.other h.ap h.r.lt), h.below.trans (hl.below h.fNew h.below.size), hl.apart h.ap h.r.lt, hl.beyond h.fNew h.below.size, h.gNew⟩
theorem Duo.then {w : World} {pd pr : Nat} {st st1 st2 : St} {F G G' : Nat → Prop} {u v : World} (h : Duo w pd pr st st1 F G u) (hr : RD v pr st2 G') (hl : Loc G G' u v) : Duo w pd pr st2 st1 F G' v :=
  ⟨con.same h.d (hl.other (fun k h1 h2 => h.ap k h2 h1) (con.lt h.d)), hr, h.below.trans (hl.below h.gNew h.below.size), fun k h1 h2 => hl.apart (fun k h1 h2 => h.ap k h2 h1) (con.lt h.d) k h2 h1, h.fNew, hl.beyond h.gNew h.below.size⟩
/-- The box of a step. -/
def SBox (u : World) (S : Nat) (x : Stp) : Prop := u.heap[S]? = some (.cells #[.int .u8 (x.act : Int), .int .u64 (x.gen : Int), .string x.text, .int .u8 (x.times : Int), .int .i64 x.n, .int .u16 (x.pos : Int), .slice x.pa x.picks.length x.pc] 38 (0, 0))
/-- All cells of a step's box. -/
def SC (S : Nat) (x : Stp) (u : World) : Prop := u.cell? ⟨S, 0, none⟩ = some (.int .u8 (x.act : Int)) ∧ u.cell? ⟨S, 1, none⟩ = some (.int .u64 (x.gen : Int)) ∧ u.cell? ⟨S, 2, none⟩ = some (.string x.text) ∧ u.cell? ⟨S, 3, none⟩ = some (.int .u8 (x.times : Int)) ∧ u.cell? ⟨S, 4, none⟩ = some (.int .i64 x.n) ∧ u.cell? ⟨S, 5, none⟩ = some (.int .u16 (x.pos : Int)) ∧ u.cell? ⟨S, 6, none⟩ = some (.slice x.pa x.picks.length x.pc)
theorem SBox.cells {u : World} {S : Nat} {x : Stp} (h : SBox u S x) : SC S x u := by
  have e : u.heap[S]? = _ := h
  refine ⟨?_, ?_, ?_, ?_, ?_, ?_, ?_⟩ <;> simp [World.cell?, e]
theorem SBox.lt {u : World} {S : Nat} {x : Stp} (h : SBox u S x) : S < u.heap.size := (Array.getElem?_eq_some_iff.1 h).1
/-- Both, and a step in its box. -/
structure Mid2 (w : World) (pd pr : Nat) (st st1 : St) (F G : Nat → Prop) (S : Nat) (x : Stp) (u : World) : Prop where
  duo : Duo w pd pr st st1 F G u
  box : SBox u S x
  sF : ¬ F S
  sG : ¬ G S
theorem Mid2.keep {w : World} {pd pr : Nat} {st st1 : St} {F G : Nat → Prop} {S : Nat} {x : Stp} {u : World} {v : World} (h : Mid2 w pd pr st st1 F G S x u) (hb : Below u.heap.size u v) : Mid2 w pd pr st st1 F G S x v := ⟨h.duo.keep hb, (hb.block S h.box.lt).trans h.box, h.sF, h.sG⟩
theorem Mid2.first {w : World} {pd pr : Nat} {st st1 : St} {F G : Nat → Prop} {S : Nat} {x : Stp} {u : World} {st2 : St} {F' : Nat → Prop} {v : World} (h : Mid2 w pd pr st st1 F G S x u) (hd : DAt v pd st2 F') (hl : Loc F F' u v) : Mid2 w pd pr st st2 F' G S x v := by
  refine ⟨h.duo.first hd hl, (hl.block S h.box.lt h.sF).trans h.box, fun hf => ?_, h.sG⟩
  rcases hl.own S hf with h1 | h1
  · exact h.sF h1
  · have := h.box.lt; omega
theorem Mid2.then {w : World} {pd pr : Nat} {st st1 : St} {F G : Nat → Prop} {S : Nat} {x : Stp} {u : World} {st2 : St} {G' : Nat → Prop} {v : World} (h : Mid2 w pd pr st st1 F G S x u) (hr : RD v pr st2 G') (hl : Loc G G' u v) : Mid2 w pd pr st2 st1 F G' S x v := by
  refine ⟨h.duo.then hr hl, (hl.block S h.box.lt h.sG).trans h.box, h.sF, fun hf => ?_⟩
  rcases hl.own S hf with h1 | h1
  · exact h.sG h1
  · have := h.box.lt; omega
theorem Mid2.start {w : World} {pd pr : Nat} {st : St} {F G : Nat → Prop} {u : World} (h : Duo w pd pr st st F G u) (x : Stp) : Mid2 w pd pr st st F G u.heap.size x (u.alloc (.cells #[.int .u8 (x.act : Int), .int .u64 (x.gen : Int), .string x.text, .int .u8 (x.times : Int), .int .i64 x.n, .int .u16 (x.pos : Int), .slice x.pa x.picks.length x.pc] 38)) :=
  ⟨h.keep ((Below.refl _ u).alloc (Nat.le_refl _) _), heap_alloc_last u _, fun hf => Nat.lt_irrefl _ (con.lt h.d _ hf), fun hf => Nat.lt_irrefl _ (h.r.lt _ hf)⟩
theorem Mid2.cells {w : World} {pd pr : Nat} {st st1 : St} {F G : Nat → Prop} {S : Nat} {x : Stp} {u : World} (h : Mid2 w pd pr st st1 F G S x u) : SC S x u := h.box.cells
/-- What does tells. -/
def DoesSays (w : World) (pd pr : Nat) (c : Nat) (e : Ending) (v : World) : Prop := e = .returned (.bool true) ∧ ∃ st F G, Form 8 c st ∧ Duo w pd pr st st F G v
theorem Mid2.says {w : World} {pd pr : Nat} {st : St} {F G : Nat → Prop} {S : Nat} {x : Stp} {u : World} {c : Nat} (h : Mid2 w pd pr st st F G S x u) (hf : Form 8 c st) : DoesSays w pd pr c (.returned (.bool true)) u := ⟨rfl, st, F, G, hf, h.duo⟩
theorem mod6 (a k : Nat) (h : a % 6 = k) : Int.tmod (a : Int) 6 = (k : Int) := by rw [Int.tmod_eq_emod_of_nonneg (by omega)]; omega
end Go.Proofs.YtiebhdgpnloieaaDoor
namespace Go.Proofs.YtiebhdgpnloieaaDoor
open Go Go.RowKit Frm
theorem load_code (st : St) (o n : Int) : (st.load o n).2 ≤ 1000 := by
  unfold St.load
  split
  · show (_ : Nat) ≤ 1000; simp
  · split
    · show (_ : Nat) ≤ 1000; simp
    · simp only
      split
      · show (_ : Nat) ≤ 1000; simp
      · split <;> simp
theorem saveAt_code (a g : Nat) (t : ByteArray) (st : St) : (saveAt a g t st).1 ≤ 1000 := by
  have key : ∀ (r : Nat × St) (f : St → Nat × St), r.1 ≤ 1000 → (∀ s, (f s).1 ≤ 1000) → (andT r f).1 ≤ 1000 := fun r f h1 h2 => by
    unfold andT
    split
    · exact h2 _
    · exact h1
  have kp : ∀ m i s, (putsT (a + 1) t m i s).1 ≤ 1000 := by
    intro m
    induction m with
    | zero => intro i s; exact Nat.zero_le _
    | succ m ih => intro i s; exact key _ _ (write_code _ _ _) (fun s => ih _ _)
  unfold saveAt
  exact key _ _ (key _ _ (key _ _ (key _ _ (key _ _ (write_code _ _ _) sync_code) (kp _ _)) sync_code) (fun s => write_code _ _ _)) sync_code
theorem save_code (st : St) (o n : Int) (g : Nat) (t : ByteArray) : (st.save o n g t).1 ≤ 1000 := by
  unfold St.save
  split
  · show (_ : Nat) ≤ 1000; simp
  · split
    · show (_ : Nat) ≤ 1000; simp
    · split
      · show (_ : Nat) ≤ 1000; simp
      · exact saveAt_code _ _ _ _
theorem Mid2.c7 {w : World} {pd pr : Nat} {st st1 : St} {F G : Nat → Prop} {S : Nat} {x : Stp} {u : World} (h : Mid2 w pd pr st st1 F G S x u) : u.cell? ⟨S, 0, none⟩ = some (.int .u8 (x.act : Int)) ∧ u.cell? ⟨S, 1, none⟩ = some (.int .u64 (x.gen : Int)) ∧ u.cell? ⟨S, 2, none⟩ = some (.string x.text) ∧ u.cell? ⟨S, 3, none⟩ = some (.int .u8 (x.times : Int)) ∧ u.cell? ⟨S, 4, none⟩ = some (.int .i64 x.n) ∧ u.cell? ⟨S, 5, none⟩ = some (.int .u16 (x.pos : Int)) ∧ u.cell? ⟨S, 6, none⟩ = some (.slice x.pa x.picks.length x.pc) := h.box.cells
set_option maxRecDepth 10000 in
set_option maxHeartbeats 4000000 in
theorem does1 (w u : World) (pd pr : Nat) (o n : Int) (st : St) (c : Nat) (F G : Nat → Prop) (x : Stp) (h : Duo w pd pr st st F G u) (hf : Form 8 c st) (hc : c ≤ 6000) (hn : -9223372036854775808 ≤ n ∧ n ≤ 9223372036854775807) (hx : x.Ok) (ha : x.act % 6 = 1) :
    Calls Tryd.prog 12 #[.pointer (some ⟨pd, 0, none⟩), .pointer (some ⟨pr, 0, none⟩), .int .i64 o, .int .i64 n, x.val] u (DoesSays w pd pr (c + 8)) := by
  have hm := mod6 x.act 1 ha
  have hact := hx.act
  have HM := hide (Mid2.start h x)
  obtain ⟨s0, s1, s2, s3, s4, s5, s6⟩ := HM.out.cells
  have HF0 := hide hf
  have K1 := hide (fun v (hd : DAt v pd st F) => pLoad pd o n st F v hd hf.ok (by have := hf.few; omega) hn)
  have K2 := hide (fun v (hd : RD v pr st G) => rLoad_any pr o n st G v hd hf.ok (by have := hf.few; omega) (by rw [hf.len]; decide) hn)
  have HF := hide (hf.more (show c ≤ c + 8 by omega))
  have hy := load_code st o n
  clear h ha hf hn hc hx HF0
  unfold Stp.val
  generalize st.load o n = R at *
  obtain ⟨⟨g, t⟩, y⟩ := R
  have hwy : wrap64 (y : Int) = (y : Int) := by have : y ≤ 1000 := hy; unfold wrap64; omega
  clear hy
  go_enter Tryd.func12, Tryd.ntmps12
  go_wp2_with fail
  generalize u.alloc (.cells #[.int .u8 (x.act : Int), .int .u64 (x.gen : Int), .string x.text, .int .u8 (x.times : Int), .int .i64 x.n, .int .u16 (x.pos : Int), .slice x.pa x.picks.length x.pc] 38) = U at *
  generalize u.heap.size = S at *
  clear s0 s1 s2 s3 s4 s5 s6
  refine (K1.out _ HM.out.duo.d).mono ?_
  rintro e v1 ⟨rfl, hb1⟩
  have HM1 := hide (HM.out.keep hb1)
  clear hb1 HM K1
  go_wp2_with fail
  refine (K2.out _ HM1.out.duo.r).mono ?_
  rintro e v2 ⟨rfl, hb2⟩
  have HM2 := hide (HM1.out.keep hb2)
  clear hb2 HM1 K2
  go_wp2
  go_ret
  exact HM2.out.says HF.out
set_option maxRecDepth 10000 in
set_option maxHeartbeats 4000000 in
theorem does0 (w u : World) (pd pr : Nat) (o n : Int) (st : St) (c : Nat) (F G : Nat → Prop) (x : Stp) (h : Duo w pd pr st st F G u) (hf : Form 8 c st) (hc : c ≤ 6000) (hn : -9223372036854775808 ≤ n ∧ n ≤ 9223372036854775807) (hx : x.Ok) (ht : x.text.size ≤ 10000) (ha : x.act % 6 = 0) :
    Calls Tryd.prog 12 #[.pointer (some ⟨pd, 0, none⟩), .pointer (some ⟨pr, 0, none⟩), .int .i64 o, .int .i64 n, x.val] u (DoesSays w pd pr (c + 8)) := by
  have hm := mod6 x.act 0 ha
  have hact := hx.act
  have HM := hide (Mid2.start h x)
  obtain ⟨s0, s1, s2, s3, s4, s5, s6⟩ := HM.out.cells
  have HF0 := hide hf
  have K1 := hide (fun v (hd : DAt v pd st F) => pSave pd o n x.gen x.says st F v hd hf.ok (by have := hf.few; omega) hn (by have := says_size x; omega))
  have K2 := hide (fun v (hd : RD v pr st G) => rSave_any pr o n x.gen x.says st G v hd hf.ok (by have := hf.few; omega) (by rw [hf.len]; decide) hn (by have := says_size x; omega) hx.gen)
  have KT := hide (fun v => text_any x v hx (by omega))
  have HF := hide (hf.save o n x.gen x.says)
  have hy := save_code st o n x.gen x.says
  clear h ha hf hn hc hx HF0
  unfold RSays at K2
  unfold Stp.val at KT ⊢
  generalize x.says = t at *
  generalize st.save o n x.gen t = R at *
  obtain ⟨y, st2⟩ := R
  have hwy : wrap64 (y : Int) = (y : Int) := by have : y ≤ 1000 := hy; unfold wrap64; omega
  have hwi : IntKind.i64.wrap (y : Int) = (y : Int) := by have : y ≤ 1000 := hy; rw [IntKind.wrap_i64]; omega
  clear hy
  go_enter Tryd.func12, Tryd.ntmps12
  go_wp2_with fail
  generalize u.alloc (.cells #[.int .u8 (x.act : Int), .int .u64 (x.gen : Int), .string x.text, .int .u8 (x.times : Int), .int .i64 x.n, .int .u16 (x.pos : Int), .slice x.pa x.picks.length x.pc] 38) = U at *
  generalize u.heap.size = S at *
  clear s0 s1 s2 s3 s4 s5 s6
  have K := HM.out.keep ((Below.refl _ _).drew)
  clear HM
  go_region_held3 (fun z => z.cell? ⟨S, 0, none⟩ = some (.int .u8 (x.act : Int)) ∧ z.cell? ⟨S, 1, none⟩ = some (.int .u64 (x.gen : Int)) ∧ z.cell? ⟨S, 2, none⟩ = some (.string x.text) ∧ z.cell? ⟨S, 3, none⟩ = some (.int .u8 (x.times : Int)) ∧ z.cell? ⟨S, 4, none⟩ = some (.int .i64 x.n) ∧ z.cell? ⟨S, 5, none⟩ = some (.int .u16 (x.pos : Int)) ∧ z.cell? ⟨S, 6, none⟩ = some (.slice x.pa x.picks.length x.pc))
    ((with_reducible exact Mid2.c7 K))
    (first
      | (go_at_call 17; refine (KT.out _).mono ?_; rintro e z0 ⟨rfl, hb0⟩; have K := Mid2.keep K hb0)
      | (go_at_call 16; refine (K1.out _ K.duo.d).mono ?_; rintro e z1 ⟨rfl, F1, hd1, hl1⟩; have K := Mid2.first K hd1 hl1)
      | (go_at_call 21; refine (K2.out _ K.duo.r).mono ?_; rintro e z2 ⟨rfl, G1, hr2, hl2⟩; have K := Mid2.then K hr2 hl2))
  all_goals
    have HE := hide (K.says HF.out)
    clear K
    go_wp2
    go_ret
    exact HE.out
end Go.Proofs.YtiebhdgpnloieaaDoor
namespace Go.Proofs.YtiebhdgpnloieaaDoor
open Go Go.RowKit Frm
theorem write_wrap (st : St) (b : Int) (d : ByteArray) : wrap64 (((st.write b d).1 : Nat) : Int) = (((st.write b d).1 : Nat) : Int) := by
  have := write_code st b d
  unfold wrap64; omega
theorem write_iwrap (st : St) (b : Int) (d : ByteArray) : IntKind.i64.wrap (((st.write b d).1 : Nat) : Int) = (((st.write b d).1 : Nat) : Int) := by
  have := write_code st b d
  rw [IntKind.wrap_i64]; omega
set_option maxRecDepth 10000 in
set_option maxHeartbeats 4000000 in
theorem does3 (w u : World) (pd pr : Nat) (o n : Int) (st : St) (c : Nat) (F G : Nat → Prop) (x : Stp) (h : Duo w pd pr st st F G u) (hf : Form 8 c st) (hx : x.Ok) (ha : x.act % 6 = 3) :
    Calls Tryd.prog 12 #[.pointer (some ⟨pd, 0, none⟩), .pointer (some ⟨pr, 0, none⟩), .int .i64 o, .int .i64 n, x.val] u (DoesSays w pd pr (c + 8)) := by
  have hm := mod6 x.act 3 ha
  have hact := hx.act
  have HM := hide (Mid2.start h x)
  obtain ⟨s0, s1, s2, s3, s4, s5, s6⟩ := HM.out.cells
  have HF0 := hide hf
  have K1 := hide (fun v (hd : DAt v pd st F) => con.fuse pd st F x.n v hd hf.ok hx.n)
  have K2 := hide (fun v (hd : RD v pr st G) => rd_fuse pr st G x.n v hd hx.n.2)
  have HF := hide ((hf.fuse x.n hx.n.2).more (show c ≤ c + 8 by omega))
  clear h ha hf hx HF0
  unfold Stp.val
  generalize st.fuse x.n = R at *
  go_enter Tryd.func12, Tryd.ntmps12
  go_wp2_with fail
  generalize u.alloc (.cells #[.int .u8 (x.act : Int), .int .u64 (x.gen : Int), .string x.text, .int .u8 (x.times : Int), .int .i64 x.n, .int .u16 (x.pos : Int), .slice x.pa x.picks.length x.pc] 38) = U at *
  generalize u.heap.size = S at *
  clear s0 s1 s2 s3 s4 s5 s6
  refine (K1.out _ HM.out.duo.d).mono ?_
  rintro e v1 ⟨rfl, F1, hd1, hl1⟩
  have HM1 := hide (HM.out.first hd1 hl1)
  obtain ⟨s0, s1, s2, s3, s4, s5, s6⟩ := HM1.out.cells
  clear hd1 hl1 HM K1
  go_wp2_with fail
  refine (K2.out _ HM1.out.duo.r).mono ?_
  rintro e v2 ⟨⟨x2, rfl⟩, hr2, hl2⟩
  have HM2 := hide (HM1.out.then hr2 hl2)
  clear hr2 hl2 HM1 K2 s0 s1 s2 s3 s4 s5 s6
  go_wp2
  go_ret
  exact HM2.out.says HF.out
set_option maxRecDepth 10000 in
set_option maxHeartbeats 4000000 in
theorem does4 (w u : World) (pd pr : Nat) (o n : Int) (st : St) (c : Nat) (F G : Nat → Prop) (x : Stp) (h : Duo w pd pr st st F G u) (hf : Form 8 c st) (hc : c ≤ 6000) (hx : x.Ok) (ht : x.text.size ≤ 10000) (ha : x.act % 6 = 4) :
    Calls Tryd.prog 12 #[.pointer (some ⟨pd, 0, none⟩), .pointer (some ⟨pr, 0, none⟩), .int .i64 o, .int .i64 n, x.val] u (DoesSays w pd pr (c + 8)) := by
  have hm := mod6 x.act 4 ha
  have hact := hx.act
  have HM := hide (Mid2.start h x)
  obtain ⟨s0, s1, s2, s3, s4, s5, s6⟩ := HM.out.cells
  have HF0 := hide hf
  have KD := hide (fun v => data_any x.text v (by omega))
  have K1 := hide (fun v (hd : DAt v pd st F) => con.write pd st F x.n (dataOf x.text) v hd hf.ok (by have := hf.few; omega) hx.n (by rw [dataOf_size]; omega))
  have K2 := hide (fun v (hd : RD v pr st G) => rd_write pr st G x.n (dataOf x.text) v hd hf.ok (by have := hf.few; omega))
  have HF := hide ((hf.write x.n (dataOf x.text)).more (show c + 1 ≤ c + 8 by omega))
  have hwy := write_wrap st x.n (dataOf x.text)
  have hwi := write_iwrap st x.n (dataOf x.text)
  clear h ha hf hc hx HF0 ht
  unfold Stp.val
  generalize st.write x.n (dataOf x.text) = R at *
  generalize dataOf x.text = D at *
  go_enter Tryd.func12, Tryd.ntmps12
  go_wp2_with fail
  generalize u.alloc (.cells #[.int .u8 (x.act : Int), .int .u64 (x.gen : Int), .string x.text, .int .u8 (x.times : Int), .int .i64 x.n, .int .u16 (x.pos : Int), .slice x.pa x.picks.length x.pc] 38) = U at *
  generalize u.heap.size = S at *
  clear s0 s1 s2 s3 s4 s5 s6
  have K := HM.out.keep ((Below.refl _ _).drew)
  clear HM
  go_region_held3 (fun z => z.cell? ⟨S, 0, none⟩ = some (.int .u8 (x.act : Int)) ∧ z.cell? ⟨S, 1, none⟩ = some (.int .u64 (x.gen : Int)) ∧ z.cell? ⟨S, 2, none⟩ = some (.string x.text) ∧ z.cell? ⟨S, 3, none⟩ = some (.int .u8 (x.times : Int)) ∧ z.cell? ⟨S, 4, none⟩ = some (.int .i64 x.n) ∧ z.cell? ⟨S, 5, none⟩ = some (.int .u16 (x.pos : Int)) ∧ z.cell? ⟨S, 6, none⟩ = some (.slice x.pa x.picks.length x.pc))
    ((with_reducible exact Mid2.c7 K))
    (first
      | (go_at_call 26; refine (KD.out _).mono ?_; rintro e z0 ⟨rfl, hb0⟩; have K := Mid2.keep K hb0)
      | (go_at_call 25; refine (K1.out _ K.duo.d).mono ?_; rintro e z1 ⟨rfl, F1, hd1, hl1⟩; have K := Mid2.first K hd1 hl1)
      | (go_at_call 27; refine (K2.out _ K.duo.r).mono ?_; rintro e z2 ⟨rfl, G1, hr2, hl2⟩; have K := Mid2.then K hr2 hl2))
  all_goals
    have HE := hide (K.says HF.out)
    clear K
    go_wp2
    go_ret
    exact HE.out
end Go.Proofs.YtiebhdgpnloieaaDoor
namespace Go.Proofs.YtiebhdgpnloieaaDoor
open Go Go.RowKit Frm
/-- What Crash is asked on. -/
theorem mid_crash {w : World} {pd pr : Nat} {st st1 : St} {c : Nat} {F G : Nat → Prop} {S : Nat} {x : Stp} {u v : World} (h : Mid2 w pd pr st st1 F G S x u) (hf : Form 8 c st1) (hc : c ≤ 6000) (hx : x.Ok) (hpl : x.picks.length ≤ 10000) {a : Option Addr} {cc : Nat} (hb : Below u.heap.size u v) (hi : IntsAt v a x.picks) (hg : ∀ b off, a = some ⟨b, off, none⟩ → u.heap.size ≤ b) :
    Calls Tryd.prog 19 #[.pointer (some ⟨pd, 0, none⟩), .slice a x.picks.length cc] v fun e z => e = .returned (.int .i64 0) ∧ ∃ F', Mid2 w pd pr st (st1.crash x.picks) F' G S x z := by
  have hv := h.keep hb
  refine (con.crash pd st1 F a cc x.picks v hv.duo.d hf.ok (by have := hf.few; omega) hi (fun _ b off e hf' => by have q1 := hg b off e; have q2 := con.lt h.duo.d b hf'; omega) (by omega) hx.picks).mono ?_
  rintro e z ⟨rfl, F', hd, hl⟩
  exact ⟨rfl, F', hv.first hd hl⟩
theorem ints_block {w : World} {a : Option Addr} {l : List Int} (h : IntsAt w a l) : l ≠ [] → ∀ b off, a = some ⟨b, off, none⟩ → b < w.heap.size := fun hne b off e => by
  rcases h with h0 | ⟨b', off', h1, hc⟩
  · exact absurd h0 hne
  · rw [e] at h1
    cases h1
    exact World.block_lt_of_cell? w _ (hc 0 (List.length_pos_iff.2 hne))
theorem mid_crashR {w : World} {pd pr : Nat} {st st1 : St} {c : Nat} {F G : Nat → Prop} {S : Nat} {x : Stp} {u : World} (h : Mid2 w pd pr st st1 F G S x u) (hf : Form 8 c st) (hc : c ≤ 6000) (hpl : x.picks.length ≤ 10000) (hP : IntsAt w x.pa x.picks) :
    Calls Tryd.prog 23 #[.pointer (some ⟨pr, 0, none⟩), .slice x.pa x.picks.length x.pc] u fun e z => (∃ y, e = .returned y) ∧ ∃ G', Mid2 w pd pr (st.crash x.picks) st1 F G' S x z := by
  refine (rd_crash pr st G x.pa x.pc x.picks u h.duo.r hf.ok (by have := hf.few; omega) (hP.old h.duo.below) (fun hne b off e hg => by have q1 := ints_block hP hne b off e; have q2 := h.duo.gNew b hg; omega) (by omega)).mono ?_
  rintro e z ⟨he, G', hr, hl⟩
  exact ⟨he, G', h.then hr hl⟩
set_option maxRecDepth 10000 in
set_option maxHeartbeats 4000000 in
theorem does2 (w u : World) (pd pr : Nat) (o n : Int) (st : St) (c : Nat) (F G : Nat → Prop) (x : Stp) (h : Duo w pd pr st st F G u) (hf : Form 8 c st) (hc : c ≤ 6000) (hx : x.Ok) (hpl : x.picks.length ≤ 10000) (hP : IntsAt w x.pa x.picks) (ha : x.act % 6 = 2) :
    Calls Tryd.prog 12 #[.pointer (some ⟨pd, 0, none⟩), .pointer (some ⟨pr, 0, none⟩), .int .i64 o, .int .i64 n, x.val] u (DoesSays w pd pr (c + 8)) := by
  have hm := mod6 x.act 2 ha
  have hact := hx.act
  have HM := hide (Mid2.start h x)
  obtain ⟨s0, s1, s2, s3, s4, s5, s6⟩ := HM.out.cells
  have HF0 := hide hf
  unfold Stp.val
  have HF := hide ((hf.crash x.picks).more (Nat.zero_le (c + 8)))
  have HX := hide hx
  have KC := hide (fun v a cc hb hi hg => mid_crash (a := a) (cc := cc) (v := v) HM.out hf hc hx hpl hb hi hg)
  have HP := hide (hP.old HM.out.duo.below)
  have KR := hide (fun z F' (hM : Mid2 w pd pr st (st.crash x.picks) F' G u.heap.size x z) => mid_crashR hM hf hc hpl hP)
  clear h ha hf hc hx HF0 hP
  generalize st.crash x.picks = R at *
  go_enter Tryd.func12, Tryd.ntmps12
  go_upto_region 9 with fail
  generalize u.alloc (.cells #[.int .u8 (x.act : Int), .int .u64 (x.gen : Int), .string x.text, .int .u8 (x.times : Int), .int .i64 x.n, .int .u16 (x.pos : Int), .slice x.pa x.picks.length x.pc] 38) = U at *
  generalize u.heap.size = S at *
  clear s0 s1 s2 s3 s4 s5 s6
  have hbU : Below U.heap.size U (U.alloc (.cells #[] 3)) := (Below.refl _ _).alloc (Nat.le_refl _) _
  have HI3 : Hid (IntsAt (U.alloc (.cells #[] 3)) x.pa x.picks) := HP.out.old hbU
  have HBw : Hid (U.heap.size ≤ (U.alloc (.cells #[] 3)).heap.size) := hbU.size
  have HR3 := hide (World.ownsRow_lit (base := U.heap.size) (e := 3) (size := 1) U #[] 0 (Nat.le_refl _) (by decide) rfl)
  obtain ⟨s0, s1, s2, s3, s4, s5, s6⟩ := (HM.out.keep hbU).cells
  clear s0 s1 s2 s3 s4 s5 hbU
  go_wp2_with (at_builtin; refine wpList_append_ints _ rfl _ _ rfl U.heap.size _ rfl HR3.out x.pa x.pc x.picks rfl HI3.out HX.out.nil hpl HBw.out ?_)
  intro v5 u4 hown5 hgrow5
  obtain ⟨a5, c5, rfl, hi5, hg5⟩ := ints_of_own hown5
  have hb5 : Below U.heap.size U u4 := ((Below.refl _ _).alloc (Nat.le_refl _) (.cells #[] 3)).grown hgrow5 (by simp) (fun j e => by cases e; exact Nat.le_refl _)
  have KC2 := hide (KC.out u4 a5 c5 hb5 hi5 hg5)
  clear hown5 hgrow5 hi5 hg5 hb5 HR3 HI3 HBw s6 KC
  go_wp2_with fail
  refine KC2.out.mono ?_
  rintro e u5 ⟨rfl, F5, hM5⟩
  have HM5 := hide hM5
  have KR2 := hide (KR.out u5 F5 hM5)
  obtain ⟨s0, s1, s2, s3, s4, s5, s6⟩ := hM5.cells
  clear hM5 KC2 KR HM s0 s1 s2 s3 s4 s5
  go_wp2_with fail
  refine KR2.out.mono ?_
  rintro e u6 ⟨⟨y, rfl⟩, G6, hM6⟩
  have HM6 := hide hM6
  clear hM6 KR2 HM5 s6
  go_wp2
  go_ret
  exact HM6.out.says HF.out
end Go.Proofs.YtiebhdgpnloieaaDoor
namespace Go.Proofs.YtiebhdgpnloieaaDoor
open Go Go.RowKit Frm
theorem read_full {st : St} (h : st.Ok) (b : Int) (h0 : (st.read b).2 = 0) : (st.read b).1.size = 256 := by
  unfold St.read at *
  split at h0
  · exact absurd h0 (by decide)
  · split at h0
    · exact absurd h0 (by decide)
    · rename_i h1 h2
      rw [if_neg h1, if_neg h2]
      exact stands_size h.full (by omega) _ (fun w hw => (h.there w (List.mem_reverse.1 hw)).2)
theorem read_code (st : St) (b : Int) : (st.read b).2 ≤ 1000 := by
  unfold St.read
  split
  · show (_ : Nat) ≤ 1000; simp
  · split
    · show (_ : Nat) ≤ 1000; simp
    · show (_ : Nat) ≤ 1000; simp
set_option maxRecDepth 10000 in
set_option maxHeartbeats 4000000 in
theorem does5 (w u : World) (pd pr : Nat) (o n : Int) (st : St) (c : Nat) (F G : Nat → Prop) (x : Stp) (h : Duo w pd pr st st F G u) (hf : Form 8 c st) (hc : c ≤ 6000) (hx : x.Ok) (ha : x.act % 6 = 5) :
    Calls Tryd.prog 12 #[.pointer (some ⟨pd, 0, none⟩), .pointer (some ⟨pr, 0, none⟩), .int .i64 o, .int .i64 n, x.val] u (DoesSays w pd pr (c + 8)) := by
  have hm := mod6 x.act 5 ha
  have hact := hx.act
  have HM := hide (Mid2.start h x)
  obtain ⟨s0, s1, s2, s3, s4, s5, s6⟩ := HM.out.cells
  have HF0 := hide hf
  have KR := hide (fun v (hd : RD v pr st G) => rd_read pr st G x.n v hd hf.ok (by have := hf.few; omega))
  have hsz := read_full hf.ok x.n
  have hpos := hx.pos
  unfold Stp.val
  generalize hrd : st.read x.n = R at *
  obtain ⟨s, y⟩ := R
  by_cases hy : y = 0
  · have hs : s.size = 256 := hsz hy
    have KT := hide (fun v => turned_any s x.pos v hs hpos)
    have K1 := hide (fun v (hd : DAt v pd st F) => con.write pd st F x.n (turnT s x.pos) v hd hf.ok (by have := hf.few; omega) hx.n (by rw [turnT_size]; omega))
    have K2 := hide (fun v (hd : RD v pr st G) => rd_write pr st G x.n (turnT s x.pos) v hd hf.ok (by have := hf.few; omega))
    have HF := hide ((hf.write x.n (turnT s x.pos)).more (show c + 1 ≤ c + 8 by omega))
    have hwy := write_wrap st x.n (turnT s x.pos)
    have hwi := write_iwrap st x.n (turnT s x.pos)
    clear h ha hf hc hx HF0 hsz hrd
    subst hy
    generalize st.write x.n (turnT s x.pos) = W at *
    generalize turnT s x.pos = D at *
    go_enter Tryd.func12, Tryd.ntmps12
    go_wp2_with fail
    generalize u.alloc (.cells #[.int .u8 (x.act : Int), .int .u64 (x.gen : Int), .string x.text, .int .u8 (x.times : Int), .int .i64 x.n, .int .u16 (x.pos : Int), .slice x.pa x.picks.length x.pc] 38) = U at *
    generalize u.heap.size = S at *
    clear s0 s1 s2 s3 s4 s5 s6
    refine (KR.out _ HM.out.duo.r).mono ?_
    rintro e v1 ⟨rfl, hv1⟩
    obtain rfl := hv1.symm
    clear hv1 KR
    go_wp2_with fail
    have K := HM.out.keep ((Below.refl _ _).drew)
    clear HM
    go_region_held3 (fun z => z.cell? ⟨S, 0, none⟩ = some (.int .u8 (x.act : Int)) ∧ z.cell? ⟨S, 1, none⟩ = some (.int .u64 (x.gen : Int)) ∧ z.cell? ⟨S, 2, none⟩ = some (.string x.text) ∧ z.cell? ⟨S, 3, none⟩ = some (.int .u8 (x.times : Int)) ∧ z.cell? ⟨S, 4, none⟩ = some (.int .i64 x.n) ∧ z.cell? ⟨S, 5, none⟩ = some (.int .u16 (x.pos : Int)) ∧ z.cell? ⟨S, 6, none⟩ = some (.slice x.pa x.picks.length x.pc))
      ((with_reducible exact Mid2.c7 K))
      (first
        | (go_at_call 29; refine (KT.out _).mono ?_; rintro e z0 ⟨rfl, hb0⟩; have K := Mid2.keep K hb0)
        | (go_at_call 25; refine (K1.out _ K.duo.d).mono ?_; rintro e z1 ⟨rfl, F1, hd1, hl1⟩; have K := Mid2.first K hd1 hl1)
        | (go_at_call 27; refine (K2.out _ K.duo.r).mono ?_; rintro e z2 ⟨rfl, G1, hr2, hl2⟩; have K := Mid2.then K hr2 hl2))
    all_goals
      have HE := hide (K.says HF.out)
      clear K
      go_wp2
      go_ret
      exact HE.out
  · have hyz : ¬ ((y : Int) = 0) := by omega
    have HF := hide (hf.more (show c ≤ c + 8 by omega))
    clear h ha hf hc hx HF0 hsz hrd hy
    go_enter Tryd.func12, Tryd.ntmps12
    go_wp2_with fail
    generalize u.alloc (.cells #[.int .u8 (x.act : Int), .int .u64 (x.gen : Int), .string x.text, .int .u8 (x.times : Int), .int .i64 x.n, .int .u16 (x.pos : Int), .slice x.pa x.picks.length x.pc] 38) = U at *
    generalize u.heap.size = S at *
    clear s0 s1 s2 s3 s4 s5 s6
    refine (KR.out _ HM.out.duo.r).mono ?_
    rintro e v1 ⟨rfl, hv1⟩
    obtain rfl := hv1.symm
    clear hv1 KR
    go_wp2
    go_ret
    exact HM.out.says HF.out
theorem does_any (w u : World) (pd pr : Nat) (o n : Int) (st : St) (c : Nat) (F G : Nat → Prop) (x : Stp) (h : Duo w pd pr st st F G u) (hf : Form 8 c st) (hc : c ≤ 6000) (hn : -9223372036854775808 ≤ n ∧ n ≤ 9223372036854775807) (hx : x.Ok) (hsm : x.picks.length + 8 * x.text.size ≤ 8192) (hP : IntsAt w x.pa x.picks) :
    Calls Tryd.prog 12 #[.pointer (some ⟨pd, 0, none⟩), .pointer (some ⟨pr, 0, none⟩), .int .i64 o, .int .i64 n, x.val] u (DoesSays w pd pr (c + 8)) := by
  have h6 : x.act % 6 < 6 := Nat.mod_lt _ (by decide)
  by_cases h0 : x.act % 6 = 0
  · exact does0 w u pd pr o n st c F G x h hf hc hn hx (by omega) h0
  by_cases h1 : x.act % 6 = 1
  · exact does1 w u pd pr o n st c F G x h hf hc hn hx h1
  by_cases h2 : x.act % 6 = 2
  · exact does2 w u pd pr o n st c F G x h hf hc hx (by omega) hP h2
  by_cases h3 : x.act % 6 = 3
  · exact does3 w u pd pr o n st c F G x h hf hx h3
  by_cases h4 : x.act % 6 = 4
  · exact does4 w u pd pr o n st c F G x h hf hc hx (by omega) h4
  · exact does5 w u pd pr o n st c F G x h hf hc hx (by omega)
end Go.Proofs.YtiebhdgpnloieaaDoor
namespace Go.Proofs.YtiebhdgpnloieaaDoor
open Go Go.RowKit
/-- How heavy a list is, as heavy reckons it. -/
def hv : Nat → List Stp → Nat
  | n, [] => n
  | n, x :: l => if 8192 < n then n else hv (n + x.picks.length + 8 * x.text.size) l
theorem hv_le : ∀ (l : List Stp) (n : Nat), n ≤ hv n l
  | [], n => Nat.le_refl _
  | x :: l, n => by
    unfold hv
    split
    · exact Nat.le_refl _
    · exact Nat.le_trans (by omega) (hv_le l _)
theorem hv_small : ∀ (l : List Stp) (n : Nat), hv n l ≤ 8192 → ∀ x ∈ l, x.picks.length + 8 * x.text.size ≤ 8192
  | [], _, _, _, h => absurd h (by simp)
  | y :: l, n, h, x, hx => by
    unfold hv at h
    split at h
    · omega
    · rcases List.mem_cons.1 hx with rfl | hx
      · have := hv_le l (n + x.picks.length + 8 * x.text.size); omega
      · exact hv_small l _ h x hx
theorem hv_stop {n : Nat} (h : 8192 < n) (l : List Stp) : hv n l = n := by
  cases l with
  | nil => rfl
  | cons x l => unfold hv; rw [if_pos h]
theorem hv_go {n : Nat} (h : ¬ 8192 < n) (l : List Stp) (k : Nat) (hk : k < l.length) : hv n (l.drop k) = hv (n + l[k].picks.length + 8 * l[k].text.size) (l.drop (k + 1)) := by
  rw [List.drop_eq_getElem_cons hk]
  conv => lhs; unfold hv
  rw [if_neg h]
/-- Is a list heavy? -/
abbrev HeavyP (l : List Stp) : Prop := 8192 < hv l.length l ∨ 60 < l.length
theorem heavyP_no {l : List Stp} (h : ¬ HeavyP l) : l.length ≤ 60 ∧ ∀ x ∈ l, x.picks.length + 8 * x.text.size ≤ 8192 := by
  unfold HeavyP at h
  exact ⟨by omega, hv_small l l.length (by omega)⟩
/-- What heavy tells, and that it tells the same each time. -/
def HeavyIs (l : List Stp) (w : World) (e : Ending) (w' : World) : Prop := e = .returned (.bool (decide (HeavyP l))) ∧ ∃ q, w' = w.drewN q
theorem HeavyIs.yes {l : List Stp} {w : World} (q : Nat) (h : HeavyP l) : HeavyIs l w (.returned (.bool true)) (w.drewN q) := ⟨by rw [decide_eq_true h], q, rfl⟩
theorem HeavyIs.no {l : List Stp} {w : World} (q : Nat) (h : ¬ HeavyP l) : HeavyIs l w (.returned (.bool false)) (w.drewN q) := ⟨by rw [decide_eq_false h], q, rfl⟩
set_option maxRecDepth 10000 in
set_option maxHeartbeats 1000000 in
theorem heavy_is (a : Option Addr) (c : Nat) (l : List Stp) (w : World) (h : StepsAt w a l) (hok : ∀ x ∈ l, x.Ok) (hl : l.length ≤ 140737488351232) :
    Calls Tryd.prog 6 #[.slice a l.length c] w (HeavyIs l w) := by
  have H := hide h
  have HOk := hide hok
  clear h hok
  go_enter Tryd.func6, Tryd.ntmps6
  go_wp2_with fail
  go_loopw [3, 4] (fun nv i wr => ∃ k m q : Nat, wr = w.drewN q ∧ k ≤ l.length ∧ i = .int .i64 (k : Int) ∧ nv = .int .i64 (m : Int) ∧ l.length ≤ m ∧ m ≤ 1562949953421312 ∧ hv l.length l = hv m (l.drop k)) (fun _ i _ => l.length - (intOf i).toNat)
  case atStart => exact ⟨0, l.length, 0, rfl, Nat.zero_le _, rfl, rfl, Nat.le_refl _, by omega, rfl⟩
  case round =>
    obtain ⟨k, m, q, hwr, hk, rfl, rfl, hlm, hm, hall⟩ := hrel
    have HWr := hide hwr
    clear hwr
    have HA := hide hall
    clear hall
    by_cases hlt : k < l.length
    · by_cases h4 : m ≤ 8192
      · obtain ⟨b, off, rfl, hc⟩ : ∃ b off, a = some ⟨b, off, none⟩ ∧ ∀ j (hj : j < l.length), StepAt w b (off + j * 7) l[j] := by
          rcases H.out with h0 | h1
          · rw [h0] at hlt; exact absurd hlt (by simp)
          · exact h1
        have e4 : wr.cell? ⟨b, off + k * 7 + 6, none⟩ = some (.slice l[k].pa l[k].picks.length l[k].pc) := by rw [HWr.out]; exact (hc k hlt).2.2.2.2.2.2.1
        have e1 : wr.cell? ⟨b, off + k * 7 + 2, none⟩ = some (.string l[k].text) := by rw [HWr.out]; exact (hc k hlt).2.2.1
        have hpm := (HOk.out _ (List.getElem_mem hlt)).many
        have htx := (HOk.out _ (List.getElem_mem hlt)).text
        have HNext : Hid (hv l.length l = hv (m + l[k].picks.length + 8 * l[k].text.size) (l.drop (k + 1))) := by
          show _ = _
          rw [HA.out, hv_go (by omega) l k hlt]
        clear hc
        generalize l[k].picks.length = y at *
        generalize l[k].pa = ya at *
        generalize l[k].pc = yc at *
        generalize l[k].text = t at *
        have h4z : (m : Int) ≤ 8192 := by omega
        have hw1 : wrap64 (8 * (t.size : Int)) = 8 * (t.size : Int) := by unfold wrap64; omega
        have hw2 : wrap64 ((m : Int) + (y : Int)) = (m : Int) + (y : Int) := by unfold wrap64; omega
        have hw3 : wrap64 ((m : Int) + (y : Int) + 8 * (t.size : Int)) = (m : Int) + (y : Int) + 8 * (t.size : Int) := by unfold wrap64; omega
        go_wp2_with fail
        go_quiet (fail)
        go_wp2
        go_roundw
        case rel => exact ⟨k + 1, m + y + 8 * t.size, q + nq, by rw [HWr.out, World.drewN_drewN], hlt, by go_num, by go_num, by omega, by omega, HNext.out⟩
        case measure => simp [intOf]; omega
      · have h4z : ¬ ((m : Int) ≤ 8192) := by omega
        have h4y : (8192 : Int) < (m : Int) := by omega
        go_wp2
        go_ret
        rw [HWr.out]
        exact HeavyIs.yes _ (Or.inl (by rw [HA.out, hv_stop (by omega)]; omega))
    · have hke : k = l.length := by omega
      by_cases h4 : m ≤ 8192
      · have h4z : ¬ ((8192 : Int) < (m : Int)) := by omega
        have HF : Hid (hv l.length l = m) := by
          show _ = _
          rw [HA.out, List.drop_of_length_le (by omega)]
          rfl
        subst hke
        by_cases hn1 : 60 < l.length
        · have hn2 : (60 : Int) < (l.length : Int) := by omega
          go_wp2
          go_ret
          rw [HWr.out]
          exact HeavyIs.yes _ (Or.inr hn1)
        · have hn2 : ¬ ((60 : Int) < (l.length : Int)) := by omega
          go_wp2
          go_ret
          rw [HWr.out]
          exact HeavyIs.no _ (fun h => by rcases h with h | h; rw [HF.out] at h; omega; omega)
      · have h4z : (8192 : Int) < (m : Int) := by omega
        subst hke
        go_wp2
        go_ret
        rw [HWr.out]
        exact HeavyIs.yes _ (Or.inl (by rw [HA.out, List.drop_of_length_le (by omega)]; show 8192 < m; omega))
end Go.Proofs.YtiebhdgpnloieaaDoor
namespace Go.Proofs.YtiebhdgpnloieaaDoor
open Go Go.RowKit Frm
theorem rd_looseAt {u : World} {p : Nat} {st : St} {G : Nat → Prop} (h : RD u p st G) : ∃ a c, u.cell? ⟨p, 1, none⟩ = some (.slice a st.loose.length c) := by
  obtain ⟨vS, vL, rfl, hR⟩ := h
  obtain ⟨a, c, e, _⟩ := slice_of hR.loose
  exact ⟨a, c, by rw [hR.cell1, e]⟩
theorem below_eq {u v : World} (h : v = u) : Below u.heap.size u v := by subst h; exact Below.refl _ _
theorem cellB {u v : World} {a : Addr} {y : Value} (hb : Below u.heap.size u v) (h : u.cell? a = some y) : v.cell? a = some y := (hb.cell (World.block_lt_of_cell? u _ h)).trans h
theorem few_ok {n c : Nat} {st : St} (h : Form n (c + 8) st) (hc : c + 8 ≤ 6000) : st.loose.length ≤ 10000 := by have := h.few; omega
/-- The step of the law's own end. -/
def lastStp : Stp := ⟨1, 0, ⟨#[]⟩, 0, 0, 0, none, [], 0⟩
theorem lastOk : lastStp.Ok := ⟨by decide, by decide, by decide, by decide, by decide, by decide, by decide, by simp [lastStp], fun _ => rfl⟩
set_option maxRecDepth 10000 in
set_option maxHeartbeats 8000000 in
theorem CkptPlays_any (o n : Int) (a : Option Addr) (c : Nat) (l : List Stp) (w : World) (h : StepsAt w a l) (hok : ∀ x ∈ l, x.Ok) (hl : l.length ≤ 140737488351232) (hn : -9223372036854775808 ≤ n ∧ n ≤ 9223372036854775807) :
    Calls Tryd.prog 3 #[.int .i64 o, .int .i64 n, .slice a l.length c] w fun e w' => e = .returned (.bool true) ∧ Below w.heap.size w w' := by
  have KA := hide alive_any
  have HSt := hide h
  have HOk := hide hok
  have KH := hide (fun u (hb : Below w.heap.size w u) => heavy_is a c l u (by
    rcases h with h0 | ⟨b, off, e, hc⟩
    · exact Or.inl h0
    · exact Or.inr ⟨b, off, e, fun j hj => (hc j hj).old hb⟩) hok hl)
  have KRa := hide (fun u => room_any n u hn)
  have KRb := hide (fun u => rRoom_any n u hn)
  have HN := hide hn
  clear h hok hn
  generalize room n = rm at *
  by_cases hr : HeavyP l
  · have e1 := decide_eq_true hr
    unfold HeavyIs at KH
    rw [e1] at KH
    clear hr e1 HSt HOk KRa KRb HN
    go_enter Tryd.func3, Tryd.ntmps3
    go_wp2_with fail
    refine (KH.out _ (Below.refl _ _)).mono ?_
    rintro e w1 ⟨rfl, n1, hw1⟩
    have HB1 : Hid (Below w.heap.size w w1) := by rw [hw1]; exact below_drewN (Below.refl _ _) n1
    clear hw1
    go_wp2_with fail
    refine (KH.out _ HB1.out).mono ?_
    rintro e w2 ⟨rfl, n2, hw2⟩
    have HB2 : Hid (Below w.heap.size w w2) := by rw [hw2]; exact bnext HB1.out (below_drewN (Below.refl _ _) n2)
    clear hw2 KH
    go_wp2_with fail
    refine (KA.out _).mono ?_
    rintro e w3 ⟨rfl, hb3⟩
    have HB3 := hide (bnext HB2.out hb3)
    clear hb3
    go_wp2
    go_ret
    exact ⟨rfl, HB3.out⟩
  · have e1 := decide_eq_false hr
    unfold HeavyIs at KH
    rw [e1] at KH
    obtain ⟨hl60, hsm⟩ := heavyP_no hr
    have HSm := hide hsm
    clear hr hsm e1
    go_enter Tryd.func3, Tryd.ntmps3
    go_wp2_with fail
    refine (KH.out _ (Below.refl _ _)).mono ?_
    rintro e w1 ⟨rfl, n1, hw1⟩
    have HB1 : Hid (Below w.heap.size w w1) := by rw [hw1]; exact below_drewN (Below.refl _ _) n1
    clear hw1 KH
    go_wp2_with fail
    refine (KRa.out _).mono ?_
    rintro e w2 ⟨rfl, hw2⟩
    obtain rfl := hw2.symm
    clear hw2
    go_wp2_with fail
    refine (KRb.out _).mono ?_
    rintro e w2 ⟨rfl, hw2⟩
    obtain rfl := hw2.symm
    clear hw2
    have K1 := hide (con.new 8 w1 (by decide) (by decide))
    go_wp2_with fail
    refine K1.out.mono ?_
    rintro e w2 ⟨pd, F, rfl, hd1, hF1, hb1⟩
    have K2 := hide (rd_new 8 w2 (by decide) (by decide))
    have HD1 := hide hd1
    have HF1 := hide hF1
    have HB2 := hide hb1
    clear hd1 hF1 hb1 K1 KRa KRb
    go_wp2_with fail
    refine K2.out.mono ?_
    rintro e w3 ⟨pr, G, rfl, hr3, hG3, hb3⟩
    have HDs : Hid (Duo w pd pr (St.new 8) (St.new 8) F G w3) := by
      have q1 := HB1.out.size
      have q2 := HB2.out.size
      have hlt := con.lt HD1.out
      refine ⟨con.below HD1.out hb3, hr3, bnext (bnext HB1.out HB2.out) hb3, fun k h1 h2 => ?_, fun k hk => ?_, fun k hk => ?_⟩
      · have z1 := hlt k h1; have z2 := hG3 k h2; omega
      · have z1 := HF1.out k hk; omega
      · have z1 := hG3 k hk; omega
    have HFo : Hid (Form 8 0 (St.new 8)) := Form.new (by decide) (by decide)
    clear hr3 hG3 hb3 HD1 HF1 HB2 K2
    go_wp2_with fail
    go_loopw [11] (fun i u => ∃ (k : Nat) (st : St) (F G : Nat → Prop), k ≤ l.length ∧ i = .int .i64 (k : Int) ∧ Form 8 (8 * k) st ∧ Duo w pd pr st st F G u) (fun i _ => l.length - (intOf i).toNat)
    case atStart => exact ⟨0, St.new 8, F, G, Nat.zero_le _, rfl, HFo.out, HDs.out⟩
    case round =>
      obtain ⟨k, st, F', G', hk, rfl, hFm, hF⟩ := hrel
      clear HDs HFo
      by_cases hlt : k < l.length
      · obtain ⟨b, off, rfl, hc⟩ : ∃ b off, a = some ⟨b, off, none⟩ ∧ ∀ j (hj : j < l.length), StepAt w b (off + j * 7) l[j] := by
          rcases HSt.out with h0 | h1
          · rw [h0] at hlt; exact absurd hlt (by simp)
          · exact h1
        have hxo := HOk.out _ (List.getElem_mem hlt)
        have hsm := HSm.out _ (List.getElem_mem hlt)
        have hck := hc k hlt
        have HCk : Hid (∀ z, Below w.heap.size w z → z.cell? ⟨b, off + k * 7, none⟩ = some (.int .u8 (l[k].act : Int)) ∧ z.cell? ⟨b, off + k * 7 + 1, none⟩ = some (.int .u64 (l[k].gen : Int)) ∧ z.cell? ⟨b, off + k * 7 + 2, none⟩ = some (.string l[k].text) ∧ z.cell? ⟨b, off + k * 7 + 3, none⟩ = some (.int .u8 (l[k].times : Int)) ∧ z.cell? ⟨b, off + k * 7 + 4, none⟩ = some (.int .i64 l[k].n) ∧ z.cell? ⟨b, off + k * 7 + 5, none⟩ = some (.int .u16 (l[k].pos : Int)) ∧ z.cell? ⟨b, off + k * 7 + 6, none⟩ = some (.slice l[k].pa l[k].picks.length l[k].pc)) := fun z hb => by
          obtain ⟨e0, e1, e2, e3, e4, e5, e6, -⟩ := hck.old hb
          exact ⟨e0, e1, e2, e3, e4, e5, e6⟩
        have HFd := hide (hF.keep ((Below.refl _ wr).drew))
        have hz : (k : Int) < (l.length : Int) := by omega
        have KD := hide (does_any w wr.drew pd pr o n st (8 * k) F' G' l[k] (hF.keep ((Below.refl _ _).drew)) hFm (by omega) HN.out hxo hsm hck.2.2.2.2.2.2.2)
        unfold Stp.val at KD
        have hw1 : IntKind.i64.wrap ((k : Int) + 1) = (k : Int) + 1 := by rw [IntKind.wrap_i64]; omega
        have HW1 := hide hw1
        have HKs : Hid (8 * k + 8 ≤ 6000) := by show _ ≤ _; omega
        clear hc hck hxo hsm hF hw1 hFm
        generalize l[k] = x at *
        go_wp2_with fail
        refine wp_region_held_drew (S := fun z => z.cell? ⟨b, off + k * 7, none⟩ = some (.int .u8 (x.act : Int)) ∧ z.cell? ⟨b, off + k * 7 + 1, none⟩ = some (.int .u64 (x.gen : Int)) ∧ z.cell? ⟨b, off + k * 7 + 2, none⟩ = some (.string x.text) ∧ z.cell? ⟨b, off + k * 7 + 3, none⟩ = some (.int .u8 (x.times : Int)) ∧ z.cell? ⟨b, off + k * 7 + 4, none⟩ = some (.int .i64 x.n) ∧ z.cell? ⟨b, off + k * 7 + 5, none⟩ = some (.int .u16 (x.pos : Int)) ∧ z.cell? ⟨b, off + k * 7 + 6, none⟩ = some (.slice x.pa x.picks.length x.pc)) (by kernel_rfl) (HCk.out _ HFd.out.below) (fun hHeld => ?_)
        refine takeAt 0 47 (v := ?v0) rfl rfl (by kernel_rfl) (by kernel_rfl) (by kernel_rfl) (fun _ _ _ h => h) (Or.inl ⟨by rfl, ?hy0⟩) (by assumption) ?rest0
        case hy0 => (intro w hSw; (try dsimp only at hSw); go_simp; first | done | with_reducible rfl)
        simp only [List.setIfInBounds_toArray, List.set_cons_succ, List.set_cons_zero]
        refine takeAt 1 48 (v := ?v1) rfl rfl (by kernel_rfl) (by kernel_rfl) (by kernel_rfl) (fun _ _ _ h => h) (Or.inl ⟨by rfl, ?hy1⟩) (by assumption) ?rest1
        case hy1 => (intro w hSw; (try dsimp only at hSw); go_simp; first | done | with_reducible rfl)
        simp only [List.setIfInBounds_toArray, List.set_cons_succ, List.set_cons_zero]
        refine takeAt 2 49 (v := ?v2) rfl rfl (by kernel_rfl) (by kernel_rfl) (by kernel_rfl) (fun _ _ _ h => h) (Or.inl ⟨by rfl, ?hy2⟩) (by assumption) ?rest2
        case hy2 => (intro w hSw; (try dsimp only at hSw); go_simp; first | done | with_reducible rfl)
        simp only [List.setIfInBounds_toArray, List.set_cons_succ, List.set_cons_zero]
        refine takeAt 3 50 (v := ?v3) rfl rfl (by kernel_rfl) (by kernel_rfl) (by kernel_rfl) (fun _ _ _ h => h) (Or.inl ⟨by rfl, ?hy3⟩) (by assumption) ?rest3
        case hy3 => (intro w hSw; (try dsimp only at hSw); go_simp; first | done | with_reducible rfl)
        simp only [List.setIfInBounds_toArray, List.set_cons_succ, List.set_cons_zero]
        refine takeAt 4 51 (v := ?v4) rfl rfl (by kernel_rfl) (by kernel_rfl) (by kernel_rfl) (fun _ _ _ h => h) (Or.inl ⟨by rfl, ?hy4⟩) (by assumption) ?rest4
        case hy4 => (intro w hSw; (try dsimp only at hSw); go_simp; first | done | with_reducible rfl)
        simp only [List.setIfInBounds_toArray, List.set_cons_succ, List.set_cons_zero]
        refine takeAt 5 52 (v := ?v5) rfl rfl (by kernel_rfl) (by kernel_rfl) (by kernel_rfl) (fun _ _ _ h => h) (Or.inl ⟨by rfl, ?hy5⟩) (by assumption) ?rest5
        case hy5 => (intro w hSw; (try dsimp only at hSw); go_simp; first | done | with_reducible rfl)
        simp only [List.setIfInBounds_toArray, List.set_cons_succ, List.set_cons_zero]
        refine takeAt 6 53 (v := ?v6) rfl rfl (by kernel_rfl) (by kernel_rfl) (by kernel_rfl) (fun _ _ _ h => h) (Or.inl ⟨by rfl, ?hy6⟩) (by assumption) ?rest6
        case hy6 => (intro w hSw; (try dsimp only at hSw); go_simp; first | done | with_reducible rfl)
        simp only [List.setIfInBounds_toArray, List.set_cons_succ, List.set_cons_zero]
        refine takeAt 7 54 (v := ?v7) rfl rfl (by kernel_rfl) (by kernel_rfl) (by kernel_rfl) (fun _ _ _ h => h) (Or.inl ⟨by rfl, ?hy7⟩) (by assumption) ?rest7
        case hy7 => (intro w hSw; (try dsimp only at hSw); go_simp; first | done | with_reducible rfl)
        simp only [List.setIfInBounds_toArray, List.set_cons_succ, List.set_cons_zero]
        refine wpAnyH_ready (rs := [8]) (by kernel_rfl) (by simp) ?_
        refine AllReadyH.cons (o := { dst := some 55, op := Op.call { callee := Callee.value (Operand.func 12), args := #[Operand.tmp 47, Operand.tmp 48, Operand.tmp 49, Operand.tmp 50, Operand.tmp 54], argTypes := #[26, 30, 3, 3, 38] }, type := 4, pos := "law.go:111", after := #[{ on := 0, ground := Ground.data }, { on := 1, ground := Ground.data }, { on := 2, ground := Ground.data }, { on := 3, ground := Ground.data }, { on := 7, ground := Ground.data }], guard := none }) rfl (fun K hK => ?_) AllReadyH.nil
        go_simp
        refine KD.out.mono ?_
        rintro e z1 ⟨rfl, st2, F2, G2, hf2, hK1⟩
        have HK1 := hide hK1
        have HF2 := hide hf2
        clear hK1 hf2
        obtain ⟨aL, cL, hyL⟩ := rd_looseAt HK1.out.r
        have HTx := hide (con.sure pd st2 F2 z1 HK1.out.d HF2.out.ok)
        have HTr := hide (fun z (hr : RD z pr st2 G2) => rd_sure pr st2 G2 z hr HF2.out.ok)
        have HLo := hide (fun z (hd : DAt z pd st2 F2) => con.loose pd st2 F2 z hd HF2.out.ok (few_ok HF2.out HKs.out))
        generalize st2.text = T at *
        generalize st2.loose.length = m at *
        have HYL := hide hyL
        clear hyL
        go_wp2_with fail
        refine hK.out _ _ (HCk.out _ HK1.out.below) (fun hHeld2 => ?_)
        clear hK K
        (try go_frame)
        clear hHeld hHeld2
        refine wpAnyH_weak (S' := fun z => z.cell? ⟨pr, 1, none⟩ = some (.slice aL m cL) ∧ z.cell? ⟨b, off + k * 7, none⟩ = some (.int .u8 (x.act : Int)) ∧ z.cell? ⟨b, off + k * 7 + 1, none⟩ = some (.int .u64 (x.gen : Int)) ∧ z.cell? ⟨b, off + k * 7 + 2, none⟩ = some (.string x.text) ∧ z.cell? ⟨b, off + k * 7 + 3, none⟩ = some (.int .u8 (x.times : Int)) ∧ z.cell? ⟨b, off + k * 7 + 4, none⟩ = some (.int .i64 x.n) ∧ z.cell? ⟨b, off + k * 7 + 5, none⟩ = some (.int .u16 (x.pos : Int)) ∧ z.cell? ⟨b, off + k * 7 + 6, none⟩ = some (.slice x.pa x.picks.length x.pc)) (fun z h => h.2) ?_
        have hHeld : (fun z : World => z.cell? ⟨pr, 1, none⟩ = some (.slice aL m cL) ∧ z.cell? ⟨b, off + k * 7, none⟩ = some (.int .u8 (x.act : Int)) ∧ z.cell? ⟨b, off + k * 7 + 1, none⟩ = some (.int .u64 (x.gen : Int)) ∧ z.cell? ⟨b, off + k * 7 + 2, none⟩ = some (.string x.text) ∧ z.cell? ⟨b, off + k * 7 + 3, none⟩ = some (.int .u8 (x.times : Int)) ∧ z.cell? ⟨b, off + k * 7 + 4, none⟩ = some (.int .i64 x.n) ∧ z.cell? ⟨b, off + k * 7 + 5, none⟩ = some (.int .u16 (x.pos : Int)) ∧ z.cell? ⟨b, off + k * 7 + 6, none⟩ = some (.slice x.pa x.picks.length x.pc)) z1 := ⟨HYL.out, HCk.out _ HK1.out.below⟩
        dsimp only at hHeld
        refine takeAt 9 56 (v := ?v9) rfl rfl (by kernel_rfl) (by kernel_rfl) (by kernel_rfl) (fun _ _ _ h => h) (Or.inl ⟨by rfl, ?hy9⟩) (by assumption) ?rest9
        case hy9 => (intro w hSw; (try dsimp only at hSw); go_simp; first | done | with_reducible rfl)
        simp only [List.setIfInBounds_toArray, List.set_cons_succ, List.set_cons_zero]
        refine takeAt 10 57 (v := ?v10) rfl rfl (by kernel_rfl) (by kernel_rfl) (by kernel_rfl) (fun _ _ _ h => h) (Or.inl ⟨by rfl, ?hy10⟩) (by assumption) ?rest10
        case hy10 => (intro w hSw; (try dsimp only at hSw); go_simp; first | done | with_reducible rfl)
        simp only [List.setIfInBounds_toArray, List.set_cons_succ, List.set_cons_zero]
        refine takeAt 11 58 (v := ?v11) rfl rfl (by kernel_rfl) (by kernel_rfl) (by kernel_rfl) (fun _ _ _ h => h) (Or.inl ⟨by rfl, ?hy11⟩) (by assumption) ?rest11
        case hy11 => (intro w hSw; (try dsimp only at hSw); go_simp; first | done | with_reducible rfl)
        simp only [List.setIfInBounds_toArray, List.set_cons_succ, List.set_cons_zero]
        refine takeAt 13 60 (v := ?v13) rfl rfl (by kernel_rfl) (by kernel_rfl) (by kernel_rfl) (fun _ _ _ h => h) (Or.inl ⟨by rfl, ?hy13⟩) (by assumption) ?rest13
        case hy13 => (intro w hSw; (try dsimp only at hSw); go_simp; first | done | with_reducible rfl)
        simp only [List.setIfInBounds_toArray, List.set_cons_succ, List.set_cons_zero]
        refine wpAnyH_ready (rs := [12]) (by kernel_rfl) (by simp) ?_
        refine AllReadyH.cons (o := { dst := some 59, op := Op.call { callee := Callee.value (Operand.func 13), args := #[Operand.tmp 58], argTypes := #[26] }, type := 9, pos := "law.go:111", after := #[{ on := 11, ground := Ground.data }, { on := 10, ground := Ground.chain }, { on := 10, ground := Ground.guard }], guard := some (10, false) }) rfl (fun K hK => ?_) AllReadyH.nil
        go_simp
        refine HTx.out.mono ?_
        rintro e z2 ⟨rfl, hb2⟩
        have HK2 := hide (HK1.out.keep hb2)
        have HYL2 := hide (cellB hb2 HYL.out)
        clear hb2 HTx
        go_wp2_with fail
        refine hK.out _ _ (⟨HYL2.out, HCk.out _ HK2.out.below⟩) (fun hHeld2 => ?_)
        clear hK K
        (try go_frame)
        clear hHeld
        refine wpAnyH_ready (rs := [14]) (by kernel_rfl) (by simp) ?_
        refine AllReadyH.cons (o := { dst := some 61, op := Op.call { callee := Callee.value (Operand.func 14), args := #[Operand.tmp 60], argTypes := #[30] }, type := 9, pos := "law.go:111", after := #[{ on := 13, ground := Ground.data }, { on := 12, ground := Ground.chain }, { on := 10, ground := Ground.guard }], guard := some (10, false) }) rfl (fun K hK => ?_) AllReadyH.nil
        go_simp
        refine (HTr.out _ HK2.out.r).mono ?_
        rintro e z3 ⟨rfl, hz3⟩
        have HK3 := hide (HK2.out.keep (below_eq hz3))
        have HYL3 := hide (cellB (below_eq hz3) HYL2.out)
        clear hz3 HTr
        go_wp2_with fail
        refine hK.out _ _ (⟨HYL3.out, HCk.out _ HK3.out.below⟩) (fun hHeld3 => ?_)
        clear hK K
        (try go_frame)
        clear hHeld2
        refine takeAt 15 62 (v := ?v15) rfl rfl (by kernel_rfl) (by kernel_rfl) (by kernel_rfl) (fun _ _ _ h => h) (Or.inl ⟨by rfl, ?hy15⟩) (by assumption) ?rest15
        case hy15 => (intro w hSw; (try dsimp only at hSw); go_simp; first | done | with_reducible rfl)
        simp only [List.setIfInBounds_toArray, List.set_cons_succ, List.set_cons_zero]
        refine takeAt 16 63 (v := ?v16) rfl rfl (by kernel_rfl) (by kernel_rfl) (by kernel_rfl) (fun _ _ _ h => h) (Or.inl ⟨by rfl, ?hy16⟩) (by assumption) ?rest16
        case hy16 => (intro w hSw; (try dsimp only at hSw); go_simp; first | done | with_reducible rfl)
        simp only [List.setIfInBounds_toArray, List.set_cons_succ, List.set_cons_zero]
        refine takeAt 17 64 (v := ?v17) rfl rfl (by kernel_rfl) (by kernel_rfl) (by kernel_rfl) (fun _ _ _ h => h) (Or.inl ⟨by rfl, ?hy17⟩) (by assumption) ?rest17
        case hy17 => (intro w hSw; (try dsimp only at hSw); go_simp; first | done | with_reducible rfl)
        simp only [List.setIfInBounds_toArray, List.set_cons_succ, List.set_cons_zero]
        refine takeAt 18 65 (v := ?v18) rfl rfl (by kernel_rfl) (by kernel_rfl) (by kernel_rfl) (fun _ _ _ h => h) (Or.inl ⟨by rfl, ?hy18⟩) (by assumption) ?rest18
        case hy18 => (intro w hSw; (try dsimp only at hSw); go_simp; first | done | with_reducible rfl)
        simp only [List.setIfInBounds_toArray, List.set_cons_succ, List.set_cons_zero]
        refine takeAt 21 68 (v := ?v21) rfl rfl (by kernel_rfl) (by kernel_rfl) (by kernel_rfl) (fun _ _ _ h => h) (Or.inl ⟨by rfl, ?hy21⟩) (by assumption) ?rest21
        case hy21 => (intro w hSw; (try dsimp only at hSw); go_simp; first | done | with_reducible rfl)
        simp only [List.setIfInBounds_toArray, List.set_cons_succ, List.set_cons_zero]
        refine takeAt 22 69 (v := ?v22) rfl rfl (by kernel_rfl) (by kernel_rfl) (by kernel_rfl) (fun _ _ _ h => h) (Or.inl ⟨by rfl, ?hy22⟩) (by assumption) ?rest22
        case hy22 => (intro w hSw; (try dsimp only at hSw); go_simp; first | done | with_reducible rfl)
        simp only [List.setIfInBounds_toArray, List.set_cons_succ, List.set_cons_zero]
        refine takeAt 23 70 (v := ?v23) rfl rfl (by kernel_rfl) (by kernel_rfl) (by kernel_rfl) (fun _ _ _ h => h) (Or.inl ⟨by rfl, ?hy23⟩) (by assumption) ?rest23
        case hy23 => (intro w hSw; (try dsimp only at hSw); go_simp; first | done | with_reducible rfl)
        simp only [List.setIfInBounds_toArray, List.set_cons_succ, List.set_cons_zero]
        refine takeAt 24 71 (v := ?v24) rfl rfl (by kernel_rfl) (by kernel_rfl) (by kernel_rfl) (fun _ _ _ h => h) (Or.inl ⟨by rfl, ?hy24⟩) (by assumption) ?rest24
        case hy24 => (intro w hSw; (try dsimp only at hSw); go_simp; first | done | with_reducible rfl)
        simp only [List.setIfInBounds_toArray, List.set_cons_succ, List.set_cons_zero]
        refine takeAt 25 72 (v := ?v25) rfl rfl (by kernel_rfl) (by kernel_rfl) (by kernel_rfl) (fun _ _ _ h => h) (Or.inl ⟨by rfl, ?hy25⟩) (by assumption) ?rest25
        case hy25 => (intro w hSw; (try dsimp only at hSw); go_simp; first | done | with_reducible rfl)
        simp only [List.setIfInBounds_toArray, List.set_cons_succ, List.set_cons_zero]
        refine wpAnyH_ready (rs := [19]) (by kernel_rfl) (by simp) ?_
        refine AllReadyH.cons (o := { dst := some 66, op := Op.call { callee := Callee.value (Operand.func 15), args := #[Operand.tmp 65], argTypes := #[26] }, type := 36, pos := "law.go:111", after := #[{ on := 18, ground := Ground.data }, { on := 17, ground := Ground.chain }, { on := 17, ground := Ground.guard }], guard := some (17, false) }) rfl (fun K hK => ?_) AllReadyH.nil
        go_simp
        refine (HLo.out _ HK3.out.d).mono ?_
        rintro e z4 ⟨aN, cN, rfl, -, hb4⟩
        have HK4 := hide (HK3.out.keep hb4)
        have HYL4 := hide (cellB hb4 HYL3.out)
        clear hb4 HLo
        go_wp2_with fail
        refine hK.out _ _ (⟨HYL4.out, HCk.out _ HK4.out.below⟩) (fun hHeld4 => ?_)
        clear hK K
        (try go_frame)
        clear hHeld3
        refine takeAt 20 67 (v := ?v20) rfl rfl (by kernel_rfl) (by kernel_rfl) (by kernel_rfl) (fun _ _ _ h => h) (Or.inl ⟨by rfl, ?hy20⟩) (by assumption) ?rest20
        case hy20 => (intro w hSw; (try dsimp only at hSw); go_simp; first | done | with_reducible rfl)
        simp only [List.setIfInBounds_toArray, List.set_cons_succ, List.set_cons_zero]
        refine takeAt 26 73 (v := ?v26) rfl rfl (by kernel_rfl) (by kernel_rfl) (by kernel_rfl) (fun _ _ _ h => h) (Or.inl ⟨by rfl, ?hy26⟩) (by assumption) ?rest26
        case hy26 => (intro w hSw; (try dsimp only at hSw); go_simp; first | done | with_reducible rfl)
        simp only [List.setIfInBounds_toArray, List.set_cons_succ, List.set_cons_zero]
        refine takeAt 27 74 (v := ?v27) rfl rfl (by kernel_rfl) (by kernel_rfl) (by kernel_rfl) (fun _ _ _ h => h) (Or.inl ⟨by rfl, ?hy27⟩) (by assumption) ?rest27
        case hy27 => (intro w hSw; (try dsimp only at hSw); go_simp; first | done | with_reducible rfl)
        simp only [List.setIfInBounds_toArray, List.set_cons_succ, List.set_cons_zero]
        refine wpAnyH_done (by kernel_rfl) ?_ _
        clear hHeld4
        have HE : Hid (∃ (k' : Nat) (st : St) (F G : Nat → Prop), k' ≤ l.length ∧ Value.int .i64 ((k : Int) + 1) = .int .i64 (k' : Int) ∧ Form 8 (8 * k') st ∧ Duo w pd pr st st F G z4) := ⟨k + 1, st2, F2, G2, hlt, by go_num, HF2.out.more (by omega), HK4.out⟩
        clear HK1 HK2 HK3 HK4 HYL HYL2 HYL3 HYL4 KD HCk HFd HF2
        have hw1 := HW1.out
        go_wp2
        go_roundw
        case rel => exact HE.out
        case measure => simp [intOf]; omega
      · have hkl : k = l.length := by omega
        subst hkl
        have hz : ¬ ((l.length : Int) < (l.length : Int)) := by omega
        have KL := hide (fun u (h : Duo w pd pr st st F' G' u) => does_any w u pd pr o n st (8 * l.length) F' G' lastStp h hFm (by omega) HN.out lastOk (by decide) (Or.inl rfl))
        have HD := hide hF
        clear hF hFm
        unfold Stp.val lastStp at KL
        go_wp2_with fail
        refine (KL.out _ HD.out).mono ?_
        rintro e w8 ⟨rfl, st8, F8, G8, -, hD8⟩
        have HB8 := hide hD8.below
        clear hD8 KL HD
        go_wp2_with fail
        refine (KA.out _).mono ?_
        rintro e w9 ⟨rfl, hb9⟩
        have HB9 := hide (bnext HB8.out hb9)
        clear hb9
        go_wp2
        go_ret
        exact ⟨rfl, HB9.out⟩
end Go.Proofs.YtiebhdgpnloieaaDoor
