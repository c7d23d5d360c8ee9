/- Joined texts. -/
import Derived.Test.YtchhojkhfdkhfaaGreatDoorP40
import Derived.Test.YtchhojkhfdkhfaaGreatDoorP05
import Derived.Laws.AppendOwnNone
import Derived.Test.YtchhojkhfdkhfaaGreatDoorP37
import Derived.Test.YtchhojkhfdkhfaaGreatDoorP27
namespace Go.Proofs.YtchhojkhfdkhfaaGreatDoor
open Go Go.RowKit Frm
theorem mod7_append (a : Nat) (h : a % 7 = 0) : Int.tmod (a : Int) 7 = 0 := by rw [Int.tmod_eq_emod_of_nonneg (by omega)]; omega
set_option maxRecDepth 10000 in
set_option maxHeartbeats 4000000 in
theorem calls_append (w u : World) (B pd pr : Nat) (ck lg : Int) (st : St) (c p q : Nat) (s : Sto) (A C : Nat -> Prop) (x : Stp) (h : Sides w B pd pr ck lg (some s) st (.pointer (some ⟨p,0,none⟩)) A (some s) st (.pointer (some ⟨q,0,none⟩)) C (.pointer (some ⟨p,0,none⟩)) (.pointer (some ⟨q,0,none⟩)) u) (hf : Fit8 ck lg c (some s) st) (hc : c <= 4900) (hx : x.Ok) (hsm : 8 * x.text.size <= 8192) (h7 : x.act % 7 = 0) :
   Calls Tryz.prog 36 #[.pointer (some ⟨B,0,none⟩),x.val] u fun e v => e = .returned (.bool true) /\ All8 w B pd pr ck lg (c + 70) v := by
 have KT := hide (fun u => text_any x u hx (by omega))
 have hm := mod7_append x.act h7
 have hss := says_size x
 have HSz : Hid (x.says.size <= 8192) := by show _ <= _; omega
 have HF := hide hf
 have HC := hide hc
 have hbx := one_below u (.cells #[.int .u8 (x.act : Int),.string x.text,.int .u8 (x.times : Int),.int .i64 x.n,.slice x.pa x.picks.length x.pc] 43)
 have H := hide (h.keep hbx)
 have hrow := heap_alloc_last u (.cells #[.int .u8 (x.act : Int),.string x.text,.int .u8 (x.times : Int),.int .i64 x.n,.slice x.pa x.picks.length x.pc] 43)
 have HR : Hid (∀ v,Below (u.alloc (.cells #[.int .u8 (x.act : Int),.string x.text,.int .u8 (x.times : Int),.int .i64 x.n,.slice x.pa x.picks.length x.pc] 43)).heap.size (u.alloc (.cells #[.int .u8 (x.act : Int),.string x.text,.int .u8 (x.times : Int),.int .i64 x.n,.slice x.pa x.picks.length x.pc] 43)) v -> v.cell? ⟨u.heap.size,0,none⟩ = some (.int .u8 (x.act : Int))) := fun v hb => (cell_of_row _ _ 0 _ _ _ ((hb.block u.heap.size (by simp)).trans hrow)).trans rfl
 obtain ⟨c2,c3⟩ := H.out.c23
 clear h hf hc hx hsm h7 hss hbx hrow
 unfold Stp.val at *
 have HFit := hide (fun (t : ByteArray) => HF.out.append t)
 generalize x.says = t at *
 go_enter Tryz.func36,Tryz.ntmps36
 go_wp2_with fail
 refine (KT.out _).mono ?_
 rintro e u1 ⟨rfl,hb1⟩
 have H1 := hide (H.out.keep hb1)
 have f0 := HR.out _ hb1
 clear hb1 H c2 c3 HR
 go_wp2_with fail
 have K := H1.out.keep ((Below.refl _ _).drew)
 clear H1 f0
 go_region_held3 (fun z => z.cell? ⟨B,2,none⟩ = some (.pointer (some ⟨p,0,none⟩)) /\ z.cell? ⟨B,3,none⟩ = some (.pointer (some ⟨q,0,none⟩)))
   ((with_reducible exact Sides.c23 K))
   (first
     | (go_at_call 22; refine (Sides.pAppend K HF.out HC.out t (Nat.le_trans HSz.out (by decide))).mono ?_; rintro e z1 ⟨rfl,A1,hs1⟩; have K := hs1; clear hs1)
     | (go_at_call 71; refine (Sides.dAppend K HF.out HC.out t (Nat.le_trans HSz.out (by decide))).mono ?_; rintro e z2 ⟨rfl,C1,hs2⟩; have K := hs2; clear hs2))
 all_goals
   have HE : Hid (All8 w B pd pr ck lg (c + 70) z2) := ⟨_,_,_,_,_,_,HFit.out t,K⟩
   clear K
   go_wp2
   go_ret
   exact ⟨rfl,HE.out⟩
theorem mod7_sync (a : Nat) (h : a % 7 = 1) : Int.tmod (a : Int) 7 = 1 := by rw [Int.tmod_eq_emod_of_nonneg (by omega)]; omega
set_option maxRecDepth 10000 in
set_option maxHeartbeats 4000000 in
theorem calls_sync (w u : World) (B pd pr : Nat) (ck lg : Int) (st : St) (c p q : Nat) (s : Sto) (A C : Nat -> Prop) (x : Stp) (h : Sides w B pd pr ck lg (some s) st (.pointer (some ⟨p,0,none⟩)) A (some s) st (.pointer (some ⟨q,0,none⟩)) C (.pointer (some ⟨p,0,none⟩)) (.pointer (some ⟨q,0,none⟩)) u) (hf : Fit8 ck lg c (some s) st) (hc : c <= 4900) (hx : x.Ok) (hsm : 8 * x.text.size <= 8192) (h7 : x.act % 7 = 1) :
   Calls Tryz.prog 36 #[.pointer (some ⟨B,0,none⟩),x.val] u fun e v => e = .returned (.bool true) /\ All8 w B pd pr ck lg (c + 70) v := by
 have KT := hide (fun u => text_any x u hx (by omega))
 have hm := mod7_sync x.act h7
 have hss := says_size x
 have HSz : Hid (x.says.size <= 8192) := by show _ <= _; omega
 have HF := hide hf
 have HC := hide hc
 have hbx := one_below u (.cells #[.int .u8 (x.act : Int),.string x.text,.int .u8 (x.times : Int),.int .i64 x.n,.slice x.pa x.picks.length x.pc] 43)
 have H := hide (h.keep hbx)
 have hrow := heap_alloc_last u (.cells #[.int .u8 (x.act : Int),.string x.text,.int .u8 (x.times : Int),.int .i64 x.n,.slice x.pa x.picks.length x.pc] 43)
 have HR : Hid (∀ v,Below (u.alloc (.cells #[.int .u8 (x.act : Int),.string x.text,.int .u8 (x.times : Int),.int .i64 x.n,.slice x.pa x.picks.length x.pc] 43)).heap.size (u.alloc (.cells #[.int .u8 (x.act : Int),.string x.text,.int .u8 (x.times : Int),.int .i64 x.n,.slice x.pa x.picks.length x.pc] 43)) v -> v.cell? ⟨u.heap.size,0,none⟩ = some (.int .u8 (x.act : Int))) := fun v hb => (cell_of_row _ _ 0 _ _ _ ((hb.block u.heap.size (by simp)).trans hrow)).trans rfl
 obtain ⟨c2,c3⟩ := H.out.c23
 clear h hf hc hx hsm h7 hss hbx hrow
 unfold Stp.val at *
 have HFit := hide (fun (_ : ByteArray) => HF.out.sync)
 generalize x.says = t at *
 go_enter Tryz.func36,Tryz.ntmps36
 go_wp2_with fail
 refine (KT.out _).mono ?_
 rintro e u1 ⟨rfl,hb1⟩
 have H1 := hide (H.out.keep hb1)
 have f0 := HR.out _ hb1
 clear hb1 H c2 c3 HR
 go_wp2_with fail
 have K := H1.out.keep ((Below.refl _ _).drew)
 clear H1 f0
 go_region_held3 (fun z => z.cell? ⟨B,2,none⟩ = some (.pointer (some ⟨p,0,none⟩)) /\ z.cell? ⟨B,3,none⟩ = some (.pointer (some ⟨q,0,none⟩)))
   ((with_reducible exact Sides.c23 K))
   (first
     | (go_at_call 23; refine (Sides.pSync K HF.out HC.out).mono ?_; rintro e z1 ⟨rfl,A1,hs1⟩; have K := hs1; clear hs1)
     | (go_at_call 72; refine (Sides.dSync K HF.out HC.out).mono ?_; rintro e z2 ⟨rfl,C1,hs2⟩; have K := hs2; clear hs2))
 all_goals
   have HE : Hid (All8 w B pd pr ck lg (c + 70) z2) := ⟨_,_,_,_,_,_,HFit.out noText,K⟩
   clear K
   go_wp2
   go_ret
   exact ⟨rfl,HE.out⟩
theorem mod7_trim (a : Nat) (h : a % 7 = 2) : Int.tmod (a : Int) 7 = 2 := by rw [Int.tmod_eq_emod_of_nonneg (by omega)]; omega
set_option maxRecDepth 10000 in
set_option maxHeartbeats 4000000 in
theorem calls_trim (w u : World) (B pd pr : Nat) (ck lg : Int) (st : St) (c p q : Nat) (s : Sto) (A C : Nat -> Prop) (x : Stp) (h : Sides w B pd pr ck lg (some s) st (.pointer (some ⟨p,0,none⟩)) A (some s) st (.pointer (some ⟨q,0,none⟩)) C (.pointer (some ⟨p,0,none⟩)) (.pointer (some ⟨q,0,none⟩)) u) (hf : Fit8 ck lg c (some s) st) (hc : c <= 4900) (hx : x.Ok) (hsm : 8 * x.text.size <= 8192) (h7 : x.act % 7 = 2) :
   Calls Tryz.prog 36 #[.pointer (some ⟨B,0,none⟩),x.val] u fun e v => e = .returned (.bool true) /\ All8 w B pd pr ck lg (c + 70) v := by
 have KT := hide (fun u => text_any x u hx (by omega))
 have hm := mod7_trim x.act h7
 have hss := says_size x
 have HSz : Hid (x.says.size <= 8192) := by show _ <= _; omega
 have HF := hide hf
 have HC := hide hc
 have hbx := one_below u (.cells #[.int .u8 (x.act : Int),.string x.text,.int .u8 (x.times : Int),.int .i64 x.n,.slice x.pa x.picks.length x.pc] 43)
 have H := hide (h.keep hbx)
 have hrow := heap_alloc_last u (.cells #[.int .u8 (x.act : Int),.string x.text,.int .u8 (x.times : Int),.int .i64 x.n,.slice x.pa x.picks.length x.pc] 43)
 have HR : Hid (∀ v,Below (u.alloc (.cells #[.int .u8 (x.act : Int),.string x.text,.int .u8 (x.times : Int),.int .i64 x.n,.slice x.pa x.picks.length x.pc] 43)).heap.size (u.alloc (.cells #[.int .u8 (x.act : Int),.string x.text,.int .u8 (x.times : Int),.int .i64 x.n,.slice x.pa x.picks.length x.pc] 43)) v -> v.cell? ⟨u.heap.size,0,none⟩ = some (.int .u8 (x.act : Int))) := fun v hb => (cell_of_row _ _ 0 _ _ _ ((hb.block u.heap.size (by simp)).trans hrow)).trans rfl
 obtain ⟨c2,c3⟩ := H.out.c23
 clear h hf hc hx hsm h7 hss hbx hrow
 unfold Stp.val at *
 have HFit := hide (fun (t : ByteArray) (ht : t.size <= 8192) => HF.out.trim t ht)
 generalize x.says = t at *
 go_enter Tryz.func36,Tryz.ntmps36
 go_wp2_with fail
 refine (KT.out _).mono ?_
 rintro e u1 ⟨rfl,hb1⟩
 have H1 := hide (H.out.keep hb1)
 have f0 := HR.out _ hb1
 clear hb1 H c2 c3 HR
 go_wp2_with fail
 have K := H1.out.keep ((Below.refl _ _).drew)
 clear H1 f0
 go_region_held3 (fun z => z.cell? ⟨B,2,none⟩ = some (.pointer (some ⟨p,0,none⟩)) /\ z.cell? ⟨B,3,none⟩ = some (.pointer (some ⟨q,0,none⟩)))
   ((with_reducible exact Sides.c23 K))
   (first
     | (go_at_call 24; refine (Sides.pTrim K HF.out HC.out t (Nat.le_trans HSz.out (by decide))).mono ?_; rintro e z1 ⟨rfl,A1,hs1⟩; have K := hs1; clear hs1)
     | (go_at_call 73; refine (Sides.dTrim K HF.out HC.out t (Nat.le_trans HSz.out (by decide))).mono ?_; rintro e z2 ⟨rfl,C1,hs2⟩; have K := hs2; clear hs2))
 all_goals
   have HE : Hid (All8 w B pd pr ck lg (c + 70) z2) := ⟨_,_,_,_,_,_,HFit.out t HSz.out,K⟩
   clear K
   go_wp2
   go_ret
   exact ⟨rfl,HE.out⟩
structure Stpd (w : World) (B pd pr : Nat) (ck lg : Int) (o1 : Option Sto) (st1 : St) (sv : Value) (A : Nat -> Prop) (o2 : Option Sto) (st2 : St) (xv : Value) (C : Nat -> Prop) (bs bx : Value) (Bx : Nat) (x : Stp) (u : World) : Prop where
 s : Sides w B pd pr ck lg o1 st1 sv A o2 st2 xv C bs bx u
 r : u.heap[Bx]? = some (.cells #[.int .u8 (x.act : Int),.string x.text,.int .u8 (x.times : Int),.int .i64 x.n,.slice x.pa x.picks.length x.pc] 43 (0,0))
 nA : ¬ A Bx
 nC : ¬ C Bx
section
variable {w u v : World} {B pd pr : Nat} {ck lg : Int} {c : Nat} {o o1 o2 o' : Option Sto} {st st1 st2 st' : St} {sv xv sv' xv' bs bx : Value} {A A' C C' : Nat -> Prop} {Bx : Nat} {x : Stp}
theorem Stpd.start (h : Sides w B pd pr ck lg o1 st1 sv A o2 st2 xv C bs bx u) : Stpd w B pd pr ck lg o1 st1 sv A o2 st2 xv C bs bx u.heap.size x (u.alloc (.cells #[.int .u8 (x.act : Int),.string x.text,.int .u8 (x.times : Int),.int .i64 x.n,.slice x.pa x.picks.length x.pc] 43)) :=
 ⟨h.keep (one_below _ _),heap_alloc_last u _,fun hk => by have := h.core.aLt _ hk; omega,fun hk => by have := h.core.cLt _ hk; omega⟩
theorem Stpd.lt (h : Stpd w B pd pr ck lg o1 st1 sv A o2 st2 xv C bs bx Bx x u) : Bx < u.heap.size := (Array.getElem?_eq_some_iff.1 h.r).1
theorem Stpd.keep (h : Stpd w B pd pr ck lg o1 st1 sv A o2 st2 xv C bs bx Bx x u) (hb : Below u.heap.size u v) : Stpd w B pd pr ck lg o1 st1 sv A o2 st2 xv C bs bx Bx x v :=
 ⟨h.s.keep hb,(hb.block _ h.lt).trans h.r,h.nA,h.nC⟩
theorem Stpd.stepP (h : Stpd w B pd pr ck lg o1 st1 sv A o2 st2 xv C bs bx Bx x u) (hp : PSide v pd ck lg o' st' sv' A') (hl : Loc A A' u v) : Stpd w B pd pr ck lg o' st' sv' A' o2 st2 xv C bs bx Bx x v :=
 ⟨h.s.stepP hp hl,(hl.block _ h.lt h.nA).trans h.r,fun hk => (hl.own _ hk).elim h.nA (fun h1 => by have := h.lt; omega),h.nC⟩
theorem Stpd.stepD (h : Stpd w B pd pr ck lg o1 st1 sv A o2 st2 xv C bs bx Bx x u) (hd : DSide v pr ck lg o' st' xv' C') (hl : Loc C C' u v) : Stpd w B pd pr ck lg o1 st1 sv A o' st' xv' C' bs bx Bx x v :=
 ⟨h.s.stepD hd hl,(hl.block _ h.lt h.nC).trans h.r,h.nA,fun hk => (hl.own _ hk).elim h.nC (fun h1 => by have := h.lt; omega)⟩
theorem Stpd.cx (h : Stpd w B pd pr ck lg o1 st1 sv A o2 st2 xv C bs bx Bx x u) : u.cell? ⟨Bx,0,none⟩ = some (.int .u8 (x.act : Int)) /\ u.cell? ⟨Bx,1,none⟩ = some (.string x.text) /\ u.cell? ⟨Bx,2,none⟩ = some (.int .u8 (x.times : Int)) /\ u.cell? ⟨Bx,3,none⟩ = some (.int .i64 x.n) /\ u.cell? ⟨Bx,4,none⟩ = some (.slice x.pa x.picks.length x.pc) := by
 have e := h.r
 refine ⟨?_,?_,?_,?_,?_⟩ <;> simp [World.cell?,e]
theorem Stpd.c03 (h : Stpd w B pd pr ck lg o1 st1 sv A o2 st2 xv C bs bx Bx x u) : u.cell? ⟨B,0,none⟩ = some (.pointer (some ⟨pd,0,none⟩)) /\ u.cell? ⟨Bx,3,none⟩ = some (.int .i64 x.n) := ⟨h.s.box.cells.1,h.cx.2.2.2.1⟩
theorem Stpd.c13 (h : Stpd w B pd pr ck lg o1 st1 sv A o2 st2 xv C bs bx Bx x u) : u.cell? ⟨B,1,none⟩ = some (.pointer (some ⟨pr,0,none⟩)) /\ u.cell? ⟨Bx,3,none⟩ = some (.int .i64 x.n) := ⟨h.s.box.cells.2.1,h.cx.2.2.2.1⟩
theorem Stpd.c04 (h : Stpd w B pd pr ck lg o1 st1 sv A o2 st2 xv C bs bx Bx x u) : u.cell? ⟨B,0,none⟩ = some (.pointer (some ⟨pd,0,none⟩)) /\ u.cell? ⟨Bx,4,none⟩ = some (.slice x.pa x.picks.length x.pc) := ⟨h.s.box.cells.1,h.cx.2.2.2.2⟩
theorem Stpd.c14 (h : Stpd w B pd pr ck lg o1 st1 sv A o2 st2 xv C bs bx Bx x u) : u.cell? ⟨B,1,none⟩ = some (.pointer (some ⟨pr,0,none⟩)) /\ u.cell? ⟨Bx,4,none⟩ = some (.slice x.pa x.picks.length x.pc) := ⟨h.s.box.cells.2.1,h.cx.2.2.2.2⟩
theorem Stpd.c013 (h : Stpd w B pd pr ck lg o1 st1 sv A o2 st2 xv C bs bx Bx x u) : u.cell? ⟨B,0,none⟩ = some (.pointer (some ⟨pd,0,none⟩)) /\ u.cell? ⟨B,1,none⟩ = some (.pointer (some ⟨pr,0,none⟩)) /\ u.cell? ⟨Bx,3,none⟩ = some (.int .i64 x.n) := ⟨h.s.box.cells.1,h.s.box.cells.2.1,h.cx.2.2.2.1⟩
theorem Sides.c0145 (h : Sides w B pd pr ck lg o1 st1 sv A o2 st2 xv C bs bx u) : u.cell? ⟨B,0,none⟩ = some (.pointer (some ⟨pd,0,none⟩)) /\ u.cell? ⟨B,1,none⟩ = some (.pointer (some ⟨pr,0,none⟩)) /\ u.cell? ⟨B,4,none⟩ = some (.int .i64 ck) /\ u.cell? ⟨B,5,none⟩ = some (.int .i64 lg) := ⟨h.box.cells.1,h.box.cells.2.1,h.box.cells.2.2.2.2.1,h.box.cells.2.2.2.2.2⟩
def PWent (pd : Nat) (ck lg : Int) (o : Option Sto) (sv : Value) (A : Nat -> Prop) (u : World) (r : Nat × St) (e : Ending) (v : World) : Prop :=
 e = .returned (.int .i64 ((r.1 : Nat) : Int)) /\ ∃ A',PSide v pd ck lg o r.2 sv A' /\ Loc A A' u v
def DWent (pr : Nat) (ck lg : Int) (o : Option Sto) (xv : Value) (C : Nat -> Prop) (u : World) (r : Nat × St) (e : Ending) (v : World) : Prop :=
 e = .returned (.int .i64 ((r.1 : Nat) : Int)) /\ ∃ C',DSide v pr ck lg o r.2 xv C' /\ Loc C C' u v
def DGone (pr : Nat) (ck lg : Int) (o : Option Sto) (xv : Value) (C : Nat -> Prop) (u : World) (st : St) (e : Ending) (v : World) : Prop :=
 (∃ y,e = .returned y) /\ ∃ C',DSide v pr ck lg o st xv C' /\ Loc C C' u v
theorem PSide.fuse (h : PSide u pd ck lg o st sv A) (hf : Form 24 c st) (n : Int) (hn : I64 n) : Calls Tryz.prog 25 #[.pointer (some ⟨pd,0,none⟩),.int .i64 n] u (PWent pd ck lg o sv A u (0,st.fuse n)) := by
 obtain ⟨G,hd,_,hon⟩ := h.disk
 refine (con.fuse pd st G n u hd hf.ok hn).mono ?_
 rintro e v ⟨rfl,F',hd2,hl⟩
 exact ⟨rfl,hon v _ F' hd2 hl⟩
theorem DSide.fuse (h : DSide u pr ck lg o st xv C) (n : Int) (hn : I64 n) : Calls Tryz.prog 32 #[.pointer (some ⟨pr,0,none⟩),.int .i64 n] u (DGone pr ck lg o xv C u (st.fuse n)) := by
 obtain ⟨G,hd,_,hon⟩ := h.disk
 refine (rd_fuse pr st G n u hd hn.2).mono ?_
 rintro e v ⟨he,hd2,hl⟩
 exact ⟨he,hon v _ G hd2 hl⟩
theorem PSide.write (h : PSide u pd ck lg o st sv A) (hf : Form 24 c st) (hc : c <= 5000) (n : Int) (hn : I64 n) (d : ByteArray) (hd : d.size <= 140737488351232) : Calls Tryz.prog 34 #[.pointer (some ⟨pd,0,none⟩),.int .i64 n,.string d] u (PWent pd ck lg o sv A u (st.write n d)) := by
 obtain ⟨G,hd,_,hon⟩ := h.disk
 refine (con.write pd st G n d u hd hf.ok (by have := hf.few; omega) hn (by assumption)).mono ?_
 rintro e v ⟨rfl,F',hd2,hl⟩
 exact ⟨rfl,hon v _ F' hd2 hl⟩
theorem DSide.write (h : DSide u pr ck lg o st xv C) (hf : Form 24 c st) (hc : c <= 5000) (n : Int) (d : ByteArray) : Calls Tryz.prog 35 #[.pointer (some ⟨pr,0,none⟩),.int .i64 n,.string d] u (DWent pr ck lg o xv C u (st.write n d)) := by
 obtain ⟨G,hd,_,hon⟩ := h.disk
 refine (rd_write pr st G n d u hd hf.ok (by have := hf.few; omega)).mono ?_
 rintro e v ⟨rfl,F',hd2,hl⟩
 exact ⟨rfl,hon v _ F' hd2 hl⟩
theorem PSide.make (h : PSide u pd ck lg o st sv A) (hf : Form 24 c st) (hc : c <= 4900) (hk : I64 ck) (hg : I64 lg) : Calls Tryz.prog 19 #[.pointer (some ⟨pd,0,none⟩),confV ck lg] u (PWent pd ck lg o sv A u (stoMake st ck lg)) := by
 obtain ⟨G,hd,_,hon⟩ := h.disk
 refine (con8.make pd st G ck lg u hd hf.ok (by have := hf.few; omega) (by have := hf.len; omega) hk hg).mono ?_
 rintro e v ⟨rfl,F',hd2,hl⟩
 exact ⟨rfl,hon v _ F' hd2 hl⟩
theorem DSide.make (h : DSide u pr ck lg o st xv C) (hf : Form 24 c st) (hc : c <= 4900) : Calls Tryz.prog 33 #[.pointer (some ⟨pr,0,none⟩),confV ck lg] u (DWent pr ck lg o xv C u (stoMake st ck lg)) := by
 obtain ⟨G,hd,_,hon⟩ := h.disk
 refine (rMake pr st G ck lg u hd hf.ok (by have := hf.few; omega)).mono ?_
 rintro e v ⟨rfl,F',hd2,hl⟩
 exact ⟨rfl,hon v _ F' hd2 hl⟩
theorem PSide.crash (h : PSide u pd ck lg o st sv A) (hf : Form 24 c st) (hc : c <= 5000) (a : Option Addr) (cc : Nat) (picks : List Int) (hP : IntsAt u a picks) (hap : ∀ b off,a = some ⟨b,off,none⟩ -> ¬ A b) (hpl : picks.length <= 140737488351232) (hr : ∀ x ∈ picks, -9223372036854775808 <= x /\ x <= 9223372036854775807) :
   Calls Tryz.prog 26 #[.pointer (some ⟨pd,0,none⟩),.slice a picks.length cc] u (PWent pd ck lg o sv A u (0,st.crash picks)) := by
 obtain ⟨G,hd,hG,hon⟩ := h.disk
 refine (con.crash pd st G a cc picks u hd hf.ok (by have := hf.few; omega) hP (fun _ b off e hk => hap b off e (hG b hk)) hpl hr).mono ?_
 rintro e v ⟨rfl,F',hd2,hl⟩
 exact ⟨rfl,hon v _ F' hd2 hl⟩
theorem DSide.crash (h : DSide u pr ck lg o st xv C) (hf : Form 24 c st) (hc : c <= 5000) (a : Option Addr) (cc : Nat) (picks : List Int) (hP : IntsAt u a picks) (hap : picks ≠ [] -> ∀ b off,a = some ⟨b,off,none⟩ -> ¬ C b) (hpl : picks.length <= 140737488351232) :
   Calls Tryz.prog 31 #[.pointer (some ⟨pr,0,none⟩),.slice a picks.length cc] u (DGone pr ck lg o xv C u (st.crash picks)) := by
 obtain ⟨G,hd,hG,hon⟩ := h.disk
 refine (rd_crash pr st G a cc picks u hd hf.ok (by have := hf.few; omega) hP (fun hne b off e hk => hap hne b off e (hG b hk)) hpl).mono ?_
 rintro e v ⟨he,F',hd2,hl⟩
 exact ⟨he,hon v _ F' hd2 hl⟩
end
theorem mod7d4 (a : Nat) (h : a % 7 = 4) : Int.tmod (a : Int) 7 = 4 := by rw [Int.tmod_eq_emod_of_nonneg (by omega)]; omega
set_option maxRecDepth 10000 in
set_option maxHeartbeats 4000000 in
theorem does4 (w u : World) (B pd pr : Nat) (ck lg : Int) (o : Option Sto) (st : St) (c : Nat) (sv xv : Value) (A C : Nat -> Prop) (x : Stp) (h : Sides w B pd pr ck lg o st sv A o st xv C sv xv u) (hf : Fit8 ck lg c o st) (hc : c <= 4800) (hx : x.Ok) (h7 : x.act % 7 = 4) :
   Calls Tryz.prog 13 #[.pointer (some ⟨B,0,none⟩),x.val] u fun e v => e = .returned (.bool true) /\ All8 w B pd pr ck lg (c + 70) v := by
 have hm := mod7d4 x.act h7
 have HF := hide hf
 have HC := hide hc
 have HN : Hid (I64 x.n) := hx.n
 have H := hide (Stpd.start (x := x) h)
 obtain ⟨s0, -, -, -, -⟩ := H.out.cx
 unfold Stp.val
 clear h hf hx h7 hc
 go_enter Tryz.func13,Tryz.ntmps13
 go_wp2_with fail
 generalize u.alloc (.cells #[.int .u8 (x.act : Int),.string x.text,.int .u8 (x.times : Int),.int .i64 x.n,.slice x.pa x.picks.length x.pc] 43) = U at *
 generalize u.heap.size = Bx at *
 have K := H.out.keep ((Below.refl _ _).drew)
 clear s0 H
 go_region_held3 (fun z => z.cell? ⟨B,0,none⟩ = some (.pointer (some ⟨pd,0,none⟩)) /\ z.cell? ⟨Bx,3,none⟩ = some (.int .i64 x.n))
   ((with_reducible exact Stpd.c03 K))
   (first
     | (go_at_call 25; refine (PSide.fuse K.s.p HF.out.form x.n HN.out).mono ?_; rintro e z1 ⟨rfl,A1,hp,hl⟩; have K := Stpd.stepP K hp hl; clear hp hl))
 all_goals
   have HK := hide K
   clear K
   go_wp2_with fail
   have K := HK.out.keep ((Below.refl _ _).drew)
   clear HK
   go_region_held3 (fun z => z.cell? ⟨B,1,none⟩ = some (.pointer (some ⟨pr,0,none⟩)) /\ z.cell? ⟨Bx,3,none⟩ = some (.int .i64 x.n))
     ((with_reducible exact Stpd.c13 K))
     (first
       | (go_at_call 32; refine (DSide.fuse K.s.d x.n HN.out).mono ?_; rintro e z2 ⟨⟨y,rfl⟩,C1,hd,hl⟩; have K := Stpd.stepD K hd hl; clear hd hl))
   all_goals
     have HE : Hid (All8 w B pd pr ck lg (c + 70) z2) := ⟨o,_,_,_,_,_,HF.out.disk ((HF.out.form.fuse x.n HN.out.2).more (by omega)),K.s⟩
     clear K
     go_wp2
     go_ret
     exact ⟨rfl,HE.out⟩
theorem mod7d6 (a : Nat) (h : a % 7 = 6) : Int.tmod (a : Int) 7 = 6 := by rw [Int.tmod_eq_emod_of_nonneg (by omega)]; omega
set_option maxRecDepth 10000 in
set_option maxHeartbeats 4000000 in
theorem does6 (w u : World) (B pd pr : Nat) (ck lg : Int) (o : Option Sto) (st : St) (c : Nat) (sv xv : Value) (A C : Nat -> Prop) (x : Stp) (h : Sides w B pd pr ck lg o st sv A o st xv C sv xv u) (hf : Fit8 ck lg c o st) (hc : c <= 4800) (hx : x.Ok) (h7 : x.act % 7 = 6) :
   Calls Tryz.prog 13 #[.pointer (some ⟨B,0,none⟩),x.val] u fun e v => e = .returned (.bool true) /\ All8 w B pd pr ck lg (c + 70) v := by
 have hm := mod7d6 x.act h7
 have HF := hide hf
 have HC := hide hc
 have HN : Hid (I64 x.n) := hx.n
 have H := hide (Stpd.start (x := x) h)
 obtain ⟨s0, -, -, -, -⟩ := H.out.cx
 unfold Stp.val
 have HZs : Hid (zblock.size <= 140737488351232) := by rw [Hid,zblock_size]; decide
 have hzm := zmake
 have hzt := ztext (u.alloc (.cells #[.int .u8 (x.act : Int),.string x.text,.int .u8 (x.times : Int),.int .i64 x.n,.slice x.pa x.picks.length x.pc] 43))
 rw [show (u.alloc (.cells #[.int .u8 (x.act : Int),.string x.text,.int .u8 (x.times : Int),.int .i64 x.n,.slice x.pa x.picks.length x.pc] 43)).heap.size = u.heap.size + 1 from by simp] at hzt
 clear h hf hx h7 hc
 generalize zcells = Z at *
 generalize zblock = zb at *
 go_enter Tryz.func13,Tryz.ntmps13
 go_wp2_with fail
 generalize u.alloc (.cells #[.int .u8 (x.act : Int),.string x.text,.int .u8 (x.times : Int),.int .i64 x.n,.slice x.pa x.picks.length x.pc] 43) = U at *
 generalize u.heap.size = Bx at *
 have K := H.out.keep ((one_below _ (.cells Z 5)).drew)
 clear s0 H hzm hzt
 generalize U.alloc (.cells Z 5) = U2 at *
 go_region_held3 (fun z => z.cell? ⟨B,0,none⟩ = some (.pointer (some ⟨pd,0,none⟩)) /\ z.cell? ⟨B,1,none⟩ = some (.pointer (some ⟨pr,0,none⟩)) /\ z.cell? ⟨Bx,3,none⟩ = some (.int .i64 x.n))
   ((with_reducible exact Stpd.c013 K))
   (first
     | (go_at_call 34; refine (PSide.write K.s.p HF.out.form (Nat.le_trans HC.out (by decide)) x.n HN.out zb HZs.out).mono ?_; rintro e z1 ⟨rfl,A1,hp,hl⟩; have K := Stpd.stepP K hp hl; clear hp hl)
     | (go_at_call 35; refine (DSide.write K.s.d HF.out.form (Nat.le_trans HC.out (by decide)) x.n zb).mono ?_; rintro e z2 ⟨rfl,C1,hd,hl⟩; have K := Stpd.stepD K hd hl; clear hd hl))
 all_goals
   have HE : Hid (All8 w B pd pr ck lg (c + 70) z2) := ⟨o,_,_,_,_,_,HF.out.disk ((HF.out.form.write x.n zb).more (by omega)),K.s⟩
   clear K
   go_wp2
   go_ret
   exact ⟨rfl,HE.out⟩
theorem All8.c0145 {w u : World} {B pd pr : Nat} {ck lg : Int} {c : Nat} (h : All8 w B pd pr ck lg c u) : u.cell? ⟨B,0,none⟩ = some (.pointer (some ⟨pd,0,none⟩)) /\ u.cell? ⟨B,1,none⟩ = some (.pointer (some ⟨pr,0,none⟩)) /\ u.cell? ⟨B,4,none⟩ = some (.int .i64 ck) /\ u.cell? ⟨B,5,none⟩ = some (.int .i64 lg) := by
 obtain ⟨_,_,_,_,_,_,_,hs⟩ := h
 exact hs.c0145
theorem All8.more {w u : World} {B pd pr : Nat} {ck lg : Int} {c c' : Nat} (h : All8 w B pd pr ck lg c u) (hc : c <= c') : All8 w B pd pr ck lg c' u := by
 obtain ⟨o,st,sv,A,xv,C,hf,hs⟩ := h
 exact ⟨o,st,sv,A,xv,C,hf.more hc,hs⟩
theorem All8.keep {w u v : World} {B pd pr : Nat} {ck lg : Int} {c : Nat} (h : All8 w B pd pr ck lg c u) (hb : Below u.heap.size u v) : All8 w B pd pr ck lg c v := by
 obtain ⟨o,st,sv,A,xv,C,hf,hs⟩ := h
 exact ⟨o,st,sv,A,xv,C,hf,hs.keep hb⟩
theorem mod7d5 (a : Nat) (h : a % 7 = 5) : Int.tmod (a : Int) 7 = 5 := by rw [Int.tmod_eq_emod_of_nonneg (by omega)]; omega
set_option maxRecDepth 10000 in
set_option maxHeartbeats 4000000 in
theorem does5 (w u : World) (B pd pr : Nat) (ck lg : Int) (o : Option Sto) (st : St) (c : Nat) (sv xv : Value) (A C : Nat -> Prop) (x : Stp) (h : Sides w B pd pr ck lg o st sv A o st xv C sv xv u) (hf : Fit8 ck lg c o st) (hc : c <= 4800) (hx : x.Ok) (hk : I64 ck) (hg : I64 lg) (h7 : x.act % 7 = 5) :
   Calls Tryz.prog 13 #[.pointer (some ⟨B,0,none⟩),x.val] u fun e v => e = .returned (.bool true) /\ All8 w B pd pr ck lg (c + 70) v := by
 have hm := mod7d5 x.act h7
 have HF := hide hf
 have HC := hide hc
 have HN : Hid (I64 x.n) := hx.n
 have H := hide (Stpd.start (x := x) h)
 obtain ⟨s0, -, -, -, -⟩ := H.out.cx
 unfold Stp.val
 have HK1 : Hid (I64 ck /\ I64 lg) := ⟨hk,hg⟩
 clear h hf hx h7 hc hk hg
 go_enter Tryz.func13,Tryz.ntmps13
 go_wp2_with fail
 generalize u.alloc (.cells #[.int .u8 (x.act : Int),.string x.text,.int .u8 (x.times : Int),.int .i64 x.n,.slice x.pa x.picks.length x.pc] 43) = U at *
 generalize u.heap.size = Bx at *
 have K := H.out.keep ((Below.refl _ _).drew)
 clear s0 H
 go_region_held3 (fun z => z.cell? ⟨B,0,none⟩ = some (.pointer (some ⟨pd,0,none⟩)) /\ z.cell? ⟨B,1,none⟩ = some (.pointer (some ⟨pr,0,none⟩)) /\ z.cell? ⟨B,4,none⟩ = some (.int .i64 ck) /\ z.cell? ⟨B,5,none⟩ = some (.int .i64 lg))
   ((first | (with_reducible exact Sides.c0145 (Stpd.s K)) | (with_reducible exact All8.c0145 K)))
   (first
     | (go_at_call 19; refine (PSide.make K.s.p HF.out.form (Nat.le_trans HC.out (by decide)) HK1.out.1 HK1.out.2).mono ?_; rintro e z1 ⟨rfl,A1,hp,hl⟩; have K := Stpd.stepP K hp hl; clear hp hl)
     | (go_at_call 33; refine (DSide.make K.s.d HF.out.form (Nat.le_trans HC.out (by decide))).mono ?_; rintro e z2 ⟨rfl,C1,hd,hl⟩; have K := Stpd.stepD K hd hl; clear hd hl)
     | (go_at_call 12; refine (both_open8 w _ B pd pr ck lg _ (c + 30) _ _ _ _ _ _ _ _ K.s (HF.out.form.made8 ck lg) (by have := HC.out; omega) HK1.out.1 HK1.out.2).mono ?_; rintro e z3 ⟨rfl,hA⟩; have K := hA; clear hA))
 all_goals
   have HE : Hid (All8 w B pd pr ck lg (c + 70) z3) := All8.more K (by omega)
   clear K
   go_wp2
   go_ret
   exact ⟨rfl,HE.out⟩
end Go.Proofs.YtchhojkhfdkhfaaGreatDoor
namespace Go.Proofs.YtchhojkhfdkhfaaGreatDoor
open Go Go.RowKit Frm Go.Shelf
theorem step_append_ints {ops : Array Oper} {o : Oper} {a : Act} {K : Act -> World -> Prop} {Q : Exit -> Act -> World -> Prop} {E : Prop} (w : World) (hgd : o.guard = none) (s x : Operand)
   (ho : o.op = .call { callee := .builtin .append,args := #[s,x],argTypes := #[41,41] })
   (base : Nat) (v : Value) (hs : a.eval s = v) (hown : w.ownsRow base 3 1 v 0 [])
   (ao : Option Addr) (c : Nat) (L : List Int) (hx : a.eval x = .slice ao L.length c) (hI : IntsAt w ao L) (hn : ao = none -> c = 0) (hl : L.length <= 10000) (hb : base <= w.heap.size)
   (h : ∀ v' w',w'.ownsRow base 3 1 v' L.length (L.map (Value.int .i64)) -> w.grownBy w' v.ownBlock -> K (a.put o.dst v') w') : if Region.wanted o (yielded ops a.tmps) = true then Oper.wp Tryz.prog o a w K Q else E := by
 have hw : Region.wanted o (yielded ops a.tmps) = true := by simp [Region.wanted,hgd]
 rw [if_pos hw]
 obtain ⟨i0,hi,hz0,hz1,hz2⟩ := info_parts info3
 by_cases h0 : L = []
 · subst h0
   cases ao with
   | none =>
     have hc := hn rfl
     subst hc
     have hrun := run_append_owned_none (P := Tryz.prog) (w := w) base 41 o.type 3 i0 1 Tryz.underlying41 hi v 0 [] hown
     have hx0 : a.eval x = .slice none 0 0 := hx
     unfold Oper.wp
     simp [execOp,ho,resolve,invoke,builtin,hs,hx0,hrun,Result.andThen]
     exact h v w hown (World.grownBy.refl _ _)
   | some ad =>
     refine wp_append_own w s x 41 ho base 3 i0 (.int .i64 0) 1 8 Tryz.underlying41 hi hz0 hz1 hz2 rfl (by decide) v 0 [] hs hown ad 0 c [] hx rfl (fun j v hj => by cases hj) (fun v hv => by cases hv) (by decide) (by decide) hb ?_
     intro v' w' h1 h2 _
     exact h v' w' h1 h2
 · rcases hI with h1 | ⟨b,off,rfl,hc⟩
   · exact absurd h1 h0
   · refine wp_append_own w s x 41 ho base 3 i0 (.int .i64 0) 1 8 Tryz.underlying41 hi hz0 hz1 hz2 rfl (by decide) v 0 [] hs hown ⟨b,off,none⟩ L.length c (L.map (Value.int .i64)) hx (by simp) (news_ints hc) (one_ints _) (by unfold maxLen; omega) (by omega) hb ?_
     intro v' w' h1 h2 _
     rw [Nat.zero_add] at h1
     exact h v' w' h1 h2
theorem ints_old {w : World} {a : Option Addr} {l : List Int} (h : IntsAt w a l) : l ≠ [] -> ∀ b off,a = some ⟨b,off,none⟩ -> b < w.heap.size := fun hne b off e => by
 rcases h with h0 | ⟨b',off',h1,hc⟩
 · exact absurd h0 hne
 · rw [e] at h1
   cases h1
   exact World.block_lt_of_cell? w _ (hc 0 (List.length_pos_iff.2 hne))
theorem ints_below {w v : World} {a : Option Addr} {l : List Int} (h : IntsAt w a l) (hb : Below w.heap.size w v) : IntsAt v a l := by
 rcases h with h0 | ⟨b,off,rfl,hc⟩
 · exact Or.inl h0
 · exact Or.inr ⟨b,off,rfl,fun j hj => (hb.cell (World.block_lt_of_cell? w _ (hc j hj))).trans (hc j hj)⟩
theorem mod7d3 (a : Nat) (h : a % 7 = 3) : Int.tmod (a : Int) 7 = 3 := by rw [Int.tmod_eq_emod_of_nonneg (by omega)]; omega
set_option maxRecDepth 10000 in
set_option maxHeartbeats 4000000 in
theorem does3 (w u : World) (B pd pr : Nat) (ck lg : Int) (o : Option Sto) (st : St) (c : Nat) (sv xv : Value) (A C : Nat -> Prop) (x : Stp) (h : Sides w B pd pr ck lg o st sv A o st xv C sv xv u) (hf : Fit8 ck lg c o st) (hc : c <= 4800) (hx : x.Ok) (hk : I64 ck) (hg : I64 lg) (hP : IntsAt w x.pa x.picks) (hsm : x.picks.length <= 10000) (h7 : x.act % 7 = 3) :
   Calls Tryz.prog 13 #[.pointer (some ⟨B,0,none⟩),x.val] u fun e v => e = .returned (.bool true) /\ All8 w B pd pr ck lg (c + 70) v := by
 have hm := mod7d3 x.act h7
 have HF := hide hf
 have HC := hide hc
 have HN : Hid (I64 x.n) := hx.n
 have H := hide (Stpd.start (x := x) h)
 obtain ⟨s0, -, -, -, -⟩ := H.out.cx
 unfold Stp.val
 have HK1 : Hid (I64 ck /\ I64 lg) := ⟨hk,hg⟩
 have HP : Hid (∀ z,Below w.heap.size w z -> IntsAt z x.pa x.picks) := fun z hb => ints_below hP hb
 have HOld := hide (ints_old hP)
 have HLp := hide hsm
 have HX := hide hx
 clear h hf hx h7 hc hk hg hP hsm
 go_enter Tryz.func13,Tryz.ntmps13
 go_wp2_with fail
 generalize u.alloc (.cells #[.int .u8 (x.act : Int),.string x.text,.int .u8 (x.times : Int),.int .i64 x.n,.slice x.pa x.picks.length x.pc] 43) = U at *
 generalize u.heap.size = Bx at *
 have K := H.out.keep (Below.refl _ _)
 have HAl := hide H.out.s.core.aLt
 clear s0 H
 go_region_held3 (fun z => z.cell? ⟨B,0,none⟩ = some (.pointer (some ⟨pd,0,none⟩)) /\ z.cell? ⟨Bx,4,none⟩ = some (.slice x.pa x.picks.length x.pc))
   ((first | (with_reducible exact Stpd.c04 K) | (with_reducible exact Stpd.c04 (Stpd.keep K (Below.refl _ _).drew)) | (with_reducible exact Stpd.c04 (Stpd.keep K (one_below _ _).drew))))
   (first
     | (refine step_append_ints _ (by rfl) _ _ (by rfl) U.heap.size _ (by rfl) (World.ownsRow.drew (World.ownsRow_lit (base := U.heap.size) (e := 3) (size := 1) U #[] 0 (Nat.le_refl _) (by decide) rfl)) x.pa x.pc x.picks (by rfl) (HP.out _ (K.keep (one_below _ _).drew).s.core.below) HX.out.nil HLp.out (one_below _ _).drew.size ?_; intro v9 u9 hown9 hgrow9; obtain ⟨a9,c9,rfl,hi9,hg9⟩ := ints_of_own hown9; have K := Stpd.keep K (((Below.refl U.heap.size U).alloc (Nat.le_refl _) (.cells #[] 3)).drew.grown hgrow9 (one_below _ _).drew.size (fun j e => by cases e; exact Nat.le_refl _)); clear hown9 hgrow9)
     | (go_at_call 26; refine (PSide.crash K.s.p HF.out.form (Nat.le_trans HC.out (by decide)) a9 c9 x.picks hi9 (fun b off e hk => absurd (hg9 b off e) (Nat.not_le.2 (HAl.out b hk))) (Nat.le_trans HLp.out (by decide)) HX.out.picks).mono ?_; rintro e z1 ⟨rfl,A1,hp,hl⟩; have K := Stpd.stepP K hp hl; clear hp hl hi9 hg9))
 all_goals
   have HK := hide K
   clear K
   go_wp2_with fail
   have K := HK.out.keep ((Below.refl _ _).drew)
   clear HK
   go_region_held3 (fun z => z.cell? ⟨B,1,none⟩ = some (.pointer (some ⟨pr,0,none⟩)) /\ z.cell? ⟨Bx,4,none⟩ = some (.slice x.pa x.picks.length x.pc))
     ((with_reducible exact Stpd.c14 K))
     (first
       | (go_at_call 31; refine (DSide.crash K.s.d HF.out.form (Nat.le_trans HC.out (by decide)) x.pa x.pc x.picks (HP.out _ K.s.core.below) (fun hne b off e hk => absurd (HOld.out hne b off e) (Nat.not_lt.2 (K.s.core.cNew b hk))) (Nat.le_trans HLp.out (by decide))).mono ?_; rintro e z2 ⟨⟨y,rfl⟩,C1,hd,hl⟩; have K := Stpd.stepD K hd hl; clear hd hl))
   all_goals
     have KO := hide (both_open8 w _ B pd pr ck lg _ 0 _ _ _ _ _ _ _ _ K.s (HF.out.form.crash x.picks) (by decide) HK1.out.1 HK1.out.2)
     clear K
     go_wp2_with fail
     refine KO.out.mono ?_
     rintro e z3 ⟨rfl,hA⟩
     have HE : Hid (All8 w B pd pr ck lg (c + 70) z3) := hA.more (by omega)
     clear hA KO
     go_wp2
     go_ret
     exact ⟨rfl,HE.out⟩
end Go.Proofs.YtchhojkhfdkhfaaGreatDoor
namespace Go.Proofs.YtchhojkhfdkhfaaGreatDoor
open Go Go.RowKit Frm
set_option maxRecDepth 10000 in
set_option maxHeartbeats 4000000 in
theorem calls_none (w u : World) (B pd pr : Nat) (ck lg : Int) (st : St) (c : Nat) (A C : Nat -> Prop) (x : Stp) (h : Sides w B pd pr ck lg none st (.pointer none) A none st (.pointer none) C (.pointer none) (.pointer none) u) (hf : Fit8 ck lg c none st) :
   Calls Tryz.prog 36 #[.pointer (some ⟨B,0,none⟩),x.val] u fun e v => e = .returned (.bool true) /\ All8 w B pd pr ck lg (c + 70) v := by
 have hbx := one_below u (.cells #[.int .u8 (x.act : Int),.string x.text,.int .u8 (x.times : Int),.int .i64 x.n,.slice x.pa x.picks.length x.pc] 43)
 have H := h.keep hbx
 obtain ⟨c2,c3⟩ := H.c23
 have HE : Hid (All8 w B pd pr ck lg (c + 70) (u.alloc (.cells #[.int .u8 (x.act : Int),.string x.text,.int .u8 (x.times : Int),.int .i64 x.n,.slice x.pa x.picks.length x.pc] 43))) := ⟨none,_,_,_,_,_,hf.more (by omega),H⟩
 clear h hf hbx H
 unfold Stp.val
 go_enter Tryz.func36,Tryz.ntmps36
 go_wp2
 go_ret
 exact ⟨rfl,HE.out⟩
theorem calls_any (w u : World) (B pd pr : Nat) (ck lg : Int) (o : Option Sto) (st : St) (c : Nat) (sv xv : Value) (A C : Nat -> Prop) (x : Stp) (h : Sides w B pd pr ck lg o st sv A o st xv C sv xv u) (hf : Fit8 ck lg c o st) (hc : c <= 4800) (hx : x.Ok) (hsm : 8 * x.text.size <= 8192) (h7 : x.act % 7 = 0 \/ x.act % 7 = 1 \/ x.act % 7 = 2) :
   Calls Tryz.prog 36 #[.pointer (some ⟨B,0,none⟩),x.val] u fun e v => e = .returned (.bool true) /\ All8 w B pd pr ck lg (c + 70) v := by
 rcases h.p with ⟨rfl,rfl,hp⟩ | ⟨s,p,k,l,rfl,rfl,e3,e4,hp⟩
 · rcases h.d with ⟨_,rfl,hd⟩ | ⟨s,q,k,l,e1,_⟩
   · exact calls_none w u B pd pr ck lg st c A C x h hf
   · cases e1
 · rcases h.d with ⟨e1,_⟩ | ⟨s',q,k',l',e1,rfl,_⟩
   · cases e1
   · rcases h7 with h7 | h7 | h7
     · exact calls_append w u B pd pr ck lg st c p q s A C x h hf (by omega) hx hsm h7
     · exact calls_sync w u B pd pr ck lg st c p q s A C x h hf (by omega) hx hsm h7
     · exact calls_trim w u B pd pr ck lg st c p q s A C x h hf (by omega) hx hsm h7
theorem mod7n (a k : Nat) (h : a % 7 = k) : Int.tmod (a : Int) 7 = (k : Int) := by rw [Int.tmod_eq_emod_of_nonneg (by omega)]; omega
set_option maxRecDepth 10000 in
set_option maxHeartbeats 4000000 in
theorem doesC (w u : World) (B pd pr : Nat) (ck lg : Int) (o : Option Sto) (st : St) (c : Nat) (sv xv : Value) (A C : Nat -> Prop) (x : Stp) (h : Sides w B pd pr ck lg o st sv A o st xv C sv xv u) (hf : Fit8 ck lg c o st) (hc : c <= 4800) (hx : x.Ok) (hsm : 8 * x.text.size <= 8192) (h7 : x.act % 7 = 0 \/ x.act % 7 = 1 \/ x.act % 7 = 2) :
   Calls Tryz.prog 13 #[.pointer (some ⟨B,0,none⟩),x.val] u fun e v => e = .returned (.bool true) /\ All8 w B pd pr ck lg (c + 70) v := by
 have H := Stpd.start (x := x) h
 have KC := hide (calls_any w _ B pd pr ck lg o st c sv xv A C x H.s hf hc hx hsm h7)
 obtain ⟨s0,s1,s2,s3,s4⟩ := H.cx
 have hm : Int.tmod (x.act : Int) 7 = ((0 : Nat) : Int) \/ Int.tmod (x.act : Int) 7 = ((1 : Nat) : Int) \/ Int.tmod (x.act : Int) 7 = ((2 : Nat) : Int) := h7.imp (mod7n _ _) (Or.imp (mod7n _ _) (mod7n _ _))
 unfold Stp.val at *
 clear h hf hc hx hsm h7 H
 rcases hm with hm | hm | hm
 all_goals
   go_enter Tryz.func13,Tryz.ntmps13
   go_wp2_with fail
   refine KC.out.mono ?_
   rintro e v ⟨rfl,hA⟩
   have HE : Hid (All8 w B pd pr ck lg (c + 70) v) := hA.more (by omega)
   clear hA KC
   go_wp2
   go_ret
   exact ⟨rfl,HE.out⟩
theorem does_any (w u : World) (B pd pr : Nat) (ck lg : Int) (c : Nat) (x : Stp) (h : All8 w B pd pr ck lg c u) (hc : c <= 4800) (hx : x.Ok) (hk : I64 ck) (hg : I64 lg) (hsm : x.picks.length + 8 * x.text.size <= 8192) (hP : IntsAt w x.pa x.picks) :
   Calls Tryz.prog 13 #[.pointer (some ⟨B,0,none⟩),x.val] u fun e v => e = .returned (.bool true) /\ All8 w B pd pr ck lg (c + 70) v := by
 obtain ⟨o,st,sv,A,xv,C,hf,hs⟩ := h
 have h7 : x.act % 7 < 7 := Nat.mod_lt _ (by decide)
 by_cases h3 : x.act % 7 = 3
 · exact does3 w u B pd pr ck lg o st c sv xv A C x hs hf hc hx hk hg hP (by omega) h3
 by_cases h4 : x.act % 7 = 4
 · exact does4 w u B pd pr ck lg o st c sv xv A C x hs hf hc hx h4
 by_cases h5 : x.act % 7 = 5
 · exact does5 w u B pd pr ck lg o st c sv xv A C x hs hf hc hx hk hg h5
 by_cases h6 : x.act % 7 = 6
 · exact does6 w u B pd pr ck lg o st c sv xv A C x hs hf hc hx h6
 · exact doesC w u B pd pr ck lg o st c sv xv A C x hs hf hc hx (by omega) (by omega)
theorem rd_looseAt {u : World} {p : Nat} {st : St} {G : Nat -> Prop} (h : RD u p st G) : ∃ a c,u.cell? ⟨p,1,none⟩ = some (.slice a st.loose.length c) := by
 obtain ⟨vS,vL,rfl,hR⟩ := h
 obtain ⟨a,c,e,_⟩ := slice_of hR.loose
 exact ⟨a,c,by rw [hR.cell1,e]⟩
section
variable {w u : World} {B pd pr : Nat} {ck lg : Int} {c : Nat} {o o1 o2 : Option Sto} {st st1 st2 : St} {sv xv bs bx : Value} {A C : Nat -> Prop}
theorem PSide.sure (h : PSide u pd ck lg o st sv A) (hf : Form 24 c st) : Calls Tryz.prog 14 #[.pointer (some ⟨pd,0,none⟩)] u fun e v => e = .returned (.string st.text) /\ Below u.heap.size u v := by
 obtain ⟨G,hd,_,_⟩ := h.disk
 exact con.sure pd st G u hd hf.ok
theorem DSide.sure (h : DSide u pr ck lg o st xv C) (hf : Form 24 c st) : Calls Tryz.prog 15 #[.pointer (some ⟨pr,0,none⟩)] u fun e v => e = .returned (.string st.text) /\ Below u.heap.size u v := by
 obtain ⟨G,hd,_,_⟩ := h.disk
 refine (rd_sure pr st G u hd hf.ok).mono ?_
 rintro e v ⟨rfl,rfl⟩
 exact ⟨rfl,Below.refl _ _⟩
theorem PSide.loose (h : PSide u pd ck lg o st sv A) (hf : Form 24 c st) (hc : c <= 5000) : Calls Tryz.prog 16 #[.pointer (some ⟨pd,0,none⟩)] u fun e v => ∃ a k,e = .returned (.slice a st.loose.length k) /\ Below u.heap.size u v := by
 obtain ⟨G,hd,_,_⟩ := h.disk
 refine (con.loose pd st G u hd hf.ok (by have := hf.few; omega)).mono ?_
 rintro e v ⟨a,k,rfl,_,hb⟩
 exact ⟨a,k,rfl,hb⟩
theorem DSide.looseAt (h : DSide u pr ck lg o st xv C) : ∃ a c,u.cell? ⟨pr,1,none⟩ = some (.slice a st.loose.length c) := by
 obtain ⟨G,hd,_,_⟩ := h.disk
 exact rd_looseAt hd
structure Cmp (W : World) (B Bc p q l : Nat) (lg g : Nat) (str : ByteArray) (u : World) : Prop where
 b : u.cell? ⟨B,2,none⟩ = some (.pointer (some ⟨p,0,none⟩)) /\ u.cell? ⟨B,3,none⟩ = some (.pointer (some ⟨q,0,none⟩))
 x : u.cell? ⟨q,3,none⟩ = some (.int .u64 (g : Int)) /\ u.cell? ⟨q,4,none⟩ = some (.pointer (some ⟨l,0,none⟩))
 l : u.cell? ⟨l,3,none⟩ = some (.string str)
 c : u.cell? ⟨Bc,1,none⟩ = some (.int .i64 (lg : Int))
theorem Cmp.all {W : World} {Bc p q l lg g : Nat} {str : ByteArray} (h : Cmp W B Bc p q l lg g str u) : u.cell? ⟨B,2,none⟩ = some (.pointer (some ⟨p,0,none⟩)) /\ u.cell? ⟨B,3,none⟩ = some (.pointer (some ⟨q,0,none⟩)) /\ u.cell? ⟨q,3,none⟩ = some (.int .u64 (g : Int)) /\ u.cell? ⟨q,4,none⟩ = some (.pointer (some ⟨l,0,none⟩)) /\ u.cell? ⟨l,3,none⟩ = some (.string str) /\ u.cell? ⟨Bc,1,none⟩ = some (.int .i64 (lg : Int)) := ⟨h.b.1,h.b.2,h.x.1,h.x.2,h.l,h.c⟩
theorem Cmp.keep {W v : World} {Bc p q l lg g : Nat} {str : ByteArray} (h : Cmp W B Bc p q l lg g str u) (hb : Below u.heap.size u v) : Cmp W B Bc p q l lg g str v :=
 ⟨⟨cellB8 hb h.b.1,cellB8 hb h.b.2⟩,⟨cellB8 hb h.x.1,cellB8 hb h.x.2⟩,cellB8 hb h.l,cellB8 hb h.c⟩
end
theorem Sides.cmp {w W u : World} {B Bc pd pr k l : Nat} {s : Sto} {st : St} {p q : Nat} {A C : Nat -> Prop} (h : Sides W B pd pr (k : Int) (l : Int) (some s) st (.pointer (some ⟨p,0,none⟩)) A (some s) st (.pointer (some ⟨q,0,none⟩)) C (.pointer (some ⟨p,0,none⟩)) (.pointer (some ⟨q,0,none⟩)) u) (hc : u.cell? ⟨Bc,1,none⟩ = some (.int .i64 (l : Int))) :
   ∃ z,PSt u p pd k l s st A /\ Cmp w B Bc p q z l s.gen s.str u /\ s.str.size <= l * 255 := by
 obtain ⟨k1,l1,e1,e2,hp⟩ := h.p.there
 obtain ⟨k2,l2,e3,e4,hd⟩ := h.d.there
 obtain rfl : k = k1 := by omega
 obtain rfl : l = l1 := by omega
 obtain rfl : k = k2 := by omega
 obtain rfl : l = l2 := by omega
 obtain ⟨z,b,G,h0,_,_⟩ := hd
 have e := h0.log
 unfold RLAt at e
 exact ⟨z,hp,⟨h.c23,⟨h0.cells.1.2.2.2.1,h0.cells.1.2.2.2.2.1⟩,by simp [World.cell?,e],hc⟩,h0.sz⟩
theorem room_iwrap8 {n m : Nat} (hn : n <= 10) (hm : m <= n * 255) : IntKind.i64.wrap ((n : Int) * 255) = (n : Int) * 255 /\ IntKind.i64.wrap ((n : Int) * 255 - (m : Int)) = (n : Int) * 255 - (m : Int) := by rw [IntKind.wrap_i64,IntKind.wrap_i64]; omega
theorem Sides.start {W w2 w3 : World} {pd pr : Nat} {ck lg : Int} {F G : Nat -> Prop} (hd : DAt w2 pd (St.new 24) F) (hF : ∀ k,F k -> W.heap.size <= k) (hb : Below W.heap.size W w2) (hr : RD w3 pr (St.new 24) G) (hG : ∀ k,G k -> w2.heap.size <= k) (hb3 : Below w2.heap.size w2 w3) :
   Sides W w3.heap.size pd pr ck lg none (St.new 24) (.pointer none) F none (St.new 24) (.pointer none) G (.pointer none) (.pointer none) (w3.alloc (.cells #[.pointer (some ⟨pd,0,none⟩),.pointer (some ⟨pr,0,none⟩),.pointer none,.pointer none,.int .i64 ck,.int .i64 lg] 39)) := by
 have hal : Below w3.heap.size w3 (w3.alloc (.cells #[.pointer (some ⟨pd,0,none⟩),.pointer (some ⟨pr,0,none⟩),.pointer none,.pointer none,.int .i64 ck,.int .i64 lg] 39)) := one_below _ _
 have q2 := hb.size
 have q3 := hb3.size
 have hd3 := con.below hd hb3
 have hlt := con.lt hd
 have hsz : (w3.alloc (.cells #[.pointer (some ⟨pd,0,none⟩),.pointer (some ⟨pr,0,none⟩),.pointer none,.pointer none,.int .i64 ck,.int .i64 lg] 39)).heap.size = w3.heap.size + 1 := by simp
 refine ⟨Or.inl ⟨rfl,rfl,con.below hd3 hal⟩,Or.inl ⟨rfl,rfl,hr.below hal⟩,⟨bnext (bnext hb hb3) hal,fun k h1 h2 => ?_,fun hf => ?_,fun hf => ?_,fun k hk => ?_,fun k hk => ?_,fun k hk => ?_,fun k hk => ?_,by omega,by omega⟩,heap_alloc_last w3 _⟩
 · have z1 := hlt k h1; have z2 := hG k h2; omega
 · have z1 := hlt _ hf; omega
 · have z1 := hr.lt _ hf; omega
 · have z1 := hF k hk; omega
 · have z1 := hG k hk; omega
 · have z1 := hlt k hk; omega
 · have z1 := hr.lt k hk; omega
theorem form_new24 : Form 24 0 (St.new 24) := Form.new (by decide) (by decide)
theorem All8.below {w u : World} {B pd pr : Nat} {ck lg : Int} {c : Nat} (h : All8 w B pd pr ck lg c u) : Below w.heap.size w u := by
 obtain ⟨o,st,sv,A,xv,C,hf,hs⟩ := h
 exact hs.core.below
theorem steps_below {w v : World} {a : Option Addr} {l : List Stp} (h : StepsAt w a l) (hb : Below w.heap.size w v) : StepsAt v a l := by
 rcases h with h0 | ⟨b,off,h1,hc⟩
 · exact Or.inl h0
 · exact Or.inr ⟨b,off,h1,fun j hj => (hc j hj).old hb⟩
end Go.Proofs.YtchhojkhfdkhfaaGreatDoor
namespace Go.Proofs.YtchhojkhfdkhfaaGreatDoor
open Go Go.RowKit Frm Go.Shelf
theorem info23 : (Tryz.prog.info? 23).map (·.size) = some 2 := by kernel_rfl
theorem small_any (w : World) : Calls Tryz.prog 28 #[] w fun e v => e = .returned (confV 2 2) /\ Below w.heap.size w v := by
 go_enter Tryz.func28,Tryz.ntmps28
 go_wp2
 exact bodyPost_ret (results_cell_row Tryz.results28 _ _ w.heap.size 23 _ (0,0) _ rfl (heap_alloc_last w _) Tryz.underlying23 rfl info23) rfl ⟨rfl,one_below _ _⟩
structure Bk (w : World) (B : Nat) (u : World) : Prop where
 low : w.heap.size <= B
 box : ∃ v0 v1 v2,u.heap[B]? = some (.cells #[v0,v1,v2] 61 (0,0))
theorem Bk.lt {w : World} {B : Nat} {u : World} (h : Bk w B u) : B < u.heap.size := by
 obtain ⟨_,v0,v1,v2,h⟩ := h
 exact (Array.getElem?_eq_some_iff.1 h).1
theorem Bk.below {w : World} {B : Nat} {u v : World} (h : Bk w B u) (hb : Below u.heap.size u v) : Bk w B v := ⟨h.low,by
 obtain ⟨v0,v1,v2,e⟩ := h.box
 exact ⟨v0,v1,v2,(hb.block B h.lt).trans e⟩⟩
theorem Bk.loc {w : World} {B : Nat} {u v : World} {A A' : Nat -> Prop} (h : Bk w B u) (hn : ¬ A B) (hl : Loc A A' u v) : Bk w B v /\ ¬ A' B := by
 refine ⟨⟨h.low,?_⟩,fun hf => ?_⟩
 · obtain ⟨v0,v1,v2,e⟩ := h.box
   exact ⟨v0,v1,v2,(hl.block B h.lt hn).trans e⟩
 · rcases hl.own B hf with h1 | h1
   · exact hn h1
   · have := h.lt; omega
theorem Bk.cells {w : World} {B : Nat} {u : World} (h : Bk w B u) : ∃ v0 v1 v2,(u.cell? ⟨B,0,none⟩ = some v0 /\ u.cell? ⟨B,1,none⟩ = some v1 /\ u.cell? ⟨B,2,none⟩ = some v2) /\ ∀ i,u.frozen? ⟨B,i,none⟩ = false := by
 obtain ⟨v0,v1,v2,e⟩ := h.box
 refine ⟨v0,v1,v2,⟨?_,?_,?_⟩,fun i => by simp [World.frozen?,e]⟩ <;> simp [World.cell?,e]
theorem Bk.set {w : World} {B : Nat} {u : World} (h : Bk w B u) (x y z : Value) : Bk w B (((u.setCell ⟨B,0,none⟩ x).setCell ⟨B,1,none⟩ y).setCell ⟨B,2,none⟩ z) := ⟨h.low,by
 obtain ⟨v0,v1,v2,e⟩ := h.box
 exact ⟨x,y,z,heap_set3 (i := 2) (heap_set3 (i := 1) (heap_set3 (i := 0) e x) y) z⟩⟩
theorem set3_block (u : World) (B : Nat) (x y z : Value) (k : Nat) (h : k ≠ B) : (((u.setCell ⟨B,0,none⟩ x).setCell ⟨B,1,none⟩ y).setCell ⟨B,2,none⟩ z).heap[k]? = u.heap[k]? := by
 rw [Below.heap_setCell _ ⟨B,2,none⟩ z k h,Below.heap_setCell _ ⟨B,1,none⟩ y k h,Below.heap_setCell _ ⟨B,0,none⟩ x k h]
theorem set3_below {w u : World} (h : Below w.heap.size w u) (B : Nat) (hB : w.heap.size <= B) (x y z : Value) : Below w.heap.size w (((u.setCell ⟨B,0,none⟩ x).setCell ⟨B,1,none⟩ y).setCell ⟨B,2,none⟩ z) :=
 ((h.setCell (p := ⟨B,0,none⟩) hB x).setCell (p := ⟨B,1,none⟩) hB y).setCell (p := ⟨B,2,none⟩) hB z
structure Ak (w : World) (q : Nat) (st : St) (F : Nat -> Prop) (B : Nat) (u : World) : Prop where
 al : Al8 w q st F u
 bx : Bk w B u
 free : ¬ F B
structure Sk (PS : World -> Nat -> Nat -> Nat -> Nat -> Sto -> St -> (Nat -> Prop) -> Prop) (w : World) (p q : Nat) (s : Sto) (st : St) (A : Nat -> Prop) (B : Nat) (u : World) : Prop where
 sl : Sl8 PS w p q 2 2 s st A u
 bx : Bk w B u
 free : ¬ A B
theorem Ak.step {w : World} {q : Nat} {st st' : St} {F F' : Nat -> Prop} {B : Nat} {u v : World} (h : Ak w q st F B u) (hd : DAt v q st' F') (hl : Loc F F' u v) : Ak w q st' F' B v :=
 ⟨h.al.step hd hl,(h.bx.loc h.free hl).1,(h.bx.loc h.free hl).2⟩
theorem Ak.keep {w : World} {q : Nat} {st : St} {F : Nat -> Prop} {B : Nat} {u v : World} (h : Ak w q st F B u) (hb : Below u.heap.size u v) : Ak w q st F B v := ⟨h.al.keep hb,h.bx.below hb,h.free⟩
theorem Ak.opened {PS : World -> Nat -> Nat -> Nat -> Nat -> Sto -> St -> (Nat -> Prop) -> Prop} {w : World} {p q : Nat} {s : Sto} {st st' : St} {F A : Nat -> Prop} {B : Nat} {u v : World} (h : Ak w q st F B u) (hd : PS v p q 2 2 s st' A) (hl : Loc F A u v) : Sk PS w p q s st' A B v :=
 ⟨h.al.opened hd hl,(h.bx.loc h.free hl).1,(h.bx.loc h.free hl).2⟩
theorem Sk.step {PS : World -> Nat -> Nat -> Nat -> Nat -> Sto -> St -> (Nat -> Prop) -> Prop} {w : World} {p q : Nat} {s s' : Sto} {st st' : St} {A A' : Nat -> Prop} {B : Nat} {u v : World} (h : Sk PS w p q s st A B u) (hd : PS v p q 2 2 s' st' A') (hl : Loc A A' u v) : Sk PS w p q s' st' A' B v :=
 ⟨h.sl.step hd hl,(h.bx.loc h.free hl).1,(h.bx.loc h.free hl).2⟩
theorem Sk.disk {PS : World -> Nat -> Nat -> Nat -> Nat -> Sto -> St -> (Nat -> Prop) -> Prop} (C : SCon PS) {w : World} {p q : Nat} {s : Sto} {st : St} {A : Nat -> Prop} {B : Nat} {u : World} (h : Sk PS w p q s st A B u) : ∃ G,Ak w q st G B u := by
 obtain ⟨G,h1,h2,_⟩ := C.disk h.sl.sto
 exact ⟨G,⟨h1,h.sl.below,fun k hk => h.sl.new k (h2 k hk)⟩,h.bx,fun hf => h.free (h2 _ hf)⟩
theorem Sk.start {PS : World -> Nat -> Nat -> Nat -> Nat -> Sto -> St -> (Nat -> Prop) -> Prop} (C : SCon PS) {w : World} {p q : Nat} {s : Sto} {st : St} {A : Nat -> Prop} {u : World} (h : Sl8 PS w p q 2 2 s st A u) (x y z : Value) : Sk PS w p q s st A u.heap.size (u.alloc (.cells #[x,y,z] 61)) :=
 ⟨⟨C.below h.sto (one_below _ _),bnext h.below (one_below _ _),h.new⟩,⟨h.below.size,x,y,z,heap_alloc_last u _⟩,fun hf => Nat.lt_irrefl _ (C.lt h.sto _ hf)⟩
theorem Sk.set {PS : World -> Nat -> Nat -> Nat -> Nat -> Sto -> St -> (Nat -> Prop) -> Prop} (C : SCon PS) {w : World} {p q : Nat} {s : Sto} {st : St} {A : Nat -> Prop} {B : Nat} {u : World} (h : Sk PS w p q s st A B u) (x y z : Value) : Sk PS w p q s st A B (((u.setCell ⟨B,0,none⟩ x).setCell ⟨B,1,none⟩ y).setCell ⟨B,2,none⟩ z) :=
 ⟨⟨C.same h.sl.sto (fun k hk => set3_block u B x y z k (fun e => h.free (e ▸ hk))),set3_below h.sl.below B h.bx.low x y z,h.sl.new⟩,h.bx.set x y z,h.free⟩
set_option maxRecDepth 10000 in
set_option maxHeartbeats 4000000 in
theorem alive8_any {PS : World -> Nat -> Nat -> Nat -> Nat -> Sto -> St -> (Nat -> Prop) -> Prop} (C : SCon PS) (w : World) : Calls Tryz.prog 9 #[] w fun e w' => e = .returned (.bool true) /\ Below w.heap.size w w' := by
 obtain ⟨st1,st2,st3,st4,st5,st6,st7,st8,st9,st10,H⟩ := chain
 have K1 := hide (con.new 8 w (by decide) (by decide))
 have KS : Hid (∀ q st F u,Al8 w q st F u -> Calls Tryz.prog 28 #[] u fun e v => e = .returned (confV 2 2) /\ Al8 w q st F v) := fun q st F u h => by
   refine (small_any u).mono ?_
   rintro e v ⟨rfl,hb⟩
   exact ⟨rfl,h.keep hb⟩
 have KS2 : Hid (∀ q st F B u,Ak w q st F B u -> Calls Tryz.prog 28 #[] u fun e v => e = .returned (confV 2 2) /\ Ak w q st F B v) := fun q st F B u h => by
   refine (small_any u).mono ?_
   rintro e v ⟨rfl,hb⟩
   exact ⟨rfl,h.keep hb⟩
 have KB : Hid (∀ q st F u,Al8 w q st F u -> Calls Tryz.prog 6 #[confV 2 2] u fun e v => e = .returned (.int .i64 8) /\ Al8 w q st F v) := fun q st F u h => by
   refine (C.blocks 2 2 u (by decide) (by decide)).mono ?_
   rintro e v ⟨rfl,hb⟩
   exact ⟨rfl,h.keep hb⟩
 have KM1 : Hid (∀ q F u,Al8 w q (St.new 8) F u -> Calls Tryz.prog 19 #[.pointer (some ⟨q,0,none⟩),confV 2 2] u fun e v => e = .returned (.int .i64 0) /\ ∃ F',Al8 w q st1 F' v) := fun q F u h => by
   have := C.make q (St.new 8) F 2 2 u h.disk (St.Ok.new (by decide) (by decide)) (by decide) (by decide) (by decide) (by decide)
   rw [show stoMake (St.new 8) 2 2 = (0,st1) from H.m1] at this
   refine this.mono ?_
   rintro e v ⟨rfl,F',hd,hl⟩
   exact ⟨rfl,F',h.step hd hl⟩
 have KM2 : Hid (∀ q F u,Al8 w q st1 F u -> Calls Tryz.prog 19 #[.pointer (some ⟨q,0,none⟩),confV 2 2] u fun e v => e = .returned (.int .i64 7) /\ ∃ F',Al8 w q st1 F' v) := fun q F u h => by
   have := C.make q st1 F 2 2 u h.disk H.g1.ok (by have := H.g1.few; omega) (by rw [H.g1.long]; decide) (by decide) (by decide)
   rw [show stoMake st1 2 2 = (7,st1) from H.m2] at this
   refine this.mono ?_
   rintro e v ⟨rfl,F',hd,hl⟩
   exact ⟨rfl,F',h.step hd hl⟩
 have KO : ∀ (st st' : St) (g : Nat) (x : ByteArray) (rs : List ByteArray),G8 st -> stoOpen st 2 2 = ((0,g,x,cat rs,rs),st') ->
     Hid (∀ q F u,Al8 w q st F u -> Calls Tryz.prog 20 #[.pointer (some ⟨q,0,none⟩),confV 2 2] u fun e v => ∃ pp a c A,e = .returned (.tuple #[.pointer (some ⟨pp,0,none⟩),.agg #[.int .u64 (g : Int),.string x,.slice a rs.length c],.int .i64 0]) /\ Sl8 PS w pp q 2 2 ⟨g,cat rs,false⟩ st' A v /\ StrsAt v a rs) := fun st st' g x rs hg eo q F u h => by
   have := C.opens q st F 2 2 u h.disk hg.ok (by have := hg.few; omega) (by have := hg.long; omega) (by decide) (by decide)
   rw [eo] at this
   refine this.mono ?_
   rintro e v (⟨_,pp,a,c,A,rfl,hd,hl,hs,_⟩ | ⟨h0,_⟩)
   · exact ⟨pp,a,c,A,rfl,h.opened hd hl,hs⟩
   · exact absurd rfl h0
 have KOk : ∀ (st st' : St) (g : Nat) (x : ByteArray) (rs : List ByteArray),G8 st -> stoOpen st 2 2 = ((0,g,x,cat rs,rs),st') ->
     Hid (∀ q F B u,Ak w q st F B u -> Calls Tryz.prog 20 #[.pointer (some ⟨q,0,none⟩),confV 2 2] u fun e v => ∃ pp a c A,e = .returned (.tuple #[.pointer (some ⟨pp,0,none⟩),.agg #[.int .u64 (g : Int),.string x,.slice a rs.length c],.int .i64 0]) /\ Sk PS w pp q ⟨g,cat rs,false⟩ st' A B v /\ StrsAt v a rs /\ ∀ b off,a = some ⟨b,off,none⟩ -> B < b) := fun st st' g x rs hg eo q F B u h => by
   have := C.opens q st F 2 2 u h.al.disk hg.ok (by have := hg.few; omega) (by have := hg.long; omega) (by decide) (by decide)
   rw [eo] at this
   refine this.mono ?_
   rintro e v (⟨_,pp,a,c,A,rfl,hd,hl,hs,hn⟩ | ⟨h0,_⟩)
   · exact ⟨pp,a,c,A,rfl,h.opened hd hl,hs,fun b off e => Nat.lt_of_lt_of_le h.bx.lt (hn b off e)⟩
   · exact absurd rfl h0
 have KO1 : Hid (∀ q F u,Al8 w q st1 F u -> Calls Tryz.prog 20 #[.pointer (some ⟨q,0,none⟩),confV 2 2] u fun e v => ∃ pp a c A,e = .returned (.tuple #[.pointer (some ⟨pp,0,none⟩),.agg #[.int .u64 1,.string ⟨#[]⟩,.slice a 0 c],.int .i64 0]) /\ Sl8 PS w pp q 2 2 ⟨1,cat [],false⟩ st2 A v /\ StrsAt v a []) := KO st1 st2 1 noText [] H.g1 H.o1
 have KO2 : Hid (∀ q F B u,Ak w q (st5.crash []) F B u -> Calls Tryz.prog 20 #[.pointer (some ⟨q,0,none⟩),confV 2 2] u fun e v => ∃ pp a c A,e = .returned (.tuple #[.pointer (some ⟨pp,0,none⟩),.agg #[.int .u64 1,.string ⟨#[]⟩,.slice a 1 c],.int .i64 0]) /\ Sk PS w pp q ⟨1,cat [aT],false⟩ st6 A B v /\ StrsAt v a [aT] /\ ∀ b off,a = some ⟨b,off,none⟩ -> B < b) := KOk (st5.crash []) st6 1 noText [aT] H.c5 H.o2
 have KO3 : Hid (∀ q F B u,Ak w q (st9.crash []) F B u -> Calls Tryz.prog 20 #[.pointer (some ⟨q,0,none⟩),confV 2 2] u fun e v => ∃ pp a c A,e = .returned (.tuple #[.pointer (some ⟨pp,0,none⟩),.agg #[.int .u64 2,.string ⟨#[120,121]⟩,.slice a 1 c],.int .i64 0]) /\ Sk PS w pp q ⟨2,cat [cT8],false⟩ st10 A B v /\ StrsAt v a [cT8] /\ ∀ b off,a = some ⟨b,off,none⟩ -> B < b) := KOk (st9.crash []) st10 2 xyT [cT8] H.c9 H.o3
 have KA : ∀ (st st' : St) (s s' : Sto) (t : ByteArray),G8 st -> t.size <= 65536 -> stoAppend st 2 2 s t = (0,s',st') ->
     Hid (∀ pp q A B u,Sk PS w pp q s st A B u -> Calls Tryz.prog 22 #[.pointer (some ⟨pp,0,none⟩),.string t] u fun e v => e = .returned (.int .i64 0) /\ ∃ A',Sk PS w pp q s' st' A' B v) := fun st st' s s' t hh ht ea pp q A B u h => by
   have := C.append pp q 2 2 s t st A u h.sl.sto hh.ok (by have := hh.few; omega) (by rw [hh.long]; exact conf82) (by decide) ht
   rw [ea] at this
   refine this.mono ?_
   rintro e v ⟨rfl,A',hd,hl⟩
   exact ⟨rfl,A',h.step hd hl⟩
 have KY : ∀ (st st' : St) (s s' : Sto),G8 st -> stoSync st s = (0,s',st') ->
     Hid (∀ pp q A B u,Sk PS w pp q s st A B u -> Calls Tryz.prog 23 #[.pointer (some ⟨pp,0,none⟩)] u fun e v => e = .returned (.int .i64 0) /\ ∃ A',Sk PS w pp q s' st' A' B v) := fun st st' s s' hh ea pp q A B u h => by
   have := C.sync pp q 2 2 s st A u h.sl.sto hh.ok (by have := hh.few; omega)
   rw [ea] at this
   refine this.mono ?_
   rintro e v ⟨rfl,A',hd,hl⟩
   exact ⟨rfl,A',h.step hd hl⟩
 have KT : ∀ (st st' : St) (s s' : Sto) (t : ByteArray),G8 st -> t.size <= 65536 -> s.gen < 18446744073709551616 -> stoTrim st 2 2 s t = (0,s',st') ->
     Hid (∀ pp q A B u,Sk PS w pp q s st A B u -> Calls Tryz.prog 24 #[.pointer (some ⟨pp,0,none⟩),.string t] u fun e v => e = .returned (.int .i64 0) /\ ∃ A',Sk PS w pp q s' st' A' B v) := fun st st' s s' t hh ht hg ea pp q A B u h => by
   have := C.trim pp q 2 2 s t st A u h.sl.sto hh.ok (by have := hh.few; omega) (by rw [hh.long]; exact conf82) (by decide) ht hg
   rw [ea] at this
   refine this.mono ?_
   rintro e v ⟨rfl,A',hd,hl⟩
   exact ⟨rfl,A',h.step hd hl⟩
 have KC : ∀ (st : St),G8 st ->
     Hid (∀ q F B u,Ak w q st F B u -> Calls Tryz.prog 26 #[.pointer (some ⟨q,0,none⟩),.slice none 0 0] u fun e v => e = .returned (.int .i64 0) /\ ∃ F',Ak w q (st.crash []) F' B v) := fun st hh q F B u h => by
   refine (con.crash q st F none 0 [] u h.al.disk hh.ok (by have := hh.few; omega) (Or.inl rfl) (fun h => absurd rfl h) (by decide) (by simp)).mono ?_
   rintro e v ⟨rfl,F',hd,hl⟩
   exact ⟨rfl,F',h.step hd hl⟩
 have KA1 : Hid (∀ pp q A B u,Sk PS w pp q ⟨1,cat [],false⟩ st2 A B u -> Calls Tryz.prog 22 #[.pointer (some ⟨pp,0,none⟩),.string ⟨#[97]⟩] u fun e v => e = .returned (.int .i64 0) /\ ∃ A',Sk PS w pp q ⟨1,cat [aT],false⟩ st3 A' B v) := KA st2 st3 _ _ aT H.g2 (by decide) H.a1
 have KY1 : Hid (∀ pp q A B u,Sk PS w pp q ⟨1,cat [aT],false⟩ st3 A B u -> Calls Tryz.prog 23 #[.pointer (some ⟨pp,0,none⟩)] u fun e v => e = .returned (.int .i64 0) /\ ∃ A',Sk PS w pp q ⟨1,cat [aT],false⟩ st4 A' B v) := KY st3 st4 _ _ H.g3 H.y1
 have KA2 : Hid (∀ pp q A B u,Sk PS w pp q ⟨1,cat [aT],false⟩ st4 A B u -> Calls Tryz.prog 22 #[.pointer (some ⟨pp,0,none⟩),.string ⟨#[98]⟩] u fun e v => e = .returned (.int .i64 0) /\ ∃ A',Sk PS w pp q ⟨1,cat [aT,bT8],false⟩ st5 A' B v) := KA st4 st5 _ _ bT8 H.g4 (by decide) H.a2
 have KC1 := KC st5 H.g5
 have KT1 : Hid (∀ pp q A B u,Sk PS w pp q ⟨1,cat [aT],false⟩ st6 A B u -> Calls Tryz.prog 24 #[.pointer (some ⟨pp,0,none⟩),.string ⟨#[120,121]⟩] u fun e v => e = .returned (.int .i64 0) /\ ∃ A',Sk PS w pp q ⟨2,cat [],false⟩ st7 A' B v) := KT st6 st7 _ _ xyT H.g6 (by decide) (by decide) H.t1
 have KA3 : Hid (∀ pp q A B u,Sk PS w pp q ⟨2,cat [],false⟩ st7 A B u -> Calls Tryz.prog 22 #[.pointer (some ⟨pp,0,none⟩),.string ⟨#[99]⟩] u fun e v => e = .returned (.int .i64 0) /\ ∃ A',Sk PS w pp q ⟨2,cat [cT8],false⟩ st8 A' B v) := KA st7 st8 _ _ cT8 H.g7 (by decide) H.a3
 have KY2 : Hid (∀ pp q A B u,Sk PS w pp q ⟨2,cat [cT8],false⟩ st8 A B u -> Calls Tryz.prog 23 #[.pointer (some ⟨pp,0,none⟩)] u fun e v => e = .returned (.int .i64 0) /\ ∃ A',Sk PS w pp q ⟨2,cat [cT8],false⟩ st9 A' B v) := KY st8 st9 _ _ H.g8 H.y2
 have KC2 := KC st9 H.g9
 clear KO KOk KA KY KT KC H
 go_enter Tryz.func9,Tryz.ntmps9
 go_wp2_with fail
 refine K1.out.mono ?_
 rintro e w1 ⟨q,F1,rfl,hd1,hF1,hb1⟩
 have A1 := hide (Al8.mk (st := St.new 8) hd1 hb1 hF1)
 clear hd1 hF1 hb1
 go_wp2_with fail
 refine (KS.out _ _ _ _ A1.out).mono ?_
 rintro e w2 ⟨rfl,hA2⟩
 have A2 := hide hA2
 clear hA2
 go_wp2_with fail
 refine (KB.out _ _ _ _ A2.out).mono ?_
 rintro e w3 ⟨rfl,hA3⟩
 have A3 := hide hA3
 clear hA3
 go_wp2_with fail
 refine (KS.out _ _ _ _ A3.out).mono ?_
 rintro e w4 ⟨rfl,hA4⟩
 have A4 := hide hA4
 clear hA4
 go_wp2_with fail
 refine (KM1.out _ _ _ A4.out).mono ?_
 rintro e w5 ⟨rfl,F5,hA5⟩
 have A5 := hide hA5
 clear hA5
 go_wp2_with fail
 refine (KS.out _ _ _ _ A5.out).mono ?_
 rintro e w6 ⟨rfl,hA6⟩
 have A6 := hide hA6
 clear hA6
 go_wp2_with fail
 refine (KM2.out _ _ _ A6.out).mono ?_
 rintro e w7 ⟨rfl,F7,hA7⟩
 have A7 := hide hA7
 clear hA7
 go_wp2_with fail
 refine (KS.out _ _ _ _ A7.out).mono ?_
 rintro e w8 ⟨rfl,hA8⟩
 have A8 := hide hA8
 clear hA8
 go_wp2_with fail
 refine (KO1.out _ _ _ A8.out).mono ?_
 rintro e w9 ⟨p1,a1,c1,G9,rfl,hA9, -⟩
 have A9 := hide (Sk.start C hA9 (.int .u64 1) (.string ⟨#[]⟩) (.slice a1 0 c1))
 clear hA9
 go_wp2_with fail
 refine (KA1.out _ _ _ _ _ A9.out).mono ?_
 rintro e w10 ⟨rfl,G10,hA10⟩
 have A10 := hide hA10
 clear hA10
 go_wp2_with fail
 refine (KY1.out _ _ _ _ _ A10.out).mono ?_
 rintro e w11 ⟨rfl,G11,hA11⟩
 have A11 := hide hA11
 clear hA11
 go_wp2_with fail
 refine (KA2.out _ _ _ _ _ A11.out).mono ?_
 rintro e w12 ⟨rfl,G12,hA12⟩
 have A12 := hide hA12
 clear hA12
 go_wp2_with fail
 obtain ⟨F13,hD13⟩ := A12.out.disk C
 refine (KC1.out _ _ _ _ hD13).mono ?_
 clear hD13
 rintro e w13 ⟨rfl,G13,hA13⟩
 have A13 := hide hA13
 clear hA13
 go_wp2_with fail
 refine (KS2.out _ _ _ _ _ A13.out).mono ?_
 rintro e w14 ⟨rfl,hA14⟩
 have A14 := hide hA14
 clear hA14
 go_wp2_with fail
 refine (KO2.out _ _ _ _ A14.out).mono ?_
 rintro e w15 ⟨p15,a15,c15,G15,rfl,hA15,hs15,hn15⟩
 have A15 := hide (fun x y z => hA15.set C x y z)
 obtain ⟨u15,u151,u152,⟨k150,k151,k152⟩,f15⟩ := hA15.bx.cells
 have f150 := f15 0
 have f151 := f15 1
 have f152 := f15 2
 clear hA15 f15
 rcases hs15 with h0 | ⟨b15,o15,rfl,hc15⟩
 · exact absurd h0 (by simp)
 have x15 : w15.cell? ⟨b15,o15,none⟩ = some (.string ⟨#[97]⟩) := hc15 0 (by decide)
 have n15 : ¬ w9.heap.size = b15 := by have := hn15 _ _ rfl; omega
 have m15 : ¬ b15 = w9.heap.size := by have := hn15 _ _ rfl; omega
 clear hc15 hn15
 go_wp2_with fail
 refine (KT1.out _ _ _ _ _ (A15.out _ _ _)).mono ?_
 rintro e w16 ⟨rfl,G16,hA16⟩
 have A16 := hide hA16
 clear hA16
 go_wp2_with fail
 refine (KA3.out _ _ _ _ _ A16.out).mono ?_
 rintro e w17 ⟨rfl,G17,hA17⟩
 have A17 := hide hA17
 clear hA17
 go_wp2_with fail
 refine (KY2.out _ _ _ _ _ A17.out).mono ?_
 rintro e w18 ⟨rfl,G18,hA18⟩
 have A18 := hide hA18
 clear hA18
 go_wp2_with fail
 obtain ⟨F19,hD19⟩ := A18.out.disk C
 refine (KC2.out _ _ _ _ hD19).mono ?_
 clear hD19
 rintro e w19 ⟨rfl,G19,hA19⟩
 have A19 := hide hA19
 clear hA19
 go_wp2_with fail
 refine (KS2.out _ _ _ _ _ A19.out).mono ?_
 rintro e w20 ⟨rfl,hA20⟩
 have A20 := hide hA20
 clear hA20
 go_wp2_with fail
 refine (KO3.out _ _ _ _ A20.out).mono ?_
 rintro e w21 ⟨p21,a21,c21,G21,rfl,hA21,hs21,hn21⟩
 have A21 := hide (fun x y z => hA21.set C x y z)
 obtain ⟨u21,u211,u212,⟨k210,k211,k212⟩,f21⟩ := hA21.bx.cells
 have f210 := f21 0
 have f211 := f21 1
 have f212 := f21 2
 clear hA21 f21
 rcases hs21 with h0 | ⟨b21,o21,rfl,hc21⟩
 · exact absurd h0 (by simp)
 have x21 : w21.cell? ⟨b21,o21,none⟩ = some (.string ⟨#[99]⟩) := hc21 0 (by decide)
 have n21 : ¬ w9.heap.size = b21 := by have := hn21 _ _ rfl; omega
 have m21 : ¬ b21 = w9.heap.size := by have := hn21 _ _ rfl; omega
 clear hc21 hn21
 go_wp2
 go_ret
 exact ⟨rfl,(A21.out _ _ _).sl.below⟩
end Go.Proofs.YtchhojkhfdkhfaaGreatDoor
namespace Go.Proofs.YtchhojkhfdkhfaaGreatDoor
open Go Go.RowKit Frm
theorem alive_any8 (w : World) : Calls Tryz.prog 9 #[] w fun e w' => e = .returned (.bool true) /\ Below w.heap.size w w' := alive8_any con8 w
end Go.Proofs.YtchhojkhfdkhfaaGreatDoor
