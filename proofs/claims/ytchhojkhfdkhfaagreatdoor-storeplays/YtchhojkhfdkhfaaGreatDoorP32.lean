/- Joined texts. -/
import Derived.Test.YtchhojkhfdkhfaaGreatDoorP30
import Derived.Test.YtchhojkhfdkhfaaGreatDoorP18
namespace Go.Proofs.YtchhojkhfdkhfaaGreatDoor
open Go Go.RowKit Frm
set_option maxHeartbeats 400000 in
theorem slotOf_core (q : Nat) (o n h : Int) (g m : Nat) (w : World) (hw2 : wrap64 h = h) (hw3 : wrap64 ((m : Int) * h) = (m : Int) * h) (hw4 : wrap64 (o + (m : Int) * h) = o + (m : Int) * h) (hq : Int.tdiv n 2 = h) (hm : (g : Int) % 2 = (m : Int)) :
   Calls Tryz.prog 82 #[.agg #[.pointer (some ⟨q,0,none⟩),.int .i64 o,.int .i64 n],.int .u64 (g : Int)] w fun e w' => e = .returned (.agg #[.pointer (some ⟨q,0,none⟩),.int .i64 (o + (m : Int) * h),.int .i64 h,.int .u64 (m : Int)]) /\ Below w.heap.size w w' := by
 go_enter Tryz.func82,Tryz.ntmps82
 go_wp2_with fail
 go_quiet (fail)
 go_wp2
 exact bodyPost_ret (v := .agg #[.pointer (some ⟨q,0,none⟩),.int .i64 (o + (m : Int) * h),.int .i64 h,.int .u64 (m : Int)]) (by simp [results,Tryz.results82,go_sem]) rfl ⟨rfl,(((((below_drewN (two_below w _ _) _).setCell (Nat.le_succ _) _).setCell (Nat.le_succ _) _).setCell (Nat.le_succ _) _).setCell (Nat.le_succ _) _)⟩
def slotV (q a k g : Nat) : Value := .agg #[.pointer (some ⟨q,0,none⟩),.int .i64 (a : Int),.int .i64 (k : Int),.int .u64 ((g % 2 : Nat) : Int)]
theorem slotOf_any (q : Nat) (o n : Int) (g : Nat) (w : World) (ho : 0 <= o /\ o <= 4096) (hn : 0 <= n /\ n <= 4096) :
   Calls Tryz.prog 82 #[.agg #[.pointer (some ⟨q,0,none⟩),.int .i64 o,.int .i64 n],.int .u64 (g : Int)] w fun e w' => e = .returned (slotV q (slotAt o n g) (n.toNat / 2) g) /\ Below w.heap.size w w' := by
 have hg2 : g % 2 < 2 := Nat.mod_lt _ (by decide)
 have e1 : (((n.toNat / 2 : Nat) : Nat) : Int) = n / 2 := by omega
 have e2 : ((slotAt o n g : Nat) : Int) = o + ((g % 2 : Nat) : Int) * (n / 2) := by
   unfold slotAt
   rcases (by omega : g % 2 = 0 \/ g % 2 = 1) with h | h
   · rw [h]; omega
   · rw [h]; omega
 have hmul : ((g % 2 : Nat) : Int) * (n / 2) <= 4096 /\ 0 <= ((g % 2 : Nat) : Int) * (n / 2) := by
   rcases (by omega : g % 2 = 0 \/ g % 2 = 1) with h | h
   · rw [h]; omega
   · rw [h]; omega
 unfold slotV
 rw [e1,e2]
 exact slotOf_core q o n (n / 2) g (g % 2) w (by unfold wrap64; omega) (by unfold wrap64; omega) (by unfold wrap64; omega) (tdiv2 (by omega)) (by omega)
set_option maxHeartbeats 400000 in
theorem fault_core (q : Value) (S o n r : Int) (w : World) (c : Nat)
   (hS : ∀ u,Below w.heap.size w u -> Calls Tryz.prog 58 #[q] u fun e v => e = .returned (.int .i64 S) /\ Below u.heap.size u v)
   (hR : ∀ u,Calls Tryz.prog 87 #[.int .i64 n] u fun e v => e = .returned (.int .i64 r) /\ v = u) (hw : wrap64 (S - n) = S - n \/ r = 0)
   (hc : c = if S = 0 then 1 else if r = 0 \/ o < 0 \/ S - n < o then 2 else 0) :
   Calls Tryz.prog 81 #[.agg #[q,.int .i64 o,.int .i64 n]] w fun e w' => e = .returned (.int .i64 (c : Int)) /\ Below w.heap.size w w' := by
 have hc0 := new_cell w #[q,.int .i64 o,.int .i64 n] 134 0 rfl
 have hc1 := new_cell w #[q,.int .i64 o,.int .i64 n] 134 1 rfl
 have hc2 := new_cell w #[q,.int .i64 o,.int .i64 n] 134 2 rfl
 have HB := hide (one_below w (.cells #[q,.int .i64 o,.int .i64 n] 134))
 have HL : Hid (w.heap.size < (w.alloc (.cells #[q,.int .i64 o,.int .i64 n] 134)).heap.size) := by simp [Hid]
 have HR := hide hR
 have HS := hide (hS _ HB.out)
 clear hS hR
 go_enter Tryz.func81,Tryz.ntmps81
 go_wp2_with fail
 generalize w.alloc (.cells #[q,.int .i64 o,.int .i64 n] 134) = W at *
 refine HS.out.mono ?_
 rintro e w1 ⟨rfl,hb1⟩
 have hd1 := (kept_cell hb1 w.heap.size 1 HL.out).trans hc1
 have hd2 := (kept_cell hb1 w.heap.size 2 HL.out).trans hc2
 have HB1 : Hid (Below w.heap.size w w1) := HB.out.trans (hb1.mono (Nat.le_of_lt HL.out))
 have HW := hide hw
 clear hb1 hc0 hc1 hc2 HB HL HS hw
 by_cases h0 : S = 0
 · rw [if_pos h0] at hc
   subst hc h0
   go_wp2
   go_ret
   exact ⟨rfl,HB1.out⟩
 · rw [if_neg h0] at hc
   by_cases hr : r = 0
   · rw [if_pos (Or.inl hr)] at hc
     subst hc hr
     have h0b : (S == 0) = false := beq_eq_false_iff_ne.2 h0
     go_wp2_with (go_at_call 87; refine (HR.out _).mono ?_; rintro e w2 ⟨rfl,rfl⟩)
     go_ret
     exact ⟨rfl,HB1.out⟩
   · have hrb : (r == 0) = false := beq_eq_false_iff_ne.2 hr
     have hwS := HW.out.resolve_right hr
     by_cases ho : o < 0
     · rw [if_pos (Or.inr (Or.inl ho))] at hc
       subst hc
       go_wp2_with (go_at_call 87; refine (HR.out _).mono ?_; rintro e w2 ⟨rfl,rfl⟩)
       go_ret
       exact ⟨rfl,HB1.out⟩
     · by_cases hs : S - n < o
       · rw [if_pos (Or.inr (Or.inr hs))] at hc
         subst hc
         go_wp2_with (go_at_call 87; refine (HR.out _).mono ?_; rintro e w2 ⟨rfl,rfl⟩)
         go_ret
         exact ⟨rfl,HB1.out⟩
       · rw [if_neg (by omega)] at hc
         subst hc
         go_wp2_with (go_at_call 87; refine (HR.out _).mono ?_; rintro e w2 ⟨rfl,rfl⟩)
         go_ret
         exact ⟨rfl,HB1.out⟩
def runs : List (St -> Nat × St) -> St -> Nat × St
 | [],st => (0,st)
 | f :: l,st => andT (f st) (runs l)
theorem runs_drop (l : List (St -> Nat × St)) (k : Nat) (hk : k < l.length) (st : St) : runs (l.drop k) st = andT (l[k] st) (runs (l.drop (k + 1))) := by
 rw [List.drop_eq_getElem_cons hk]
 rfl
def fnOf : Value -> Option (Nat × Array Value)
 | .func (.func n) r c => some (n,r ++ c)
 | _ => none
def StepForm (v : Value) : Prop := (∃ B,v = .func (.func 130) #[] #[.pointer (some ⟨B,0,none⟩),.pointer (some ⟨B + 1,0,none⟩),.pointer (some ⟨B + 1 + 1,0,none⟩)]) \/ (∃ q,v = .func (.func 54) #[.pointer (some ⟨q,0,none⟩)] #[]) \/ (∃ B,v = .func (.func 131) #[] #[.pointer (some ⟨B,0,none⟩)])
def Does (v : Value) (w : World) (P : Ending -> World -> Prop) : Prop := ∀ n a,fnOf v = some (n,a) -> Calls Tryz.prog n a w P
structure ActAt (u : World) (q : Nat) (K : Nat -> Prop) (v : Value) (f : St -> Nat × St) (m : Nat) : Prop where
 form : StepForm v
 calls : ∀ st F w,u.heap.size <= w.heap.size -> (∀ k,K k -> w.heap[k]? = u.heap[k]?) -> DAt w q st F -> (∀ k,K k -> ¬ F k) -> st.Ok -> st.loose.length + m <= 10000 ->
   Does v w fun e w' => e = .returned (.int .i64 (((f st).1 : Nat) : Int)) /\ ∃ F',DAt w' q (f st).2 F' /\ Loc F F' w w'
 ok : ∀ st,st.Ok -> (f st).2.Ok /\ (f st).2.loose.length <= st.loose.length + m
theorem ActAt.old {u v : World} {q m : Nat} {K : Nat -> Prop} {x : Value} {f : St -> Nat × St} (h : ActAt u q K x f m) (hb : Below u.heap.size u v) (hK : ∀ k,K k -> k < u.heap.size) : ActAt v q K x f m :=
 ⟨h.form,fun st F w hs hk => h.calls st F w (Nat.le_trans hb.size hs) (fun k kk => (hk k kk).trans (hb.block k (hK k kk))),h.ok⟩
structure Upto (q : Nat) (fs : List (St -> Nat × St)) (m : Nat) (st : St) (F : Nat -> Prop) (w : World) (k : Nat) (st' : St) (F' : Nat -> Prop) (wr : World) : Prop where
 same : runs fs st = runs (fs.drop k) st'
 disk : DAt wr q st' F'
 loc : Loc F F' w wr
 ok : st'.Ok
 few : st'.loose.length <= st.loose.length + k * m
theorem Upto.next {q m k : Nat} {fs : List (St -> Nat × St)} {st st' : St} {F F' F2 : Nat -> Prop} {w wr w1 : World} {f : St -> Nat × St} (h : Upto q fs m st F w k st' F' wr) (hs : runs fs st = andT (f st') (runs (fs.drop (k + 1)))) (he : (f st').1 = 0)
   (hd : DAt w1 q (f st').2 F2) (hl : Loc F' F2 wr w1) (ho : (f st').2.Ok /\ (f st').2.loose.length <= st'.loose.length + m) : Upto q fs m st F w (k + 1) (f st').2 F2 w1 :=
 ⟨by rw [hs]; unfold andT; rw [if_pos he],hd,h.loc.trans hl,ho.1,by have := h.few; rw [Nat.add_mul,Nat.one_mul]; omega⟩
theorem Upto.stop {q m k : Nat} {fs : List (St -> Nat × St)} {st st' : St} {F F' F2 : Nat -> Prop} {w wr w1 : World} {f : St -> Nat × St} (h : Upto q fs m st F w k st' F' wr) (hs : runs fs st = andT (f st') (runs (fs.drop (k + 1)))) (he : ¬ (f st').1 = 0)
   (hd : DAt w1 q (f st').2 F2) (hl : Loc F' F2 wr w1) : Ending.returned (.int .i64 (((f st').1 : Nat) : Int)) = .returned (.int .i64 (((runs fs st).1 : Nat) : Int)) /\ ∃ G,DAt w1 q (runs fs st).2 G /\ Loc F G w w1 := by
 have e : runs fs st = f st' := by rw [hs]; unfold andT; rw [if_neg he]
 rw [e]
 exact ⟨rfl,F2,hd,h.loc.trans hl⟩
set_option maxRecDepth 10000 in
set_option maxHeartbeats 2000000 in
theorem inOrder_any (q b off c m : Nat) (vs : List Value) (fs : List (St -> Nat × St)) (K : Nat -> Prop) (st : St) (F : Nat -> Prop) (w : World) (hlen : fs.length = vs.length) (hn : vs.length <= 5000)
   (hcells : ∀ j (hj : j < vs.length),w.cell? ⟨b,off + j,none⟩ = some vs[j]) (hb : b < w.heap.size) (hbF : ¬ F b)
   (hacts : ∀ j (hj : j < vs.length) (hf : j < fs.length),ActAt w q K vs[j] fs[j] m) (hD : DAt w q st F) (hok : st.Ok) (hK : ∀ k,K k -> k < w.heap.size /\ ¬ F k) (hm : st.loose.length + vs.length * m <= 10000) :
   Calls Tryz.prog 108 #[.slice (some ⟨b,off,none⟩) vs.length c] w fun e v => e = .returned (.int .i64 (((runs fs st).1 : Nat) : Int)) /\ ∃ F',DAt v q (runs fs st).2 F' /\ Loc F F' w v := by
 have HC := hide hcells
 have HA := hide hacts
 have HK := hide hK
 have HM := hide hm
 have HLen := hide hlen
 have HN := hide hn
 have HBF := hide hbF
 have HBl := hide hb
 have H0 : Hid (Upto q fs m st F w 0 st F w) := ⟨by rw [List.drop_zero],hD,Loc.refl _ _,hok,by omega⟩
 clear hcells hacts hD hok hK hm hlen hbF hb
 go_enter Tryz.func108,Tryz.ntmps108
 go_wp2_with fail
 go_loopw [4,5,8] (fun d e i wr => ∃ (k : Nat) (st' : St) (F' : Nat -> Prop),k <= vs.length /\ i = .int .i64 (k : Int) /\ Upto q fs m st F w k st' F' wr) (fun _ _ i _ => vs.length - (intOf i).toNat)
 case atStart => exact ⟨0,st,F,Nat.zero_le _,rfl,H0.out⟩
 case round =>
   obtain ⟨k,st',F',hk,rfl,hU⟩ := hrel
   have HU := hide hU
   clear hU
   by_cases hlt : k < vs.length
   · have hkl : k < fs.length := by rw [HLen.out]; exact hlt
     have hc := (HU.out.loc.block b HBl.out HBF.out)
     have hcell : wr.cell? ⟨b,off + k,none⟩ = some vs[k] := by rw [World.cell?_of_block (a := ⟨b,off + k,none⟩) hc]; exact HC.out k hlt
     have hact := HA.out k hlt hkl
     have hfew := HU.out.few
     have hm2 : k * m + m <= vs.length * m := by
       have := Nat.mul_le_mul_right m (show k + 1 <= vs.length from hlt)
       rw [Nat.add_mul,Nat.one_mul] at this
       exact this
     have hM := HM.out
     have hcall := hact.calls st' F' wr HU.out.loc.size (fun j hj => HU.out.loc.block j (HK.out j hj).1 (HK.out j hj).2) HU.out.disk (fun j hj => by
       have := HK.out j hj
       intro hf
       rcases HU.out.loc.own j hf with h1 | h1
       · exact this.2 h1
       · omega) HU.out.ok (by omega)
     have hform := hact.form
     have HS := hide ((HU.out.same).trans (runs_drop fs k hkl st'))
     have HOk := hide (hact.ok st' HU.out.ok)
     clear hc hact hfew hm2 hM
     generalize vs[k] = x at *
     generalize fs[k] = f at *
     have HCl := hide hcall
     clear hcall
     rcases hform with ⟨B,rfl⟩ | ⟨B,rfl⟩ | ⟨B,rfl⟩
     · have KC := hide (HCl.out 130 #[.pointer (some ⟨B,0,none⟩),.pointer (some ⟨B + 1,0,none⟩),.pointer (some ⟨B + 1 + 1,0,none⟩)] rfl)
       clear HCl
       go_wp2_with fail
       refine KC.out.mono ?_
       clear KC
       rintro e w1 ⟨rfl,F2,hd2,hl2⟩
       have HD2 := hide hd2
       have HL2 := hide hl2
       clear hd2 hl2 hcell
       by_cases he : (f st').1 = 0
       · have HE := hide he
         have hez : ((((f st').1 : Nat) : Int) == 0) = true := by rw [he]; rfl
         have hez2 : (((f st').1 : Nat) : Int) = 0 := by rw [he]; rfl
         clear he
         go_wp2
         go_roundw
         case rel => exact ⟨k + 1,(f st').2,F2,hlt,by go_num,HU.out.next HS.out HE.out HD2.out HL2.out HOk.out⟩
         case measure => simp [intOf]; omega
       · have HE := hide he
         have hez : ¬ (((f st').1 : Nat) : Int) = 0 := by omega
         clear he
         go_wp2
         go_ret
         exact HU.out.stop HS.out HE.out HD2.out HL2.out
     · have KC := hide (HCl.out 54 #[.pointer (some ⟨B,0,none⟩)] rfl)
       clear HCl
       go_wp2_with fail
       refine KC.out.mono ?_
       clear KC
       rintro e w1 ⟨rfl,F2,hd2,hl2⟩
       have HD2 := hide hd2
       have HL2 := hide hl2
       clear hd2 hl2 hcell
       by_cases he : (f st').1 = 0
       · have HE := hide he
         have hez : ((((f st').1 : Nat) : Int) == 0) = true := by rw [he]; rfl
         have hez2 : (((f st').1 : Nat) : Int) = 0 := by rw [he]; rfl
         clear he
         go_wp2
         go_roundw
         case rel => exact ⟨k + 1,(f st').2,F2,hlt,by go_num,HU.out.next HS.out HE.out HD2.out HL2.out HOk.out⟩
         case measure => simp [intOf]; omega
       · have HE := hide he
         have hez : ¬ (((f st').1 : Nat) : Int) = 0 := by omega
         clear he
         go_wp2
         go_ret
         exact HU.out.stop HS.out HE.out HD2.out HL2.out
     · have KC := hide (HCl.out 131 #[.pointer (some ⟨B,0,none⟩)] rfl)
       clear HCl
       go_wp2_with fail
       refine KC.out.mono ?_
       clear KC
       rintro e w1 ⟨rfl,F2,hd2,hl2⟩
       have HD2 := hide hd2
       have HL2 := hide hl2
       clear hd2 hl2 hcell
       by_cases he : (f st').1 = 0
       · have HE := hide he
         have hez : ((((f st').1 : Nat) : Int) == 0) = true := by rw [he]; rfl
         have hez2 : (((f st').1 : Nat) : Int) = 0 := by rw [he]; rfl
         clear he
         go_wp2
         go_roundw
         case rel => exact ⟨k + 1,(f st').2,F2,hlt,by go_num,HU.out.next HS.out HE.out HD2.out HL2.out HOk.out⟩
         case measure => simp [intOf]; omega
       · have HE := hide he
         have hez : ¬ (((f st').1 : Nat) : Int) = 0 := by omega
         clear he
         go_wp2
         go_ret
         exact HU.out.stop HS.out HE.out HD2.out HL2.out
   · have hke : k = vs.length := by omega
     have HS : Hid (runs fs st = (0,st')) := by
       have := HU.out.same
       rw [List.drop_of_length_le (by rw [HLen.out]; omega)] at this
       exact this
     have hz : ¬ ((k : Int) < (vs.length : Int)) := by omega
     clear hlt hk
     go_wp2
     go_ret
     rw [HS.out]
     exact ⟨rfl,F',HU.out.disk,HU.out.loc⟩
end Go.Proofs.YtchhojkhfdkhfaaGreatDoor
