/- Joined texts. -/
import Derived.Test.YtchhojkhfdkhfaaGreatDoorP41
namespace Go.Proofs.YtchhojkhfdkhfaaGreatDoor
open Go Go.RowKit Frm Go.Shelf
theorem wpAnyH_weak {P : Program} {md : Region.Mode} {ops : Array Oper} {Q : Exit -> Act -> World -> Prop} {S S' : World -> Prop} (hs : ∀ w,S' w -> S w) :
   ∀ {fuel : Nat} {listed : Array Bool} {a : Act} {w : World},wpAnyH P md ops Q S' fuel listed a w -> wpAnyH P md ops Q S fuel listed a w
 | 0,_,_,_,h => h
 | _ + 1,_,_,_,h => ⟨h.1,fun i hi => wpOp_mono (fun _ _ h' => ⟨hs _ h'.1,wpAnyH_weak hs h'.2⟩) (h.2 i hi)⟩
theorem takeAtQ {P : Program} {md : Region.Mode} {ops : Array Oper} {Q : Exit -> Act -> World -> Prop} {S : World -> Prop} (i d : Nat) {oi : Oper} {v : Value} {fuel : Nat} {listed : Array Bool} {a : Act} {w : World} (hi : ops[i]? = some oi) (hd : oi.dst = some d)
   (hs : Region.noSelect ops = true) (hf : Region.free md ops listed i = true) (hr : (Region.ready md ops listed).contains i = true)
   (hQ : ∀ c a w,Q (.panic c) (a.put oi.dst v) w -> Q (.panic c) a w) (hy : YieldsIf P ops S oi v a) (hS : S w)
   (h : wpAnyH P md ops Q S fuel (listed.setIfInBounds i true) { tmps := a.tmps.setIfInBounds d v,defers := a.defers } w) : wpAnyH P md ops Q S (fuel + 1) listed a w := by
 refine wpAnyH_take hi hs hf hr hQ hy hS ?_
 rw [hd]
 exact h
set_option maxRecDepth 10000 in
set_option maxHeartbeats 8000000 in
theorem StorePlays_any (ck lg : Int) (a : Option Addr) (c : Nat) (l : List Stp) (w : World) (h : StepsAt w a l) (hok : ∀ x ∈ l,x.Ok) (hl : l.length <= 140737488351232) (hk : I64 ck) (hg : I64 lg) :
   Calls Tryz.prog 3 #[confV ck lg,.slice a l.length c] w fun e w' => e = .returned (.bool true) /\ Below w.heap.size w w' := by
 have KA := hide alive_any8
 have HOk := hide hok
 have HI : Hid (I64 ck /\ I64 lg) := ⟨hk,hg⟩
 have hb0 := one_below w (.cells #[.int .i64 ck,.int .i64 lg] 23)
 have hrow := heap_alloc_last w (.cells #[.int .i64 ck,.int .i64 lg] 23)
 have HCf : Hid (∀ u,Below (w.alloc (.cells #[.int .i64 ck,.int .i64 lg] 23)).heap.size (w.alloc (.cells #[.int .i64 ck,.int .i64 lg] 23)) u -> u.cell? ⟨w.heap.size,0,none⟩ = some (.int .i64 ck) /\ u.cell? ⟨w.heap.size,1,none⟩ = some (.int .i64 lg)) := fun u hb => ⟨(cell_of_row _ _ 0 _ _ _ ((hb.block w.heap.size (by simp)).trans hrow)).trans rfl,(cell_of_row _ _ 1 _ _ _ ((hb.block w.heap.size (by simp)).trans hrow)).trans rfl⟩
 have HB0 := hide hb0
 have HSt := hide (steps_below h hb0)
 have KBl := hide (fun v => con8.blocks ck lg v hk hg)
 have KRb := hide (fun v => rBlocks_any ck lg v)
 have KH := hide (fun v (hb : Below (w.alloc (.cells #[.int .i64 ck,.int .i64 lg] 23)).heap.size (w.alloc (.cells #[.int .i64 ck,.int .i64 lg] 23)) v) => heavy_any a c l v (steps_below (steps_below h hb0) hb) hok hl)
 unfold confV at *
 clear h hok hk hg hb0 hrow
 go_enter Tryz.func3,Tryz.ntmps3
 go_wp2_with fail
 have HFin : Hid (∀ v,Below (w.alloc (.cells #[.int .i64 ck,.int .i64 lg] 23)).heap.size (w.alloc (.cells #[.int .i64 ck,.int .i64 lg] 23)) v -> Below w.heap.size w v) := fun v hb => bnext HB0.out hb
 clear HB0
 generalize hW : w.alloc (.cells #[.int .i64 ck,.int .i64 lg] 23) = W at *
 generalize hBc : w.heap.size = Bc at *
 have HBc := hide hBc
 clear hBc hW
 have K := (Below.refl W.heap.size W).drew
 go_region_held3 (fun z => z.cell? ⟨Bc,0,none⟩ = some (.int .i64 ck) /\ z.cell? ⟨Bc,1,none⟩ = some (.int .i64 lg))
   ((with_reducible exact HCf.out _ K))
   (first
     | (go_at_call 6; refine (KBl.out _).mono ?_; rintro e z1 ⟨rfl,hb1⟩; have K := bnext K hb1; clear hb1)
     | (go_at_call 7; refine (KRb.out _).mono ?_; rintro e z2 ⟨rfl,hb2⟩; have K := bnext K hb2; clear hb2))
 have HB1 := hide K
 have KH1 := hide (KH.out _ K)
 clear K KBl KRb KH
 go_wp2_with fail
 refine KH1.out.mono ?_
 rintro e w1 ⟨r,rfl,⟨n1,hw1⟩,hr⟩
 have HB2 : Hid (Below W.heap.size W w1) := by rw [hw1]; exact below_drewN HB1.out n1
 clear hw1 HB1 KH1
 cases r with
 | true =>
   clear hr
   go_wp2_with fail
   refine (KA.out _).mono ?_
   rintro e w2 ⟨rfl,hb2⟩
   have HB3 := hide (HFin.out _ (bnext HB2.out hb2))
   clear hb2
   go_wp2
   go_ret
   exact ⟨rfl,by rw [HBc.out]; exact HB3.out⟩
 | false =>
   obtain ⟨hl50,hsm⟩ := hr rfl
   have HSm := hide hsm
   have HL50 := hide hl50
   clear hr hsm hl50
   have K1 := hide (con.new 24 w1 (by decide) (by decide))
   go_wp2_with fail
   refine K1.out.mono ?_
   rintro e w2 ⟨pd,F,rfl,hd1,hF1,hb1⟩
   have HD1 := hide hd1
   have HF1 : Hid (∀ k,F k -> W.heap.size <= k) := fun k hk => Nat.le_trans HB2.out.size (hF1 k hk)
   have HB3 := hide (bnext HB2.out hb1)
   have K2 := hide (rd_new 24 w2 (by decide) (by decide))
   clear hd1 hF1 hb1 K1
   go_wp2_with fail
   refine K2.out.mono ?_
   rintro e w3 ⟨pr,G,rfl,hr3,hG3,hb3⟩
   have HS := hide (Sides.start (ck := ck) (lg := lg) HD1.out HF1.out HB3.out hr3 hG3 hb3)
   have KO := hide (both_open8 W _ w3.heap.size pd pr ck lg (St.new 24) 0 _ _ _ _ _ _ _ _ HS.out form_new24 (by decide) HI.out.1 HI.out.2)
   obtain ⟨cc0,cc1⟩ := HCf.out w3 (bnext HB3.out hb3)
   clear hr3 hG3 hb3 HD1 HF1 HB3 K2 HS
   go_wp2_with fail
   refine KO.out.mono ?_
   rintro e w4 ⟨rfl,hA4⟩
   have KD0 := hide (does_any W w4 w3.heap.size pd pr ck lg (0 + 30) ⟨5,noText,0,0,none,[],0⟩ hA4 (by decide) ⟨by decide,by decide,by decide,by decide,by decide,by simp,fun _ => rfl⟩ HI.out.1 HI.out.2 (by decide) (Or.inl rfl))
   unfold Stp.val noText at KD0
   clear hA4 KO cc0 cc1
   generalize w3.heap.size = B at *
   go_wp2_with fail
   refine KD0.out.mono ?_
   rintro e w5 ⟨rfl,hA5⟩
   have HA5 := hide hA5
   clear hA5 KD0
   go_wp2_with fail
   go_loopw [10] (fun i u => ∃ k : Nat,k <= l.length /\ i = .int .i64 (k : Int) /\ All8 W B pd pr ck lg (70 * k + 100) u) (fun i _ => l.length - (intOf i).toNat)
   case atStart => exact ⟨0,Nat.zero_le _,rfl,HA5.out.more (by omega)⟩
   case round =>
     obtain ⟨k,hk,rfl,hA⟩ := hrel
     clear HA5
     by_cases hlt : k < l.length
     · obtain ⟨b,off,rfl,hc⟩ : ∃ b off,a = some ⟨b,off,none⟩ /\ ∀ j (hj : j < l.length),StepAt W b (off + j * 5) l[j] := by
         rcases HSt.out with h0 | h1
         · rw [h0] at hlt; exact absurd hlt (by simp)
         · exact h1
       have hxo := HOk.out _ (List.getElem_mem hlt)
       have hsm := HSm.out _ (List.getElem_mem hlt)
       have hck := hc k hlt
       have HCk : Hid (∀ z,Below W.heap.size W z -> z.cell? ⟨b,off + k * 5,none⟩ = some (.int .u8 (l[k].act : Int)) /\ z.cell? ⟨b,off + k * 5 + 1,none⟩ = some (.string l[k].text) /\ z.cell? ⟨b,off + k * 5 + 2,none⟩ = some (.int .u8 (l[k].times : Int)) /\ z.cell? ⟨b,off + k * 5 + 3,none⟩ = some (.int .i64 l[k].n) /\ z.cell? ⟨b,off + k * 5 + 4,none⟩ = some (.slice l[k].pa l[k].picks.length l[k].pc)) := fun z hb => by
         obtain ⟨e0,e1,e2,e3,e4, -⟩ := hck.old hb
         exact ⟨e0,e1,e2,e3,e4⟩
       have hz : (k : Int) < (l.length : Int) := by omega
       have HKs : Hid (70 * k + 100 + 70 <= 4900) := by have := HL50.out; show _ <= _; omega
       have KD := hide (fun z (hA : All8 W B pd pr ck lg (70 * k + 100) z) => does_any W z B pd pr ck lg (70 * k + 100) l[k] hA (by have := HKs.out; omega) hxo HI.out.1 HI.out.2 hsm hck.2.2.2.2.2)
       unfold Stp.val at KD
       have HW1 : Hid (IntKind.i64.wrap ((k : Int) + 1) = (k : Int) + 1) := by show _ = _; rw [IntKind.wrap_i64]; omega
       have HFd := hide (hA.keep ((Below.refl _ wr).drew))
       have KD1 := hide (KD.out _ HFd.out)
       clear hc hck hxo hsm hA
       generalize l[k] = x at *
       go_wp2_with fail
       refine wp_region_held_drew (S := fun z => z.cell? ⟨b,off + k * 5,none⟩ = some (.int .u8 (x.act : Int)) /\ z.cell? ⟨b,off + k * 5 + 1,none⟩ = some (.string x.text) /\ z.cell? ⟨b,off + k * 5 + 2,none⟩ = some (.int .u8 (x.times : Int)) /\ z.cell? ⟨b,off + k * 5 + 3,none⟩ = some (.int .i64 x.n) /\ z.cell? ⟨b,off + k * 5 + 4,none⟩ = some (.slice x.pa x.picks.length x.pc)) (by kernel_rfl) (HCk.out _ HFd.out.below) (fun hHeld => ?_)
       refine takeAtQ 0 54 (v := ?v0) rfl rfl (by kernel_rfl) (by kernel_rfl) (by kernel_rfl) (fun _ _ _ h => h) (Or.inl ⟨by rfl,?hy0⟩) (by assumption) ?rest0
       case hy0 => (intro w hSw; (try dsimp only at hSw); go_simp; first | done | with_reducible rfl)
       simp only [List.setIfInBounds_toArray,List.set_cons_succ,List.set_cons_zero]
       refine takeAtQ 1 55 (v := ?v1) rfl rfl (by kernel_rfl) (by kernel_rfl) (by kernel_rfl) (fun _ _ _ h => h) (Or.inl ⟨by rfl,?hy1⟩) (by assumption) ?rest1
       case hy1 => (intro w hSw; (try dsimp only at hSw); go_simp; first | done | with_reducible rfl)
       simp only [List.setIfInBounds_toArray,List.set_cons_succ,List.set_cons_zero]
       refine takeAtQ 2 56 (v := ?v2) rfl rfl (by kernel_rfl) (by kernel_rfl) (by kernel_rfl) (fun _ _ _ h => h) (Or.inl ⟨by rfl,?hy2⟩) (by assumption) ?rest2
       case hy2 => (intro w hSw; (try dsimp only at hSw); go_simp; first | done | with_reducible rfl)
       simp only [List.setIfInBounds_toArray,List.set_cons_succ,List.set_cons_zero]
       refine takeAtQ 3 57 (v := ?v3) rfl rfl (by kernel_rfl) (by kernel_rfl) (by kernel_rfl) (fun _ _ _ h => h) (Or.inl ⟨by rfl,?hy3⟩) (by assumption) ?rest3
       case hy3 => (intro w hSw; (try dsimp only at hSw); go_simp; first | done | with_reducible rfl)
       simp only [List.setIfInBounds_toArray,List.set_cons_succ,List.set_cons_zero]
       refine takeAtQ 4 58 (v := ?v4) rfl rfl (by kernel_rfl) (by kernel_rfl) (by kernel_rfl) (fun _ _ _ h => h) (Or.inl ⟨by rfl,?hy4⟩) (by assumption) ?rest4
       case hy4 => (intro w hSw; (try dsimp only at hSw); go_simp; first | done | with_reducible rfl)
       simp only [List.setIfInBounds_toArray,List.set_cons_succ,List.set_cons_zero]
       refine wpAnyH_ready (rs := [5]) (by kernel_rfl) (by simp) ?_
       refine AllReadyH.cons (o := { dst := some 59,op := Op.call { callee := Callee.value (Operand.func 13),args := #[Operand.tmp 54,Operand.tmp 58],argTypes := #[35,43] },type := 4,pos := "law.go:147",after := #[{ on := 0,ground := Ground.data }, { on := 4,ground := Ground.data }],guard := none }) rfl (fun K hK => ?_) AllReadyH.nil
       go_simp
       refine KD1.out.mono ?_
       rintro e z1 ⟨rfl,hA1⟩
       obtain ⟨o2,st2,sv2,A2,xv2,C2,hf2,hs2⟩ := hA1
       have HK1 := hide hs2
       have HF2 := hide hf2
       obtain ⟨aL,cL,hyL⟩ := hs2.d.looseAt
       have HTx := hide (PSide.sure hs2.p hf2.form)
       have HTr := hide (fun z (hr : DSide z pr ck lg o2 st2 xv2 C2) => DSide.sure hr hf2.form)
       have HLo := hide (fun z (hd : PSide z pd ck lg o2 st2 sv2 A2) => PSide.loose hd hf2.form (Nat.le_trans HKs.out (by decide)))
       clear hf2 hs2
       generalize st2.text = T at *
       generalize hm2 : st2.loose.length = m at *
       clear hm2
       have HYL := hide hyL
       clear hyL
       go_wp2_with fail
       refine hK.out _ _ (HCk.out _ HK1.out.core.below) (fun hHeld2 => ?_)
       clear hK K
       (try go_frame)
       clear hHeld hHeld2
       refine wpAnyH_weak (S' := fun z => z.cell? ⟨pr,1,none⟩ = some (.slice aL m cL) /\ z.cell? ⟨b,off + k * 5,none⟩ = some (.int .u8 (x.act : Int)) /\ z.cell? ⟨b,off + k * 5 + 1,none⟩ = some (.string x.text) /\ z.cell? ⟨b,off + k * 5 + 2,none⟩ = some (.int .u8 (x.times : Int)) /\ z.cell? ⟨b,off + k * 5 + 3,none⟩ = some (.int .i64 x.n) /\ z.cell? ⟨b,off + k * 5 + 4,none⟩ = some (.slice x.pa x.picks.length x.pc)) (fun z h => h.2) ?_
       have hHeld : (fun z : World => z.cell? ⟨pr,1,none⟩ = some (.slice aL m cL) /\ z.cell? ⟨b,off + k * 5,none⟩ = some (.int .u8 (x.act : Int)) /\ z.cell? ⟨b,off + k * 5 + 1,none⟩ = some (.string x.text) /\ z.cell? ⟨b,off + k * 5 + 2,none⟩ = some (.int .u8 (x.times : Int)) /\ z.cell? ⟨b,off + k * 5 + 3,none⟩ = some (.int .i64 x.n) /\ z.cell? ⟨b,off + k * 5 + 4,none⟩ = some (.slice x.pa x.picks.length x.pc)) z1 := ⟨HYL.out,HCk.out _ HK1.out.core.below⟩
       dsimp only at hHeld
       refine takeAtQ 6 60 (v := ?v6) rfl rfl (by kernel_rfl) (by kernel_rfl) (by kernel_rfl) (fun _ _ _ h => h) (Or.inl ⟨by rfl,?hy6⟩) (by assumption) ?rest6
       case hy6 => (intro w hSw; (try dsimp only at hSw); go_simp; first | done | with_reducible rfl)
       simp only [List.setIfInBounds_toArray,List.set_cons_succ,List.set_cons_zero]
       refine takeAtQ 7 61 (v := ?v7) rfl rfl (by kernel_rfl) (by kernel_rfl) (by kernel_rfl) (fun _ _ _ h => h) (Or.inl ⟨by rfl,?hy7⟩) (by assumption) ?rest7
       case hy7 => (intro w hSw; (try dsimp only at hSw); go_simp; first | done | with_reducible rfl)
       simp only [List.setIfInBounds_toArray,List.set_cons_succ,List.set_cons_zero]
       refine takeAtQ 8 62 (v := ?v8) rfl rfl (by kernel_rfl) (by kernel_rfl) (by kernel_rfl) (fun _ _ _ h => h) (Or.inl ⟨by rfl,?hy8⟩) (by assumption) ?rest8
       case hy8 => (intro w hSw; (try dsimp only at hSw); go_simp; first | done | with_reducible rfl)
       simp only [List.setIfInBounds_toArray,List.set_cons_succ,List.set_cons_zero]
       refine takeAtQ 10 64 (v := ?v10) rfl rfl (by kernel_rfl) (by kernel_rfl) (by kernel_rfl) (fun _ _ _ h => h) (Or.inl ⟨by rfl,?hy10⟩) (by assumption) ?rest10
       case hy10 => (intro w hSw; (try dsimp only at hSw); go_simp; first | done | with_reducible rfl)
       simp only [List.setIfInBounds_toArray,List.set_cons_succ,List.set_cons_zero]
       refine wpAnyH_ready (rs := [9]) (by kernel_rfl) (by simp) ?_
       refine AllReadyH.cons (o := { dst := some 63,op := Op.call { callee := Callee.value (Operand.func 14),args := #[Operand.tmp 62],argTypes := #[28] },type := 9,pos := "law.go:147",after := #[{ on := 8,ground := Ground.data }, { on := 7,ground := Ground.chain }, { on := 7,ground := Ground.guard }],guard := some (7,false) }) rfl (fun K hK => ?_) AllReadyH.nil
       go_simp
       refine HTx.out.mono ?_
       rintro e z2 ⟨rfl,hb2⟩
       have HK2 := hide (HK1.out.keep hb2)
       have HYL2 := hide (cellB8 hb2 HYL.out)
       clear hb2 HTx
       go_wp2_with fail
       refine hK.out _ _ (⟨HYL2.out,HCk.out _ HK2.out.core.below⟩) (fun hHeld2 => ?_)
       clear hK K
       (try go_frame)
       clear hHeld
       refine wpAnyH_ready (rs := [11]) (by kernel_rfl) (by simp) ?_
       refine AllReadyH.cons (o := { dst := some 65,op := Op.call { callee := Callee.value (Operand.func 15),args := #[Operand.tmp 64],argTypes := #[32] },type := 9,pos := "law.go:147",after := #[{ on := 10,ground := Ground.data }, { on := 9,ground := Ground.chain }, { on := 7,ground := Ground.guard }],guard := some (7,false) }) rfl (fun K hK => ?_) AllReadyH.nil
       go_simp
       refine (HTr.out _ HK2.out.d).mono ?_
       rintro e z3 ⟨rfl,hb3⟩
       have HK3 := hide (HK2.out.keep hb3)
       have HYL3 := hide (cellB8 hb3 HYL2.out)
       clear hb3 HTr
       go_wp2_with fail
       refine hK.out _ _ (⟨HYL3.out,HCk.out _ HK3.out.core.below⟩) (fun hHeld3 => ?_)
       clear hK K
       (try go_frame)
       clear hHeld2
       refine takeAtQ 12 66 (v := ?v12) rfl rfl (by kernel_rfl) (by kernel_rfl) (by kernel_rfl) (fun _ _ _ h => h) (Or.inl ⟨by rfl,?hy12⟩) (by assumption) ?rest12
       case hy12 => (intro w hSw; (try dsimp only at hSw); go_simp; first | done | with_reducible rfl)
       simp only [List.setIfInBounds_toArray,List.set_cons_succ,List.set_cons_zero]
       refine takeAtQ 13 67 (v := ?v13) rfl rfl (by kernel_rfl) (by kernel_rfl) (by kernel_rfl) (fun _ _ _ h => h) (Or.inl ⟨by rfl,?hy13⟩) (by assumption) ?rest13
       case hy13 => (intro w hSw; (try dsimp only at hSw); go_simp; first | done | with_reducible rfl)
       simp only [List.setIfInBounds_toArray,List.set_cons_succ,List.set_cons_zero]
       refine takeAtQ 14 68 (v := ?v14) rfl rfl (by kernel_rfl) (by kernel_rfl) (by kernel_rfl) (fun _ _ _ h => h) (Or.inl ⟨by rfl,?hy14⟩) (by assumption) ?rest14
       case hy14 => (intro w hSw; (try dsimp only at hSw); go_simp; first | done | with_reducible rfl)
       simp only [List.setIfInBounds_toArray,List.set_cons_succ,List.set_cons_zero]
       refine takeAtQ 15 69 (v := ?v15) rfl rfl (by kernel_rfl) (by kernel_rfl) (by kernel_rfl) (fun _ _ _ h => h) (Or.inl ⟨by rfl,?hy15⟩) (by assumption) ?rest15
       case hy15 => (intro w hSw; (try dsimp only at hSw); go_simp; first | done | with_reducible rfl)
       simp only [List.setIfInBounds_toArray,List.set_cons_succ,List.set_cons_zero]
       refine takeAtQ 18 72 (v := ?v18) rfl rfl (by kernel_rfl) (by kernel_rfl) (by kernel_rfl) (fun _ _ _ h => h) (Or.inl ⟨by rfl,?hy18⟩) (by assumption) ?rest18
       case hy18 => (intro w hSw; (try dsimp only at hSw); go_simp; first | done | with_reducible rfl)
       simp only [List.setIfInBounds_toArray,List.set_cons_succ,List.set_cons_zero]
       refine takeAtQ 19 73 (v := ?v19) rfl rfl (by kernel_rfl) (by kernel_rfl) (by kernel_rfl) (fun _ _ _ h => h) (Or.inl ⟨by rfl,?hy19⟩) (by assumption) ?rest19
       case hy19 => (intro w hSw; (try dsimp only at hSw); go_simp; first | done | with_reducible rfl)
       simp only [List.setIfInBounds_toArray,List.set_cons_succ,List.set_cons_zero]
       refine takeAtQ 20 74 (v := ?v20) rfl rfl (by kernel_rfl) (by kernel_rfl) (by kernel_rfl) (fun _ _ _ h => h) (Or.inl ⟨by rfl,?hy20⟩) (by assumption) ?rest20
       case hy20 => (intro w hSw; (try dsimp only at hSw); go_simp; first | done | with_reducible rfl)
       simp only [List.setIfInBounds_toArray,List.set_cons_succ,List.set_cons_zero]
       refine takeAtQ 21 75 (v := ?v21) rfl rfl (by kernel_rfl) (by kernel_rfl) (by kernel_rfl) (fun _ _ _ h => h) (Or.inl ⟨by rfl,?hy21⟩) (by assumption) ?rest21
       case hy21 => (intro w hSw; (try dsimp only at hSw); go_simp; first | done | with_reducible rfl)
       simp only [List.setIfInBounds_toArray,List.set_cons_succ,List.set_cons_zero]
       refine takeAtQ 22 76 (v := ?v22) rfl rfl (by kernel_rfl) (by kernel_rfl) (by kernel_rfl) (fun _ _ _ h => h) (Or.inl ⟨by rfl,?hy22⟩) (by assumption) ?rest22
       case hy22 => (intro w hSw; (try dsimp only at hSw); go_simp; first | done | with_reducible rfl)
       simp only [List.setIfInBounds_toArray,List.set_cons_succ,List.set_cons_zero]
       refine wpAnyH_ready (rs := [16]) (by kernel_rfl) (by simp) ?_
       refine AllReadyH.cons (o := { dst := some 70,op := Op.call { callee := Callee.value (Operand.func 16),args := #[Operand.tmp 69],argTypes := #[28] },type := 41,pos := "law.go:147",after := #[{ on := 15,ground := Ground.data }, { on := 14,ground := Ground.chain }, { on := 14,ground := Ground.guard }],guard := some (14,false) }) rfl (fun K hK => ?_) AllReadyH.nil
       go_simp
       refine (HLo.out _ HK3.out.p).mono ?_
       rintro e z4 ⟨aN,cN,rfl,hb4⟩
       have HK4 := hide (HK3.out.keep hb4)
       have HYL4 := hide (cellB8 hb4 HYL3.out)
       clear hb4 HLo
       go_wp2_with fail
       refine hK.out _ _ (⟨HYL4.out,HCk.out _ HK4.out.core.below⟩) (fun hHeld4 => ?_)
       clear hK K
       (try go_frame)
       clear hHeld3
       refine takeAtQ 17 71 (v := ?v17) rfl rfl (by kernel_rfl) (by kernel_rfl) (by kernel_rfl) (fun _ _ _ h => h) (Or.inl ⟨by rfl,?hy17⟩) (by assumption) ?rest17
       case hy17 => (intro w hSw; (try dsimp only at hSw); go_simp; first | done | with_reducible rfl)
       simp only [List.setIfInBounds_toArray,List.set_cons_succ,List.set_cons_zero]
       refine takeAtQ 23 77 (v := ?v23) rfl rfl (by kernel_rfl) (by kernel_rfl) (by kernel_rfl) (fun _ _ _ h => h) (Or.inl ⟨by rfl,?hy23⟩) (by assumption) ?rest23
       case hy23 => (intro w hSw; (try dsimp only at hSw); go_simp; first | done | with_reducible rfl)
       simp only [List.setIfInBounds_toArray,List.set_cons_succ,List.set_cons_zero]
       refine takeAtQ 24 78 (v := ?v24) rfl rfl (by kernel_rfl) (by kernel_rfl) (by kernel_rfl) (fun _ _ _ h => h) (Or.inl ⟨by rfl,?hy24⟩) (by assumption) ?rest24
       case hy24 => (intro w hSw; (try dsimp only at hSw); go_simp; first | done | with_reducible rfl)
       simp only [List.setIfInBounds_toArray,List.set_cons_succ,List.set_cons_zero]
       refine wpAnyH_done (by kernel_rfl) ?_ _
       clear hHeld4
       have HEnd : Hid (∀ v,Below z4.heap.size z4 v -> ∃ k' : Nat,k' <= l.length /\ Value.int .i64 ((k : Int) + 1) = .int .i64 (k' : Int) /\ All8 W B pd pr ck lg (70 * k' + 100) v) := fun v hb => ⟨k + 1,hlt,by go_num,All8.more ⟨o2,st2,sv2,A2,xv2,C2,HF2.out,HK4.out.keep hb⟩ (by omega)⟩
       have HK := hide HK4.out
       clear HK1 HK2 HK3 HK4 HYL HYL2 HYL3 HYL4 KD KD1 HCk HFd
       rcases HK.out.p with ⟨rfl,rfl, -⟩ | ⟨s2,p2,k2,l2,rfl,rfl,hk2,hl2, -⟩
       · rcases HK.out.d with ⟨-,rfl, -⟩ | ⟨_,_,_,_,e1, -⟩
         · obtain ⟨b0,b1,b2,b3,b4,b5⟩ := HK.out.box.cells
           clear HK HF2
           go_wp2_with fail
           go_quiet (fail)
           have HE := hide (HEnd.out _ (below_drewN (Below.refl _ z4) nq))
           generalize z4.drewN nq = z5 at *
           clear b0 b1 b2 b3 b4 b5
           have hw1 := HW1.out
           go_wp2
           go_roundw
           case rel => exact HE.out
           case measure => simp [intOf]; omega
         · cases e1
       · rcases HK.out.d with ⟨e1, -⟩ | ⟨_,q2,_,_,e1,rfl, -⟩
         · cases e1
         · have hcc := (HCf.out z4 HK.out.core.below).2
           subst hk2 hl2
           obtain ⟨zl,hp2,hcm,hsz⟩ := Sides.cmp (w := W) HK.out hcc
           have h10 := HF2.out.lg10
           rw [Int.toNat_natCast] at h10
           obtain ⟨hm1,hm2⟩ := room_iwrap8 (n := l2) (m := s2.str.size) h10 hsz
           have K := And.intro (con8.below hp2 (Below.refl _ z4).drew) (And.intro (hcm.keep (Below.refl _ z4).drew) (Below.refl z4.heap.size z4).drew)
           obtain ⟨b0,b1,b2,b3,b4,b5⟩ := HK.out.box.cells
           clear HK HF2 hcc hp2 hcm hsz h10
           go_wp2_with fail
           clear b0 b1 b2 b3 b4 b5
           go_region_held3 (fun z => z.cell? ⟨B,2,none⟩ = some (.pointer (some ⟨p2,0,none⟩)) /\ z.cell? ⟨B,3,none⟩ = some (.pointer (some ⟨q2,0,none⟩)) /\ z.cell? ⟨q2,3,none⟩ = some (.int .u64 (s2.gen : Int)) /\ z.cell? ⟨q2,4,none⟩ = some (.pointer (some ⟨zl,0,none⟩)) /\ z.cell? ⟨zl,3,none⟩ = some (.string s2.str) /\ z.cell? ⟨Bc,1,none⟩ = some (.int .i64 (l2 : Int)))
             ((with_reducible exact Cmp.all K.2.1))
             (first
               | (go_at_call 17; refine (con8.gen p2 pd k2 l2 s2 st2 A2 _ K.1).mono ?_; rintro e z5 ⟨rfl,hb5⟩; have K := And.intro (con8.below K.1 hb5) (And.intro (K.2.1.keep hb5) (bnext K.2.2 hb5)); clear hb5)
               | (go_at_call 18; refine (con8.room p2 pd k2 l2 s2 st2 A2 _ K.1).mono ?_; rintro e z6 ⟨rfl,hb6⟩; have K := And.intro (con8.below K.1 hb6) (And.intro (K.2.1.keep hb6) (bnext K.2.2 hb6)); clear hb6))
           all_goals
             have HE := hide (HEnd.out _ K.2.2)
             clear K
             have hw1 := HW1.out
             go_wp2
             go_roundw
             case rel => exact HE.out
             case measure => simp [intOf]; omega
     · have hkl : k = l.length := by omega
       subst hkl
       have HB := hide hA.below
       clear hA
       go_wp2_with fail
       refine (KA.out _).mono ?_
       rintro e w9 ⟨rfl,hb9⟩
       have HB9 := hide (HFin.out _ (bnext HB.out hb9))
       clear hb9
       go_wp2
       go_ret
       exact ⟨rfl,by rw [HBc.out]; exact HB9.out⟩
end Go.Proofs.YtchhojkhfdkhfaaGreatDoor
