/- Joined texts. -/
import Derived.Test.YtchhojkhfdkhfaaGreatDoorP23
import Derived.Test.YtchhojkhfdkhfaaGreatDoorP01
import Derived.Deep.AppendLies
import Derived.Test.YtchhojkhfdkhfaaGreatDoorP04
import Derived.Shelf.Strings.Builder2
namespace Go.Proofs.YtchhojkhfdkhfaaGreatDoor
open Go Go.RowKit Frm Go.Shelf
attribute [local go_sem] Oper.semAt_some
set_option maxRecDepth 100000 in
set_option maxHeartbeats 4000000 in
theorem lay_72_66 (q o N pw0 pw1 pn0 : Nat) (a b : Nat -> ByteArray) (st : St) (F K0 : Nat -> Prop) (w : World) (hD : DAt w q st F) (hok : st.Ok) (hlo : st.loose.length + N <= 10000) (hN : N <= 4096) (ho : o <= 4096) (hK0 : ∀ k,K0 k -> k < w.heap.size /\ ¬ F k)
   (hnow : ∀ u i,Kpt K0 w u -> i < N -> Calls Tryz.prog 129 #[.int .i64 (i : Int),.pointer (some ⟨pn0,0,none⟩)] u fun e u' => e = .returned (.string (b i)) /\ Below u.heap.size u u')
   (hwas : ∀ u i,Kpt K0 w u -> i < N -> Calls Tryz.prog 146 #[.int .i64 (i : Int),.pointer (some ⟨pw0,0,none⟩),.pointer (some ⟨pw1,0,none⟩)] u fun e u' => e = .returned (.string (a i)) /\ Below u.heap.size u u') :
   Calls Tryz.prog 159 #[.agg #[.pointer (some ⟨q,0,none⟩),.int .i64 (o : Int),.int .i64 (N : Int)],.func (.func 146) #[] #[.pointer (some ⟨pw0,0,none⟩),.pointer (some ⟨pw1,0,none⟩)],.func (.func 129) #[] #[.pointer (some ⟨pn0,0,none⟩)]] w (LaidOut q o N a b st F w) := by
 have hF : ∀ k,F k -> k < w.heap.size := con.lt hD
 have hK1 : ∀ k,K0 k -> k < w.heap.size := fun k hk => (hK0 k hk).1
 obtain ⟨W0,hW0⟩ : ∃ W0,(((((((w.alloc (.cells #[.pointer (some ⟨q,0,none⟩),.int .i64 (o : Int),.int .i64 (N : Int)] 163)).alloc (.cells #[.bool false] 4)).alloc (.cells #[.int .i64 0] 29)).alloc (.cells #[.bool false] 4)).alloc (.cells #[.pointer (some ⟨q,0,none⟩),.int .i64 (o : Int),.int .i64 (N : Int)] 163)).alloc (.cells #[.func (.func 146) #[] #[.pointer (some ⟨pw0,0,none⟩),.pointer (some ⟨pw1,0,none⟩)]] 165)).alloc (.cells #[.func (.func 129) #[] #[.pointer (some ⟨pn0,0,none⟩)]] 165)) = W0 := ⟨_,rfl⟩
 obtain ⟨hI0,hsz0,hA0,hNow0,hWas0,hkp0⟩ := lay_start q o N st F K0 w hD hK0 (.func (.func 146) #[] #[.pointer (some ⟨pw0,0,none⟩),.pointer (some ⟨pw1,0,none⟩)]) (.func (.func 129) #[] #[.pointer (some ⟨pn0,0,none⟩)]) W0 hW0
 have HIT := hide (diff_72_66 5 (by decide) (w.heap.size + 1 + 1 + 1 + 1) (w.heap.size + 1 + 1 + 1 + 1 + 1 + 1) (w.heap.size + 1 + 1 + 1 + 1 + 1) N pw0 pw1 pn0 (KL w.heap.size K0) a b W0 hN (fun k hk => by rw [hsz0]; exact KL.lt hK1 k hk) (Or.inr (Or.inl rfl)) (Or.inr (Or.inr (Or.inr rfl))) (Or.inr (Or.inr (Or.inl rfl))) hA0 hNow0 hWas0
   (fun u i hu hi => hnow u i (fun k hk => (hu k (Or.inl hk)).trans (hkp0 k hk)) hi) (fun u i hu hi => hwas u i (fun k hk => (hu k (Or.inl hk)).trans (hkp0 k hk)) hi))
 have HNW := hide hnow
 have HI0 := hide hI0
 clear hI0 hnow hwas
 refine (callsIn_wide (n := 6)).1 ?_
 refine callsIn_of_wp_marks Tryz.func159 rfl trivial ?_ rfl
 simp only [Tryz.ntmps159,List.size_toArray,List.length_cons,List.length_nil,Nat.reduceAdd,Nat.reduceSub,Array.replicate_succ,Array.replicate_zero,List.push_toArray,List.append_toArray,List.nil_append,List.cons_append]
 gi_wp2_with (refine ⟨trivial,?_⟩; gi_at_call 166; refine (differing_in _ q (o : Int) (N : Int) 146 129 _ _ _).mono ?_; rintro e w' ⟨rfl,rfl⟩)

 clear hW0 hA0 hNow0 hWas0 hkp0
 refine wpIn_rangeFunc_ownH rfl (by decide) (gf := 172) (lb := #[.pointer (some ⟨w.heap.size + 1 + 1 + 1 + 1,0,none⟩),.pointer (some ⟨w.heap.size + 1 + 1 + 1 + 1 + 1 + 1,0,none⟩),.pointer (some ⟨w.heap.size + 1 + 1 + 1 + 1 + 1,0,none⟩)]) rfl trivial (enters_of Tryz.func172 (by kernel_rfl) rfl)
   HIT.out (fun h k => ⟨Nat.le_trans h.1 k.1,h.2.trans k.2⟩) (fun W l ob ob' hl hh _ _ => kp_put hK1 (by rw [<- hsz0]; exact hl)) (Below.refl _ _) (fun _ => rfl)
   (LIn w q o N st F K0) (LOut w q o N st F K0) (LIn.own hK1 (by rw [hsz0]; exact Nat.le_refl _)) (LOut.own hK1 (by rw [hsz0]; exact Nat.le_refl _))
   HI0.out
   (fun x a' _ => a' = { tmps := #[.agg #[.pointer (some ⟨q,0,none⟩),.int .i64 (o : Int),.int .i64 (N : Int)],.func (.func 146) #[] #[.pointer (some ⟨pw0,0,none⟩),.pointer (some ⟨pw1,0,none⟩)],.func (.func 129) #[] #[.pointer (some ⟨pn0,0,none⟩)],.pointer (some ⟨w.heap.size,0,none⟩),undef,undef,.pointer (some ⟨w.heap.size + 1,0,none⟩),.pointer (some ⟨w.heap.size + 1 + 1,0,none⟩),.pointer (some ⟨w.heap.size + 1 + 1 + 1,0,none⟩),.int .i64 (x.1 : Int),.string x.2,undef,.agg #[.pointer (some ⟨q,0,none⟩),.int .i64 (o : Int),.int .i64 (N : Int)],.func (.func 146) #[] #[.pointer (some ⟨pw0,0,none⟩),.pointer (some ⟨pw1,0,none⟩)],.func (.func 129) #[] #[.pointer (some ⟨pn0,0,none⟩)],.func (.func 172) #[] #[.pointer (some ⟨w.heap.size + 1 + 1 + 1 + 1,0,none⟩),.pointer (some ⟨w.heap.size + 1 + 1 + 1 + 1 + 1 + 1,0,none⟩),.pointer (some ⟨w.heap.size + 1 + 1 + 1 + 1 + 1,0,none⟩)],.int .i64 (x.1 : Int),.string x.2,undef,undef,undef,undef,undef,undef,undef,undef,undef,undef,undef,undef],defers := [] }) (fun x a' _ X Y row hs hg hr => hs)
   ?assign ?body ?done ?stop
 case assign =>
   rintro l pre x W K hi hK
   dsimp only [encD]
   have HK := hide hK
   have HI := hide hi
   clear hK hi
   gi_wp2
   exact HK.out _ _ (KeepsFrom.refl _ _) ⟨Nat.le_refl _,fun _ _ => rfl⟩ HI.out rfl
 case body =>
   rintro l pre x a' W hl ⟨r,hr⟩ ⟨F',hi,h0⟩ rfl hlt
   have hst := LayIn.state hi hok hlo (Nat.le_trans (Nat.le_of_lt hlt) (df_length a b N))
   have hc0 := hi.c0
   have hc1 := hi.c1
   have KW := hide (write_any q _ F' (wrap64 ((o : Int) + (x.1 : Int))) x.2 W hi.disk hst.1 hst.2)
   have HI := hide hi
   have H0 := hide h0
   have HKK := hide hK0
   have HFF := hide hF
   have HK1 := hide hK1
   clear hi h0 hst hK0 hF hK1
   by_cases he : ((pw o pre st).2.write (wrap64 ((o : Int) + (x.1 : Int))) x.2).1 = 0
   · rw [he] at KW
     have HE := hide he
     clear he
     gi_wp2_with (fail)
     refine ⟨trivial,CallsIn.mono (F := Fence.wide) (callsIn_wide.2 KW.out) ?_⟩
     rintro e W1 ⟨rfl,F2,hd,hloc⟩
     have h1 := HI.out.write HFF.out HKK.out H0.out hd hloc
     have hfw := h1.w.frozen
     have hcw := h1.w.cell
     have H1 := hide h1
     have HL := hide hloc
     clear h1 hd hloc
     gi_wp2
     exact lay_go HI.out H1.out HL.out HFF.out HKK.out H0.out HE.out
   · have hez : ¬ (((((pw o pre st).2.write (wrap64 ((o : Int) + (x.1 : Int))) x.2).1 : Nat) : Int) = 0) := by omega
     have HE := hide he
     clear he
     generalize hen : ((pw o pre st).2.write (wrap64 ((o : Int) + (x.1 : Int))) x.2).1 = en at *
     have HEN := hide hen
     clear hen
     gi_wp2_with (fail)
     refine ⟨trivial,CallsIn.mono (F := Fence.wide) (callsIn_wide.2 KW.out) ?_⟩
     rintro e W1 ⟨rfl,F2,hd,hloc⟩
     have h1 := HI.out.write HFF.out HKK.out H0.out hd hloc
     have hfb := h1.b.frozen
     have hcb := h1.b.cell
     have hfe := h1.e.frozen
     have hce := h1.e.cell
     have H1 := hide h1
     have HL := hide hloc
     clear h1 hd hloc
     gi_wp2
     exact lay_no HI.out H1.out HL.out HFF.out HK1.out H0.out (HEN.out.symm ▸ HE.out) HEN.out
 case done =>
   rintro D ys W hD rfl ⟨F',hi,h0⟩ hK
   have hfb := hi.b.frozen
   have hcb := hi.b.cell
   have hfe := hi.e.frozen
   have hce := hi.e.cell
   have hcw := hi.w.cell
   have HI := hide hi
   have H0 := hide h0
   have HK := hide hK
   clear hi h0 hK
   gi_wp2
   obtain ⟨hK',k1,k2,hl⟩ := lay_done a b ho hN HI.out hF hK1 H0.out HK.out (by omega)
   refine ⟨by simp,.inl ⟨_,_,rfl,run_takeDeferred hK',?_⟩⟩
   refine ⟨.tuple #[.bool (!(df a b N).isEmpty),.int .i64 0],?_,hl⟩
   simp [results,Tryz.f159,go_sem,k1,k2]
 case stop =>
   rintro D c pre W hD hpre ⟨rfl,h0,F',vW,hi⟩ hK
   obtain ⟨hK',k1,k2,hl⟩ := lay_stop a b ho hN hi hK1 h0 hpre hK (by omega)
   gi_wp2
   refine ⟨by simp,.inl ⟨_,_,rfl,run_takeDeferred hK',?_⟩⟩
   refine ⟨.tuple #[.bool false,.int .i64 (((pw o pre st).1 : Nat) : Int)],?_,hl⟩
   simp [results,Tryz.f159,go_sem,k1,k2]
theorem wl_none (o o' : Nat) : ∀ (l : List (ByteArray × ByteArray)) (i : Nat),wl o l i = [] -> wl o' l i = []
 | [],_,_ => rfl
 | x :: l,i,h => by
   have e : ∀ m,wl m (x :: l) i = if x.1 = x.2 then wl m l (i + 1) else (m + i,x.2) :: wl m l (i + 1) := fun _ => rfl
   rw [e] at h ⊢
   split at h
   · rename_i hx; rw [if_pos hx]; exact wl_none o o' l (i + 1) h
   · cases h
theorem made_of (o N : Nat) (a b : Nat -> ByteArray) (st : St) : ((puts o (prs N a b) 0 st).1 ≠ 0 -> made o (prs N a b) st = puts o (prs N a b) 0 st) /\ ((puts o (prs N a b) 0 st).1 = 0 -> df a b N = [] -> made o (prs N a b) st = (0,(puts o (prs N a b) 0 st).2)) /\ ((puts o (prs N a b) 0 st).1 = 0 -> df a b N ≠ [] -> made o (prs N a b) st = (puts o (prs N a b) 0 st).2.sync) := by
 unfold made df
 refine ⟨fun h => by rw [if_pos h],fun h k => by rw [if_neg (by rw [h]; simp),if_pos (wl_none 0 o _ _ k)],fun h k => by rw [if_neg (by rw [h]; simp),if_neg (fun e => k (wl_none o 0 _ _ e))]⟩
theorem puts_ok (o : Nat) : ∀ (l : List (ByteArray × ByteArray)) (i : Nat) (st : St),st.Ok -> (puts o l i st).2.Ok /\ (puts o l i st).2.loose.length <= st.loose.length + l.length
 | [],_,st,h => ⟨h,by simp [puts]⟩
 | x :: l,i,st,h => by
   have e2 : puts o (x :: l) i st = if x.1 = x.2 then puts o l (i + 1) st else if (st.write ((o + i : Nat) : Int) x.2).1 = 0 then puts o l (i + 1) (st.write ((o + i : Nat) : Int) x.2).2 else st.write ((o + i : Nat) : Int) x.2 := rfl
   rw [e2,List.length_cons]
   have hw := write_loose st ((o + i : Nat) : Int) x.2
   split
   · have := puts_ok o l (i + 1) st h
     exact ⟨this.1,by omega⟩
   · split
     · have := puts_ok o l (i + 1) (st.write ((o + i : Nat) : Int) x.2).2 (h.write _ _)
       exact ⟨this.1,by omega⟩
     · exact ⟨h.write _ _,by omega⟩
theorem lay_len (o N : Nat) (a b : Nat -> ByteArray) (st : St) (h : st.Ok) : (puts o (prs N a b) 0 st).2.Ok /\ (puts o (prs N a b) 0 st).2.loose.length <= st.loose.length + N := by
 have := puts_ok o (prs N a b) 0 st h
 rw [prs_length] at this
 exact this
set_option maxRecDepth 10000 in
set_option maxHeartbeats 2000000 in
theorem sure_71_72 (q o N pw0 pn0 pn1 : Nat) (a b : Nat -> ByteArray) (st : St) (F K0 : Nat -> Prop) (w : World) (hD : DAt w q st F) (hok : st.Ok) (hlo : st.loose.length + N <= 10000) (hN : N <= 4096) (ho : o <= 4096) (hK0 : ∀ k,K0 k -> k < w.heap.size /\ ¬ F k)
   (hnow : ∀ u i,Kpt K0 w u -> i < N -> Calls Tryz.prog 146 #[.int .i64 (i : Int),.pointer (some ⟨pn0,0,none⟩),.pointer (some ⟨pn1,0,none⟩)] u fun e u' => e = .returned (.string (b i)) /\ Below u.heap.size u u')
   (hwas : ∀ u i,Kpt K0 w u -> i < N -> Calls Tryz.prog 145 #[.int .i64 (i : Int),.pointer (some ⟨pw0,0,none⟩)] u fun e u' => e = .returned (.string (a i)) /\ Below u.heap.size u u') :
   Calls Tryz.prog 147 #[.agg #[.pointer (some ⟨q,0,none⟩),.int .i64 (o : Int),.int .i64 (N : Int)],.func (.func 145) #[] #[.pointer (some ⟨pw0,0,none⟩)],.func (.func 146) #[] #[.pointer (some ⟨pn0,0,none⟩),.pointer (some ⟨pn1,0,none⟩)]] w fun e w' => e = .returned (.int .i64 (((made o (prs N a b) st).1 : Nat) : Int)) /\ ∃ F',DAt w' q (made o (prs N a b) st).2 F' /\ Loc F F' w w' := by
 obtain ⟨W,hW⟩ : ∃ W,w.alloc (.cells #[.pointer (some ⟨q,0,none⟩),.int .i64 (o : Int),.int .i64 (N : Int)] 163) = W := ⟨_,rfl⟩
 have hbW : Below w.heap.size w W := by rw [<- hW]; exact (Below.refl _ _).alloc (Nat.le_refl _) _
 have hszW : W.heap.size = w.heap.size + 1 := by rw [<- hW]; simp
 have harea : W.heap[w.heap.size]? = some (.cells #[.pointer (some ⟨q,0,none⟩),.int .i64 (o : Int),.int .i64 (N : Int)] 163 (0,0)) := by rw [<- hW]; exact World.alloc_heap_new w _
 have hc0 : W.cell? ⟨w.heap.size,0,none⟩ = some (.pointer (some ⟨q,0,none⟩)) := by simp [World.cell?,harea]
 have hc1 : W.cell? ⟨w.heap.size,1,none⟩ = some (.int .i64 (o : Int)) := by simp [World.cell?,harea]
 have hc2 : W.cell? ⟨w.heap.size,2,none⟩ = some (.int .i64 (N : Int)) := by simp [World.cell?,harea]
 have hF := con.lt hD
 have hkp : Kpt K0 w W := fun k hk => hbW.block k (hK0 k hk).1
 have KL := hide (lay_71_72 q o N pw0 pn0 pn1 a b st F K0 W (con.below hD hbW) hok hlo hN ho (fun k hk => ⟨by have := (hK0 k hk).1; omega,(hK0 k hk).2⟩) (fun u i hu hi => hnow u i (hkp.trans hu) hi) (fun u i hu hi => hwas u i (hkp.trans hu) hi))
 have HM := hide (made_of o N a b st)
 have HL0 := hide (Loc.of_below F hbW)
 have HOK := hide hok
 have HNA : Hid (∀ F' u,Loc F F' W u -> u.heap[w.heap.size]? = some (.cells #[.pointer (some ⟨q,0,none⟩),.int .i64 (o : Int),.int .i64 (N : Int)] 163 (0,0))) := fun F' u hl => (hl.block _ (by omega) (fun hf => by have := hF _ hf; omega)).trans harea
 have HLL := hide (lay_len o N a b st hok)
 have HN := hide hlo
 clear hok hnow hwas hbW harea hkp
 by_cases h0 : (puts o (prs N a b) 0 st).1 = 0
 · by_cases h1 : df a b N = []
   · have hdec : decide ((puts o (prs N a b) 0 st).1 = 0 /\ df a b N ≠ []) = false := decide_eq_false (fun h => h.2 h1)
     have HA := hide (HM.out.2.1 h0 h1)
     clear hlo
     unfold LaidOut at KL
     rw [hdec,h0] at KL
     generalize made o (prs N a b) st = M at *
     generalize (puts o (prs N a b) 0 st).2 = S at *
     clear h0 h1 hdec
     go_enter Tryz.func147,Tryz.ntmps147
     go_wp2_with fail
     refine KL.out.mono ?_
     rintro e w1 ⟨rfl,F',hd,hloc⟩
     have HD := hide hd
     have HLoc := hide hloc
     clear hd hloc
     go_wp2
     go_ret
     exact ⟨by rw [HA.out]; rfl,F',by rw [HA.out]; exact HD.out,HL0.out.trans HLoc.out⟩
   · have hdec : decide ((puts o (prs N a b) 0 st).1 = 0 /\ df a b N ≠ []) = true := decide_eq_true ⟨h0,h1⟩
     have HA := hide (HM.out.2.2 h0 h1)
     have HS := hide HLL.out
     clear hlo
     unfold LaidOut at KL
     rw [hdec,h0] at KL
     generalize made o (prs N a b) st = M at *
     generalize (puts o (prs N a b) 0 st).2 = S at *
     clear h0 h1 hdec
     go_enter Tryz.func147,Tryz.ntmps147
     go_wp2_with fail
     refine KL.out.mono ?_
     rintro e w1 ⟨rfl,F',hd,hloc⟩
     have HD := hide hd
     have HLoc := hide hloc
     have hq : w1.cell? ⟨w.heap.size,0,none⟩ = some (.pointer (some ⟨q,0,none⟩)) := by simp [World.cell?,HNA.out F' w1 hloc]
     have KS := hide (con.sync q S F' w1 hd HS.out.1 (by have := HS.out.2; have := HN.out; omega))
     clear hd hloc
     go_wp2_with fail
     refine KS.out.mono ?_
     rintro e w2 ⟨rfl,F2,hd2,hloc2⟩
     have HD2 := hide hd2
     have HLoc2 := hide hloc2
     clear hd2 hloc2
     go_wp2
     go_ret
     exact ⟨by rw [HA.out]; rfl,F2,by rw [HA.out]; exact HD2.out,(HL0.out.trans HLoc.out).trans HLoc2.out⟩
 · have hdec : decide ((puts o (prs N a b) 0 st).1 = 0 /\ df a b N ≠ []) = false := decide_eq_false (fun h => h0 h.1)
   have HA := hide (HM.out.1 h0)
   have hez : ¬ ((((puts o (prs N a b) 0 st).1 : Nat) : Int) = 0) := by omega
   clear hlo
   unfold LaidOut at KL
   rw [hdec] at KL
   generalize made o (prs N a b) st = M at *
   generalize (puts o (prs N a b) 0 st) = S at *
   clear h0 hdec
   go_enter Tryz.func147,Tryz.ntmps147
   go_wp2_with fail
   refine KL.out.mono ?_
   rintro e w1 ⟨rfl,F',hd,hloc⟩
   have HD := hide hd
   have HLoc := hide hloc
   clear hd hloc
   go_wp2
   go_ret
   exact ⟨by rw [HA.out]; rfl,F',by rw [HA.out]; exact HD.out,HL0.out.trans HLoc.out⟩
set_option maxRecDepth 10000 in
set_option maxHeartbeats 2000000 in
theorem sure_72_66 (q o N pw0 pw1 pn0 : Nat) (a b : Nat -> ByteArray) (st : St) (F K0 : Nat -> Prop) (w : World) (hD : DAt w q st F) (hok : st.Ok) (hlo : st.loose.length + N <= 10000) (hN : N <= 4096) (ho : o <= 4096) (hK0 : ∀ k,K0 k -> k < w.heap.size /\ ¬ F k)
   (hnow : ∀ u i,Kpt K0 w u -> i < N -> Calls Tryz.prog 129 #[.int .i64 (i : Int),.pointer (some ⟨pn0,0,none⟩)] u fun e u' => e = .returned (.string (b i)) /\ Below u.heap.size u u')
   (hwas : ∀ u i,Kpt K0 w u -> i < N -> Calls Tryz.prog 146 #[.int .i64 (i : Int),.pointer (some ⟨pw0,0,none⟩),.pointer (some ⟨pw1,0,none⟩)] u fun e u' => e = .returned (.string (a i)) /\ Below u.heap.size u u') :
   Calls Tryz.prog 147 #[.agg #[.pointer (some ⟨q,0,none⟩),.int .i64 (o : Int),.int .i64 (N : Int)],.func (.func 146) #[] #[.pointer (some ⟨pw0,0,none⟩),.pointer (some ⟨pw1,0,none⟩)],.func (.func 129) #[] #[.pointer (some ⟨pn0,0,none⟩)]] w fun e w' => e = .returned (.int .i64 (((made o (prs N a b) st).1 : Nat) : Int)) /\ ∃ F',DAt w' q (made o (prs N a b) st).2 F' /\ Loc F F' w w' := by
 obtain ⟨W,hW⟩ : ∃ W,w.alloc (.cells #[.pointer (some ⟨q,0,none⟩),.int .i64 (o : Int),.int .i64 (N : Int)] 163) = W := ⟨_,rfl⟩
 have hbW : Below w.heap.size w W := by rw [<- hW]; exact (Below.refl _ _).alloc (Nat.le_refl _) _
 have hszW : W.heap.size = w.heap.size + 1 := by rw [<- hW]; simp
 have harea : W.heap[w.heap.size]? = some (.cells #[.pointer (some ⟨q,0,none⟩),.int .i64 (o : Int),.int .i64 (N : Int)] 163 (0,0)) := by rw [<- hW]; exact World.alloc_heap_new w _
 have hc0 : W.cell? ⟨w.heap.size,0,none⟩ = some (.pointer (some ⟨q,0,none⟩)) := by simp [World.cell?,harea]
 have hc1 : W.cell? ⟨w.heap.size,1,none⟩ = some (.int .i64 (o : Int)) := by simp [World.cell?,harea]
 have hc2 : W.cell? ⟨w.heap.size,2,none⟩ = some (.int .i64 (N : Int)) := by simp [World.cell?,harea]
 have hF := con.lt hD
 have hkp : Kpt K0 w W := fun k hk => hbW.block k (hK0 k hk).1
 have KL := hide (lay_72_66 q o N pw0 pw1 pn0 a b st F K0 W (con.below hD hbW) hok hlo hN ho (fun k hk => ⟨by have := (hK0 k hk).1; omega,(hK0 k hk).2⟩) (fun u i hu hi => hnow u i (hkp.trans hu) hi) (fun u i hu hi => hwas u i (hkp.trans hu) hi))
 have HM := hide (made_of o N a b st)
 have HL0 := hide (Loc.of_below F hbW)
 have HOK := hide hok
 have HNA : Hid (∀ F' u,Loc F F' W u -> u.heap[w.heap.size]? = some (.cells #[.pointer (some ⟨q,0,none⟩),.int .i64 (o : Int),.int .i64 (N : Int)] 163 (0,0))) := fun F' u hl => (hl.block _ (by omega) (fun hf => by have := hF _ hf; omega)).trans harea
 have HLL := hide (lay_len o N a b st hok)
 have HN := hide hlo
 clear hok hnow hwas hbW harea hkp
 by_cases h0 : (puts o (prs N a b) 0 st).1 = 0
 · by_cases h1 : df a b N = []
   · have hdec : decide ((puts o (prs N a b) 0 st).1 = 0 /\ df a b N ≠ []) = false := decide_eq_false (fun h => h.2 h1)
     have HA := hide (HM.out.2.1 h0 h1)
     clear hlo
     unfold LaidOut at KL
     rw [hdec,h0] at KL
     generalize made o (prs N a b) st = M at *
     generalize (puts o (prs N a b) 0 st).2 = S at *
     clear h0 h1 hdec
     go_enter Tryz.func147,Tryz.ntmps147
     go_wp2_with fail
     refine KL.out.mono ?_
     rintro e w1 ⟨rfl,F',hd,hloc⟩
     have HD := hide hd
     have HLoc := hide hloc
     clear hd hloc
     go_wp2
     go_ret
     exact ⟨by rw [HA.out]; rfl,F',by rw [HA.out]; exact HD.out,HL0.out.trans HLoc.out⟩
   · have hdec : decide ((puts o (prs N a b) 0 st).1 = 0 /\ df a b N ≠ []) = true := decide_eq_true ⟨h0,h1⟩
     have HA := hide (HM.out.2.2 h0 h1)
     have HS := hide HLL.out
     clear hlo
     unfold LaidOut at KL
     rw [hdec,h0] at KL
     generalize made o (prs N a b) st = M at *
     generalize (puts o (prs N a b) 0 st).2 = S at *
     clear h0 h1 hdec
     go_enter Tryz.func147,Tryz.ntmps147
     go_wp2_with fail
     refine KL.out.mono ?_
     rintro e w1 ⟨rfl,F',hd,hloc⟩
     have HD := hide hd
     have HLoc := hide hloc
     have hq : w1.cell? ⟨w.heap.size,0,none⟩ = some (.pointer (some ⟨q,0,none⟩)) := by simp [World.cell?,HNA.out F' w1 hloc]
     have KS := hide (con.sync q S F' w1 hd HS.out.1 (by have := HS.out.2; have := HN.out; omega))
     clear hd hloc
     go_wp2_with fail
     refine KS.out.mono ?_
     rintro e w2 ⟨rfl,F2,hd2,hloc2⟩
     have HD2 := hide hd2
     have HLoc2 := hide hloc2
     clear hd2 hloc2
     go_wp2
     go_ret
     exact ⟨by rw [HA.out]; rfl,F2,by rw [HA.out]; exact HD2.out,(HL0.out.trans HLoc.out).trans HLoc2.out⟩
 · have hdec : decide ((puts o (prs N a b) 0 st).1 = 0 /\ df a b N ≠ []) = false := decide_eq_false (fun h => h0 h.1)
   have HA := hide (HM.out.1 h0)
   have hez : ¬ ((((puts o (prs N a b) 0 st).1 : Nat) : Int) = 0) := by omega
   clear hlo
   unfold LaidOut at KL
   rw [hdec] at KL
   generalize made o (prs N a b) st = M at *
   generalize (puts o (prs N a b) 0 st) = S at *
   clear h0 hdec
   go_enter Tryz.func147,Tryz.ntmps147
   go_wp2_with fail
   refine KL.out.mono ?_
   rintro e w1 ⟨rfl,F',hd,hloc⟩
   have HD := hide hd
   have HLoc := hide hloc
   clear hd hloc
   go_wp2
   go_ret
   exact ⟨by rw [HA.out]; rfl,F',by rw [HA.out]; exact HD.out,HL0.out.trans HLoc.out⟩
end Go.Proofs.YtchhojkhfdkhfaaGreatDoor
namespace Go.Proofs.YtchhojkhfdkhfaaGreatDoor
open Go Go.RowKit Frm
def OB (v : Value) (k : Nat) : Prop := v.ownBlock = some k
theorem Loc.app {v0 bv : Value} {w wr w2 : World} {ob : Obj} {g n c : Nat} (h : Loc (OB v0) (OB bv) w wr) (hg : (wr.alloc ob).grownBy w2 bv.ownBlock) (hat : bv.ownBlock = some g \/ g = wr.heap.size + 1) : Loc (OB v0) (OB (.slice (some ⟨g,0,none⟩) n c)) w w2 := by
 refine h.trans ((Loc.alloc (OB bv) wr ob).trans (Loc.of_grown hg (fun k e => e) (fun k hk => ?_)))
 have e : g = k := by unfold OB at hk; simp [Value.ownBlock] at hk; exact hk
 subst e
 rcases hat with h1 | h1
 · exact Or.inl h1
 · exact Or.inr (by simp; omega)
theorem take_snoc {l : List ByteArray} {k : Nat} (h : k < l.length) : l.take (k + 1) = l.take k ++ [l[k]] := by rw [List.take_succ_eq_append_getElem h]
theorem own_lt0 {u : World} {v : Value} {l : List ByteArray} (h : OwnL u 0 v l) {k : Nat} (hk : OB v k) : k < u.heap.size := (World.ownsRow.lt h k hk).2
set_option maxRecDepth 10000 in
set_option maxHeartbeats 2000000 in
theorem readOn_ends (q o N : Nat) (v0 : Value) (l0 : List ByteArray) (st : St) (F : Nat -> Prop) (w : World) (hD : DAt w q st F) (hok : st.Ok) (hl : st.loose.length <= 10000) (hN : o + N <= st.sure.length) (h0 : st.left ≠ 0)
   (hv0 : OwnL w 0 v0 l0) (hl0 : l0 = (reads st o N).take l0.length) (hln : l0.length <= N) (hdj : ∀ k,F k -> ¬ OB v0 k) (hfull : ∀ j,j < l0.length -> ¬ countOf (st.at (o + j)) < 255) :
   Calls Tryz.prog 117 #[.agg #[.pointer (some ⟨q,0,none⟩),.int .i64 (o : Int),.int .i64 (N : Int)],v0,.func (.func 118) #[] #[]] w fun e w' => ∃ bv,e = .returned (.tuple #[bv,.int .i64 0]) /\ OwnL w' 0 bv (upTo (reads st o N)) /\ Loc (OB v0) (OB bv) w w' := by
 have hfew := hok.few
 obtain ⟨i0,hi,hz0,hz1,hz2⟩ := info_parts (P := Tryz.prog) (e := 9) (z := .string ⟨#[]⟩) (size := 1) (bytes := 16) (by kernel_rfl)
 have HI := hide (And.intro hi (And.intro hz0 (And.intro hz1 hz2)))
 clear hi hz0 hz1 hz2
 obtain ⟨W,hW⟩ : ∃ W,w.alloc (.cells #[.pointer (some ⟨q,0,none⟩),.int .i64 (o : Int),.int .i64 (N : Int)] 163) = W := ⟨_,rfl⟩
 have hbW : Below w.heap.size w W := by rw [<- hW]; exact (Below.refl _ _).alloc (Nat.le_refl _) _
 have hszW : W.heap.size = w.heap.size + 1 := by rw [<- hW]; simp
 have harea : W.heap[w.heap.size]? = some (.cells #[.pointer (some ⟨q,0,none⟩),.int .i64 (o : Int),.int .i64 (N : Int)] 163 (0,0)) := by rw [<- hW]; exact World.alloc_heap_new w _
 have HL0 := hide (Loc.of_below (OB v0) hbW)
 have HAr : Hid (∀ bv u,Loc (OB v0) (OB bv) W u -> u.cell? ⟨w.heap.size,0,none⟩ = some (.pointer (some ⟨q,0,none⟩)) /\ u.cell? ⟨w.heap.size,1,none⟩ = some (.int .i64 (o : Int)) /\ u.cell? ⟨w.heap.size,2,none⟩ = some (.int .i64 (N : Int)) /\ DAt u q st F) := fun bv u hloc => by
   have hb := (hloc.block w.heap.size (by omega) (fun hh => by have := own_lt0 hv0 hh; omega)).trans harea
   refine ⟨by simp [World.cell?,hb],by simp [World.cell?,hb],by simp [World.cell?,hb],con.same (con.below hD hbW) (fun k hk => hloc.block k (by have := con.lt hD k hk; omega) (hdj k hk))⟩
 have HV := hide (hv0.below hbW)
 obtain ⟨a0,c0,hform, -⟩ := hv0.strs
 subst hform
 have hN4 : N <= 4096 := by omega
 have ho4 : o <= 4096 := by omega
 have HR : Hid (∀ k u,k < N -> DAt u q st F -> Calls Tryz.prog 112 #[.pointer (some ⟨q,0,none⟩),.int .i64 ((o + k : Nat) : Int)] u fun e v => e = .returned (.tuple #[.string (st.at (o + k)),.int .i64 0]) /\ Below u.heap.size u v) := fun k u hk hd => by
   have := con.read q st F ((o + k : Nat) : Int) u hd hok hl (by omega)
   rw [read_in (o + k) (by omega) h0] at this
   exact this
 have HS : Hid (∀ k,k < N -> (st.at (o + k)).size = 256) := fun k hk => at_size hok _ (by omega)
 have hlen := reads_length st o N
 have HAT : Hid (∀ k,k < N -> (reads st o N).take (k + 1) = (reads st o N).take k ++ [st.at (o + k)]) := fun k hk => by rw [take_snoc (by omega),reads_at]
 have HTL : Hid (∀ k,k <= N -> ((reads st o N).take k).length = k) := fun k hk => by rw [List.length_take]; omega
 have HLN := hide hlen
 have HLL := hide hl0
 clear hD hok hl hN hv0 hdj hbW harea hlen hl0
 have HFull := hide hfull; clear hfull
 go_enter Tryz.func117,Tryz.ntmps117
 go_wp2_with fail
 go_loopw [1,8,9,10] (fun bv i _ _ wr => ∃ k : Nat,l0.length <= k /\ k <= N /\ i = .int .i64 (k : Int) /\ OwnL wr 0 bv ((reads st o N).take k) /\ Loc (OB (.slice a0 l0.length c0)) (OB bv) W wr /\ (∀ j,j < k -> ¬ countOf (st.at (o + j)) < 255)) (fun _ i _ _ _ => N - (intOf i).toNat)
 case atStart => exact ⟨l0.length,Nat.le_refl _,hln,rfl,by rw [<- HLL.out]; exact HV.out,Loc.refl _ _,HFull.out⟩
 case round =>
   obtain ⟨k,hk0,hk,rfl,hown,hloc,hall⟩ := hrel
   obtain ⟨hc0,hc1,hc2,hd⟩ := HAr.out _ _ hloc
   have HO := hide hown
   have HLoc := hide hloc
   have HD := hide hd
   have HALL := hide hall
   clear hown hloc hd hall
   by_cases hlt : k < N
   · have hz : (k : Int) < (N : Int) := by omega
     have hw : wrap64 ((o : Int) + (k : Int)) = ((o + k : Nat) : Int) := by unfold wrap64; omega
     have hw2 : IntKind.i64.wrap ((k : Int) + 1) = (k : Int) + 1 := by rw [IntKind.wrap_i64]; omega
     have h256 := HS.out k hlt
     have KE := hide (fun u => ends_any (st.at (o + k)) u h256)
     have HT := hide (HAT.out k hlt)
     have hkl := HTL.out k hk
     have KR := hide (HR.out k wr hlt HD.out)
     generalize (reads st o N).take k = pre at *
     generalize hnx : (reads st o N).take (k + 1) = nxt at *
     have HTE : Hid (∀ m,m = k -> (reads st o N).take (m + 1) = nxt) := fun m hm => by rw [hm]; exact hnx
     clear hnx
     generalize hat : st.at (o + k) = t at *
     have HAT2 := hide hat
     clear hat
     subst hkl
     go_wp2_with fail
     refine KR.out.mono ?_
     rintro e w1 ⟨rfl,hb⟩
     have HO1 := hide (HO.out.below hb)
     have HL1 := hide (HLoc.out.trans (Loc.of_below _ hb))
     clear hb
     go_wp2_with (at_builtin; refine wpList_append_lies _ rfl _ _ 46 rfl 0 9 i0 (.string ⟨#[]⟩) 1 16 Tryz.underlying46 HI.out.1 HI.out.2.1 HI.out.2.2.1 HI.out.2.2.2 rfl (by decide) _ _ _ rfl (World.ownsRow.alloc HO1.out _) ⟨w1.heap.size,0,none⟩ 1 1 [.string t] rfl rfl ?c1 ?c2 (by decide) ?c3 ?c4 (Nat.zero_le _) (w1.heap.size + 1) (by simp) ?_)
     case c1 =>
       intro j u hj
       match j,hj with
       | 0,hj => simp at hj; subst hj; simp [Addr.add,go_sem]
     case c2 => first | rfl | (intro u hu; simp at hu; subst hu; rfl)
     case c3 => unfold maxLen; omega
     case c4 => omega
     · intro g cap w2 hown2 hgrow2 hat2 _
       rw [map_snoc] at hown2
       have HO2 : Hid (OwnL w2 0 (.slice (some ⟨g,0,none⟩) (pre.length + 1) cap) (pre ++ [t])) := by
         unfold Hid OwnL; rw [List.length_append]; exact hown2
       have HL2 := hide (HL1.out.app (n := pre.length + 1) (c := cap) hgrow2 hat2)
       clear hown2 hgrow2 hat2
       by_cases hc : countOf t < 255
       · have hdc : decide (countOf t < 255) = true := decide_eq_true hc
         rw [hdc] at KE
         go_wp2_with fail
         refine (KE.out _).mono ?_
         rintro e w3 ⟨rfl,rfl⟩
         go_wp2
         go_ret2
         refine ⟨_,rfl,?_,HL0.out.trans HL2.out⟩
         have hU := upTo_at (reads st o N) pre.length (by rw [HLN.out]; exact hlt) (fun j hj => by rw [reads_at]; exact HALL.out j hj) (by rw [reads_at,HAT2.out]; exact hc)
         rw [hU,HTE.out _ rfl,HT.out]
         exact HO2.out
       · have hdc : decide (countOf t < 255) = false := decide_eq_false hc
         rw [hdc] at KE
         go_wp2_with fail
         refine (KE.out _).mono ?_
         rintro e w3 ⟨rfl,rfl⟩
         go_wp2
         go_roundw
         case rel => exact ⟨pre.length + 1,by omega,hlt,by go_num,by rw [HTE.out _ rfl,HT.out]; exact HO2.out,HL2.out,fun j hj => by
           by_cases e : j = pre.length
           · subst e; rw [HAT2.out]; exact hc
           · exact HALL.out j (by omega)⟩
         case measure => simp [intOf]; omega
   · have hkN : k = N := by omega
     subst hkN
     obtain ⟨a1,c1,rfl, -⟩ := HO.out.strs
     have hU : (reads st o k).take k = upTo (reads st o k) := by
       rw [upTo_all _ (fun j hj => by rw [reads_at]; exact HALL.out j (by rw [HLN.out] at hj; exact hj)),List.take_of_length_le (by rw [HLN.out]; exact Nat.le_refl _)]
     have hle := HTL.out k (Nat.le_refl _)
     have hO2 := HO.out
     have hL2 := HLoc.out
     rw [hle] at hO2 hL2 ⊢
     rw [hU] at hO2
     have HO3 := hide hO2
     have HL3 := hide hL2
     clear hle hO2 hL2 hU HO HLoc
     go_wp2
     go_ret2
     exact ⟨_,rfl,HO3.out,HL0.out.trans HL3.out⟩
set_option maxRecDepth 10000 in
set_option maxHeartbeats 2000000 in
theorem readOn_all (q o N : Nat) (v0 : Value) (l0 : List ByteArray) (st : St) (F : Nat -> Prop) (w : World) (hD : DAt w q st F) (hok : st.Ok) (hl : st.loose.length <= 10000) (hN : o + N <= st.sure.length) (h0 : st.left ≠ 0)
   (hv0 : OwnL w 0 v0 l0) (hl0 : l0 = (reads st o N).take l0.length) (hln : l0.length <= N) (hdj : ∀ k,F k -> ¬ OB v0 k) :
   Calls Tryz.prog 117 #[.agg #[.pointer (some ⟨q,0,none⟩),.int .i64 (o : Int),.int .i64 (N : Int)],v0,.func (.func 121) #[] #[]] w fun e w' => ∃ bv,e = .returned (.tuple #[bv,.int .i64 0]) /\ OwnL w' 0 bv (reads st o N) /\ Loc (OB v0) (OB bv) w w' := by
 have hfew := hok.few
 obtain ⟨i0,hi,hz0,hz1,hz2⟩ := info_parts (P := Tryz.prog) (e := 9) (z := .string ⟨#[]⟩) (size := 1) (bytes := 16) (by kernel_rfl)
 have HI := hide (And.intro hi (And.intro hz0 (And.intro hz1 hz2)))
 clear hi hz0 hz1 hz2
 obtain ⟨W,hW⟩ : ∃ W,w.alloc (.cells #[.pointer (some ⟨q,0,none⟩),.int .i64 (o : Int),.int .i64 (N : Int)] 163) = W := ⟨_,rfl⟩
 have hbW : Below w.heap.size w W := by rw [<- hW]; exact (Below.refl _ _).alloc (Nat.le_refl _) _
 have hszW : W.heap.size = w.heap.size + 1 := by rw [<- hW]; simp
 have harea : W.heap[w.heap.size]? = some (.cells #[.pointer (some ⟨q,0,none⟩),.int .i64 (o : Int),.int .i64 (N : Int)] 163 (0,0)) := by rw [<- hW]; exact World.alloc_heap_new w _
 have HL0 := hide (Loc.of_below (OB v0) hbW)
 have HAr : Hid (∀ bv u,Loc (OB v0) (OB bv) W u -> u.cell? ⟨w.heap.size,0,none⟩ = some (.pointer (some ⟨q,0,none⟩)) /\ u.cell? ⟨w.heap.size,1,none⟩ = some (.int .i64 (o : Int)) /\ u.cell? ⟨w.heap.size,2,none⟩ = some (.int .i64 (N : Int)) /\ DAt u q st F) := fun bv u hloc => by
   have hb := (hloc.block w.heap.size (by omega) (fun hh => by have := own_lt0 hv0 hh; omega)).trans harea
   refine ⟨by simp [World.cell?,hb],by simp [World.cell?,hb],by simp [World.cell?,hb],con.same (con.below hD hbW) (fun k hk => hloc.block k (by have := con.lt hD k hk; omega) (hdj k hk))⟩
 have HV := hide (hv0.below hbW)
 obtain ⟨a0,c0,hform, -⟩ := hv0.strs
 subst hform
 have hN4 : N <= 4096 := by omega
 have ho4 : o <= 4096 := by omega
 have HR : Hid (∀ k u,k < N -> DAt u q st F -> Calls Tryz.prog 112 #[.pointer (some ⟨q,0,none⟩),.int .i64 ((o + k : Nat) : Int)] u fun e v => e = .returned (.tuple #[.string (st.at (o + k)),.int .i64 0]) /\ Below u.heap.size u v) := fun k u hk hd => by
   have := con.read q st F ((o + k : Nat) : Int) u hd hok hl (by omega)
   rw [read_in (o + k) (by omega) h0] at this
   exact this
 have HS : Hid (∀ k,k < N -> (st.at (o + k)).size = 256) := fun k hk => at_size hok _ (by omega)
 have hlen := reads_length st o N
 have HAT : Hid (∀ k,k < N -> (reads st o N).take (k + 1) = (reads st o N).take k ++ [st.at (o + k)]) := fun k hk => by rw [take_snoc (by omega),reads_at]
 have HTL : Hid (∀ k,k <= N -> ((reads st o N).take k).length = k) := fun k hk => by rw [List.length_take]; omega
 have HLN := hide hlen
 have HLL := hide hl0
 clear hD hok hl hN hv0 hdj hbW harea hlen hl0
 
 go_enter Tryz.func117,Tryz.ntmps117
 go_wp2_with fail
 go_loopw [1,8,9,10] (fun bv i _ _ wr => ∃ k : Nat,l0.length <= k /\ k <= N /\ i = .int .i64 (k : Int) /\ OwnL wr 0 bv ((reads st o N).take k) /\ Loc (OB (.slice a0 l0.length c0)) (OB bv) W wr) (fun _ i _ _ _ => N - (intOf i).toNat)
 case atStart => exact ⟨l0.length,Nat.le_refl _,hln,rfl,by rw [<- HLL.out]; exact HV.out,Loc.refl _ _⟩
 case round =>
   obtain ⟨k,hk0,hk,rfl,hown,hloc⟩ := hrel
   obtain ⟨hc0,hc1,hc2,hd⟩ := HAr.out _ _ hloc
   have HO := hide hown
   have HLoc := hide hloc
   have HD := hide hd
   have HALL := hide trivial
   clear hown hloc hd
   by_cases hlt : k < N
   · have hz : (k : Int) < (N : Int) := by omega
     have hw : wrap64 ((o : Int) + (k : Int)) = ((o + k : Nat) : Int) := by unfold wrap64; omega
     have hw2 : IntKind.i64.wrap ((k : Int) + 1) = (k : Int) + 1 := by rw [IntKind.wrap_i64]; omega
     have h256 := HS.out k hlt
     have KE := hide (fun u => never_any (st.at (o + k)) u)
     have HT := hide (HAT.out k hlt)
     have hkl := HTL.out k hk
     have KR := hide (HR.out k wr hlt HD.out)
     generalize (reads st o N).take k = pre at *
     generalize hnx : (reads st o N).take (k + 1) = nxt at *
     have HTE : Hid (∀ m,m = k -> (reads st o N).take (m + 1) = nxt) := fun m hm => by rw [hm]; exact hnx
     clear hnx
     generalize hat : st.at (o + k) = t at *
     have HAT2 := hide hat
     clear hat
     subst hkl
     go_wp2_with fail
     refine KR.out.mono ?_
     rintro e w1 ⟨rfl,hb⟩
     have HO1 := hide (HO.out.below hb)
     have HL1 := hide (HLoc.out.trans (Loc.of_below _ hb))
     clear hb
     go_wp2_with (at_builtin; refine wpList_append_lies _ rfl _ _ 46 rfl 0 9 i0 (.string ⟨#[]⟩) 1 16 Tryz.underlying46 HI.out.1 HI.out.2.1 HI.out.2.2.1 HI.out.2.2.2 rfl (by decide) _ _ _ rfl (World.ownsRow.alloc HO1.out _) ⟨w1.heap.size,0,none⟩ 1 1 [.string t] rfl rfl ?c1 ?c2 (by decide) ?c3 ?c4 (Nat.zero_le _) (w1.heap.size + 1) (by simp) ?_)
     case c1 =>
       intro j u hj
       match j,hj with
       | 0,hj => simp at hj; subst hj; simp [Addr.add,go_sem]
     case c2 => first | rfl | (intro u hu; simp at hu; subst hu; rfl)
     case c3 => unfold maxLen; omega
     case c4 => omega
     · intro g cap w2 hown2 hgrow2 hat2 _
       rw [map_snoc] at hown2
       have HO2 : Hid (OwnL w2 0 (.slice (some ⟨g,0,none⟩) (pre.length + 1) cap) (pre ++ [t])) := by
         unfold Hid OwnL; rw [List.length_append]; exact hown2
       have HL2 := hide (HL1.out.app (n := pre.length + 1) (c := cap) hgrow2 hat2)
       clear hown2 hgrow2 hat2
       go_wp2_with fail
       refine (KE.out _).mono ?_
       rintro e w3 ⟨rfl,rfl⟩
       go_wp2
       go_roundw
       case rel => exact ⟨pre.length + 1,by omega,hlt,by go_num,by rw [HTE.out _ rfl,HT.out]; exact HO2.out,HL2.out⟩
       case measure => simp [intOf]; omega
   · have hkN : k = N := by omega
     subst hkN
     obtain ⟨a1,c1,rfl, -⟩ := HO.out.strs
     have hU : (reads st o k).take k = reads st o k := List.take_of_length_le (by rw [HLN.out]; exact Nat.le_refl _)
     have hle := HTL.out k (Nat.le_refl _)
     have hO2 := HO.out
     have hL2 := HLoc.out
     rw [hle] at hO2 hL2 ⊢
     rw [hU] at hO2
     have HO3 := hide hO2
     have HL3 := hide hL2
     clear hle hO2 hL2 hU HO HLoc
     go_wp2
     go_ret2
     exact ⟨_,rfl,HO3.out,HL0.out.trans HL3.out⟩
end Go.Proofs.YtchhojkhfdkhfaaGreatDoor
namespace Go.Proofs.YtchhojkhfdkhfaaGreatDoor
open Go Go.RowKit Frm Go.Shelf
attribute [local go_sem] Oper.semAt_some
set_option maxRecDepth 100000 in
set_option maxHeartbeats 2000000 in
theorem diff1_66_66 (n : Nat) (_hn : 1 <= n) (l Ba Bn Bw N pw0 pn0 : Nat) (K : Nat -> Prop) (a b : Nat -> ByteArray) (J Jx : List (Nat × ByteArray) -> World -> Prop) (W : World) (hN : N <= 4096) (hJ : AbidesFrom W.heap.size J)
   (hY : ∀ pre x W1,J pre W1 -> pre.length < (df a b N).length -> YieldAt Fence.wide (n - 1) Tryz.prog l (encD x) W1 fun e W' =>
     (e = .returned (.bool true) /\ J (pre ++ [x]) W' /\ (W1.heap.size <= W'.heap.size /\ Kpt K W1 W')) \/ (e = .returned (.bool false) /\ Jx (pre ++ [x]) W'))
   (hK : ∀ k,K k -> k < W.heap.size) (hKn : K Bn) (hKw : K Bw)
   (hA : W.cell? ⟨Ba,2,none⟩ = some (.int .i64 (N : Int))) (hBn : W.cell? ⟨Bn,0,none⟩ = some (.func (.func 129) #[] #[.pointer (some ⟨pn0,0,none⟩)])) (hBw : W.cell? ⟨Bw,0,none⟩ = some (.func (.func 129) #[] #[.pointer (some ⟨pw0,0,none⟩)]))
   (hnow : ∀ u i,Kpt K W u -> i < N -> Calls Tryz.prog 129 #[.int .i64 (i : Int),.pointer (some ⟨pn0,0,none⟩)] u fun e u' => e = .returned (.string (b i)) /\ Below u.heap.size u u')
   (hwas : ∀ u i,Kpt K W u -> i < N -> Calls Tryz.prog 129 #[.int .i64 (i : Int),.pointer (some ⟨pw0,0,none⟩)] u fun e u' => e = .returned (.string (a i)) /\ Below u.heap.size u u')
   (h0 : J [] W) :
   CallsIn Fence.wide n Tryz.prog 172 #[.func (.yield l) #[] #[],.pointer (some ⟨Ba,0,none⟩),.pointer (some ⟨Bn,0,none⟩),.pointer (some ⟨Bw,0,none⟩)] W fun e W' => (∃ v,e = .returned v) /\
     ((∃ ys,ys = df a b N /\ J ys W') \/ (∃ pre,pre <+: df a b N /\ Jx pre W')) := by
 refine callsIn_of_wp Tryz.func172 rfl trivial ?_ rfl
 simp only [Tryz.ntmps172,List.size_toArray,List.length_cons,List.length_nil,Nat.reduceAdd,Nat.reduceSub,Array.replicate_succ,Array.replicate_zero,List.push_toArray,List.append_toArray,List.nil_append,List.cons_append]
 gi_wp2
 gi_loopw [5,6,9] (fun _ _ c wr => ∃ k : Nat,k <= N /\ c = .int .i64 (k : Int) /\ J (df a b k) wr /\ W.heap.size <= wr.heap.size /\ Kpt K W wr) (fun _ _ c _ => N - (intOf c).toNat)
 case atStart => exact ⟨0,Nat.zero_le _,rfl,h0,Nat.le_refl _,fun _ _ => rfl⟩
 case round =>
   obtain ⟨k,hk,rfl,hJk,hsz,hkp⟩ := hrel
   have HJk := hide hJk
   have HJ := hide hJ
   have HY := hide hY
   have HKP := hide hkp
   have HNW := hide hnow
   have HWS := hide hwas
   have HN := hide hN
   have HK := hide hK
   have HA := hide hA
   have HBn := hide hBn
   have HBw := hide hBw
   have hcn := hkp.cell hKn hBn
   clear hJk hJ hY hkp hnow hwas h0 hN hK hA hBn hBw
   by_cases hlt : k < N
   · have hz : (k : Int) < (N : Int) := by omega
     have hkN : k <= 4096 := by have := HN.out; omega
     have hw : IntKind.i64.wrap ((k : Int) + 1) = (k : Int) + 1 := by rw [IntKind.wrap_i64]; omega
     by_cases hab : a k = b k
     · have HD : Hid (df a b (k + 1) = df a b k) := by show _ = _; rw [df_succ,if_pos hab,List.append_nil]
       gi_wp2_with (fail)
       refine ⟨trivial,(callsIn_wide.2 (HNW.out _ k HKP.out hlt)).mono ?_⟩
       rintro e w1 ⟨rfl,hb1⟩
       have HKP1 := hide (HKP.out.below HK.out hsz hb1)
       have hsz1 := Nat.le_trans hsz hb1.size
       have hcw := HKP1.out.cell hKw HBw.out
       have HJ1 := hide (HJ.out _ _ _ none HJk.out (grown_of_below hb1) (fun r e => by cases e))
       clear hb1
       gi_wp2_with (fail)
       refine ⟨trivial,(callsIn_wide.2 (HWS.out _ k HKP1.out hlt)).mono ?_⟩
       rintro e w2 ⟨rfl,hb2⟩
       have HKP2 := hide (HKP1.out.below HK.out hsz1 hb2)
       have hsz2 := Nat.le_trans hsz1 hb2.size
       have hJ2 := HJ.out _ _ _ none HJ1.out (grown_of_below hb2) (fun r e => by cases e)
       clear hb2
       rw [hab]
       have HJ2 := hide hJ2
       clear hJ2
       gi_wp2_with (refine ⟨fun _ h => (by cases h),?_⟩)
       go_roundw
       case rel => exact ⟨k + 1,hlt,by go_num,by rw [HD.out]; exact HJ2.out,hsz2,HKP2.out⟩
       case measure => simp [intOf]; omega
     · gi_wp2_with (fail)
       refine ⟨trivial,(callsIn_wide.2 (HNW.out _ k HKP.out hlt)).mono ?_⟩
       rintro e w1 ⟨rfl,hb1⟩
       have HKP1 := hide (HKP.out.below HK.out hsz hb1)
       have hsz1 := Nat.le_trans hsz hb1.size
       have hcw := HKP1.out.cell hKw HBw.out
       have HJ1 := hide (HJ.out _ _ _ none HJk.out (grown_of_below hb1) (fun r e => by cases e))
       clear hb1
       gi_wp2_with (fail)
       refine ⟨trivial,(callsIn_wide.2 (HWS.out _ k HKP1.out hlt)).mono ?_⟩
       rintro e w2 ⟨rfl,hb2⟩
       have HKP2 := hide (HKP1.out.below HK.out hsz1 hb2)
       have hsz2 := Nat.le_trans hsz1 hb2.size
       have hJ2 := HJ.out _ _ _ none HJ1.out (grown_of_below hb2) (fun r e => by cases e)
       clear hb2
       have hne : ((b k).toList == (a k).toList) = false := toList_ne (fun e => hab e.symm)
       have hDs : df a b (k + 1) = df a b k ++ [(k,b k)] := by rw [df_succ,if_neg hab]
       have hpre : df a b k ++ [(k,b k)] <+: df a b N := by rw [<- hDs,show N = k + 1 + (N - (k + 1)) from by omega]; exact df_prefix a b (k + 1) _
       have hlen : (df a b k).length < (df a b N).length := by
         have := hpre.length_le
         rw [List.length_append] at this
         simp at this
         omega
       obtain ⟨fn,tmps,assign,body,hy0,hR⟩ := HY.out (df a b k) (k,b k) w2 hJ2 hlen
       have hy : (Instr.yield l #[.int .i64 (k : Int),.string (b k)]).run Tryz.prog w2 = .ok (.round l fn tmps assign body) w2 := hy0
       have HD := hide hDs
       have HP := hide hpre
       clear hy0 hDs hpre hlen hJ2
       gi_wp2
       refine hR.mono ?_
       rintro e W3 (⟨rfl,hJ3,hs3,hk3⟩ | ⟨rfl,hJx3⟩)
       · have HJ3 := hide hJ3
         have HKP3 := hide (HKP2.out.trans hk3)
         clear hJ3 hk3
         gi_wp2
         go_roundw
         case rel => exact ⟨k + 1,hlt,by go_num,by rw [HD.out]; exact HJ3.out,Nat.le_trans hsz2 hs3,HKP3.out⟩
         case measure => simp [intOf]; omega
       · have HJx3 := hide hJx3
         clear hJx3
         gi_wp2
         refine bodyPost_ret (results_none rfl _ _ _) rfl ?_
         exact ⟨⟨_,rfl⟩,.inr ⟨_,HP.out,HJx3.out⟩⟩
   · have hkN : k = N := by omega
     subst hkN
     gi_wp2
     go_end0
     exact ⟨⟨_,rfl⟩,.inl ⟨_,rfl,HJk.out⟩⟩
theorem diff_66_66 (n : Nat) (hn : 1 <= n) (Ba Bn Bw N pw0 pn0 : Nat) (K : Nat -> Prop) (a b : Nat -> ByteArray) (w : World) (hN : N <= 4096)
   (hK : ∀ k,K k -> k < w.heap.size) (hKa : K Ba) (hKn : K Bn) (hKw : K Bw)
   (hA : w.cell? ⟨Ba,2,none⟩ = some (.int .i64 (N : Int))) (hBn : w.cell? ⟨Bn,0,none⟩ = some (.func (.func 129) #[] #[.pointer (some ⟨pn0,0,none⟩)])) (hBw : w.cell? ⟨Bw,0,none⟩ = some (.func (.func 129) #[] #[.pointer (some ⟨pw0,0,none⟩)]))
   (hnow : ∀ u i,Kpt K w u -> i < N -> Calls Tryz.prog 129 #[.int .i64 (i : Int),.pointer (some ⟨pn0,0,none⟩)] u fun e u' => e = .returned (.string (b i)) /\ Below u.heap.size u u')
   (hwas : ∀ u i,Kpt K w u -> i < N -> Calls Tryz.prog 129 #[.int .i64 (i : Int),.pointer (some ⟨pw0,0,none⟩)] u fun e u' => e = .returned (.string (a i)) /\ Below u.heap.size u u') :
   SeqStopsK Fence.wide n Tryz.prog 172 #[.pointer (some ⟨Ba,0,none⟩),.pointer (some ⟨Bn,0,none⟩),.pointer (some ⟨Bw,0,none⟩)] encD (fun A B => A.heap.size <= B.heap.size /\ Kpt K A B) (fun ys => ys = df a b N) (fun pre => pre <+: df a b N) (df a b N).length w := fun l J Jx W hW hJ _ hY h0 =>
 have hk : Kpt K w W := fun k hk => hW.block k (hK k hk)
 diff1_66_66 n hn l Ba Bn Bw N pw0 pn0 K a b J Jx W hN hJ hY (fun k h => Nat.lt_of_lt_of_le (hK k h) hW.size) hKn hKw (hk.cell hKa hA) (hk.cell hKn hBn) (hk.cell hKw hBw) (fun u i hu hi => hnow u i (hk.trans hu) hi) (fun u i hu hi => hwas u i (hk.trans hu) hi) h0
attribute [local go_sem] Oper.semAt_some
set_option maxRecDepth 100000 in
set_option maxHeartbeats 4000000 in
theorem lay_66_66 (q o N pw0 pn0 : Nat) (a b : Nat -> ByteArray) (st : St) (F K0 : Nat -> Prop) (w : World) (hD : DAt w q st F) (hok : st.Ok) (hlo : st.loose.length + N <= 10000) (hN : N <= 4096) (ho : o <= 4096) (hK0 : ∀ k,K0 k -> k < w.heap.size /\ ¬ F k)
   (hnow : ∀ u i,Kpt K0 w u -> i < N -> Calls Tryz.prog 129 #[.int .i64 (i : Int),.pointer (some ⟨pn0,0,none⟩)] u fun e u' => e = .returned (.string (b i)) /\ Below u.heap.size u u')
   (hwas : ∀ u i,Kpt K0 w u -> i < N -> Calls Tryz.prog 129 #[.int .i64 (i : Int),.pointer (some ⟨pw0,0,none⟩)] u fun e u' => e = .returned (.string (a i)) /\ Below u.heap.size u u') :
   Calls Tryz.prog 159 #[.agg #[.pointer (some ⟨q,0,none⟩),.int .i64 (o : Int),.int .i64 (N : Int)],.func (.func 129) #[] #[.pointer (some ⟨pw0,0,none⟩)],.func (.func 129) #[] #[.pointer (some ⟨pn0,0,none⟩)]] w (LaidOut q o N a b st F w) := by
 have hF : ∀ k,F k -> k < w.heap.size := con.lt hD
 have hK1 : ∀ k,K0 k -> k < w.heap.size := fun k hk => (hK0 k hk).1
 obtain ⟨W0,hW0⟩ : ∃ W0,(((((((w.alloc (.cells #[.pointer (some ⟨q,0,none⟩),.int .i64 (o : Int),.int .i64 (N : Int)] 163)).alloc (.cells #[.bool false] 4)).alloc (.cells #[.int .i64 0] 29)).alloc (.cells #[.bool false] 4)).alloc (.cells #[.pointer (some ⟨q,0,none⟩),.int .i64 (o : Int),.int .i64 (N : Int)] 163)).alloc (.cells #[.func (.func 129) #[] #[.pointer (some ⟨pw0,0,none⟩)]] 165)).alloc (.cells #[.func (.func 129) #[] #[.pointer (some ⟨pn0,0,none⟩)]] 165)) = W0 := ⟨_,rfl⟩
 obtain ⟨hI0,hsz0,hA0,hNow0,hWas0,hkp0⟩ := lay_start q o N st F K0 w hD hK0 (.func (.func 129) #[] #[.pointer (some ⟨pw0,0,none⟩)]) (.func (.func 129) #[] #[.pointer (some ⟨pn0,0,none⟩)]) W0 hW0
 have HIT := hide (diff_66_66 5 (by decide) (w.heap.size + 1 + 1 + 1 + 1) (w.heap.size + 1 + 1 + 1 + 1 + 1 + 1) (w.heap.size + 1 + 1 + 1 + 1 + 1) N pw0 pn0 (KL w.heap.size K0) a b W0 hN (fun k hk => by rw [hsz0]; exact KL.lt hK1 k hk) (Or.inr (Or.inl rfl)) (Or.inr (Or.inr (Or.inr rfl))) (Or.inr (Or.inr (Or.inl rfl))) hA0 hNow0 hWas0
   (fun u i hu hi => hnow u i (fun k hk => (hu k (Or.inl hk)).trans (hkp0 k hk)) hi) (fun u i hu hi => hwas u i (fun k hk => (hu k (Or.inl hk)).trans (hkp0 k hk)) hi))
 have HNW := hide hnow
 have HI0 := hide hI0
 clear hI0 hnow hwas
 refine (callsIn_wide (n := 6)).1 ?_
 refine callsIn_of_wp_marks Tryz.func159 rfl trivial ?_ rfl
 simp only [Tryz.ntmps159,List.size_toArray,List.length_cons,List.length_nil,Nat.reduceAdd,Nat.reduceSub,Array.replicate_succ,Array.replicate_zero,List.push_toArray,List.append_toArray,List.nil_append,List.cons_append]
 gi_wp2_with (refine ⟨trivial,?_⟩; gi_at_call 166; refine (differing_in _ q (o : Int) (N : Int) 129 129 _ _ _).mono ?_; rintro e w' ⟨rfl,rfl⟩)

 clear hW0 hA0 hNow0 hWas0 hkp0
 refine wpIn_rangeFunc_ownH rfl (by decide) (gf := 172) (lb := #[.pointer (some ⟨w.heap.size + 1 + 1 + 1 + 1,0,none⟩),.pointer (some ⟨w.heap.size + 1 + 1 + 1 + 1 + 1 + 1,0,none⟩),.pointer (some ⟨w.heap.size + 1 + 1 + 1 + 1 + 1,0,none⟩)]) rfl trivial (enters_of Tryz.func172 (by kernel_rfl) rfl)
   HIT.out (fun h k => ⟨Nat.le_trans h.1 k.1,h.2.trans k.2⟩) (fun W l ob ob' hl hh _ _ => kp_put hK1 (by rw [<- hsz0]; exact hl)) (Below.refl _ _) (fun _ => rfl)
   (LIn w q o N st F K0) (LOut w q o N st F K0) (LIn.own hK1 (by rw [hsz0]; exact Nat.le_refl _)) (LOut.own hK1 (by rw [hsz0]; exact Nat.le_refl _))
   HI0.out
   (fun x a' _ => a' = { tmps := #[.agg #[.pointer (some ⟨q,0,none⟩),.int .i64 (o : Int),.int .i64 (N : Int)],.func (.func 129) #[] #[.pointer (some ⟨pw0,0,none⟩)],.func (.func 129) #[] #[.pointer (some ⟨pn0,0,none⟩)],.pointer (some ⟨w.heap.size,0,none⟩),undef,undef,.pointer (some ⟨w.heap.size + 1,0,none⟩),.pointer (some ⟨w.heap.size + 1 + 1,0,none⟩),.pointer (some ⟨w.heap.size + 1 + 1 + 1,0,none⟩),.int .i64 (x.1 : Int),.string x.2,undef,.agg #[.pointer (some ⟨q,0,none⟩),.int .i64 (o : Int),.int .i64 (N : Int)],.func (.func 129) #[] #[.pointer (some ⟨pw0,0,none⟩)],.func (.func 129) #[] #[.pointer (some ⟨pn0,0,none⟩)],.func (.func 172) #[] #[.pointer (some ⟨w.heap.size + 1 + 1 + 1 + 1,0,none⟩),.pointer (some ⟨w.heap.size + 1 + 1 + 1 + 1 + 1 + 1,0,none⟩),.pointer (some ⟨w.heap.size + 1 + 1 + 1 + 1 + 1,0,none⟩)],.int .i64 (x.1 : Int),.string x.2,undef,undef,undef,undef,undef,undef,undef,undef,undef,undef,undef,undef],defers := [] }) (fun x a' _ X Y row hs hg hr => hs)
   ?assign ?body ?done ?stop
 case assign =>
   rintro l pre x W K hi hK
   dsimp only [encD]
   have HK := hide hK
   have HI := hide hi
   clear hK hi
   gi_wp2
   exact HK.out _ _ (KeepsFrom.refl _ _) ⟨Nat.le_refl _,fun _ _ => rfl⟩ HI.out rfl
 case body =>
   rintro l pre x a' W hl ⟨r,hr⟩ ⟨F',hi,h0⟩ rfl hlt
   have hst := LayIn.state hi hok hlo (Nat.le_trans (Nat.le_of_lt hlt) (df_length a b N))
   have hc0 := hi.c0
   have hc1 := hi.c1
   have KW := hide (write_any q _ F' (wrap64 ((o : Int) + (x.1 : Int))) x.2 W hi.disk hst.1 hst.2)
   have HI := hide hi
   have H0 := hide h0
   have HKK := hide hK0
   have HFF := hide hF
   have HK1 := hide hK1
   clear hi h0 hst hK0 hF hK1
   by_cases he : ((pw o pre st).2.write (wrap64 ((o : Int) + (x.1 : Int))) x.2).1 = 0
   · rw [he] at KW
     have HE := hide he
     clear he
     gi_wp2_with (fail)
     refine ⟨trivial,CallsIn.mono (F := Fence.wide) (callsIn_wide.2 KW.out) ?_⟩
     rintro e W1 ⟨rfl,F2,hd,hloc⟩
     have h1 := HI.out.write HFF.out HKK.out H0.out hd hloc
     have hfw := h1.w.frozen
     have hcw := h1.w.cell
     have H1 := hide h1
     have HL := hide hloc
     clear h1 hd hloc
     gi_wp2
     exact lay_go HI.out H1.out HL.out HFF.out HKK.out H0.out HE.out
   · have hez : ¬ (((((pw o pre st).2.write (wrap64 ((o : Int) + (x.1 : Int))) x.2).1 : Nat) : Int) = 0) := by omega
     have HE := hide he
     clear he
     generalize hen : ((pw o pre st).2.write (wrap64 ((o : Int) + (x.1 : Int))) x.2).1 = en at *
     have HEN := hide hen
     clear hen
     gi_wp2_with (fail)
     refine ⟨trivial,CallsIn.mono (F := Fence.wide) (callsIn_wide.2 KW.out) ?_⟩
     rintro e W1 ⟨rfl,F2,hd,hloc⟩
     have h1 := HI.out.write HFF.out HKK.out H0.out hd hloc
     have hfb := h1.b.frozen
     have hcb := h1.b.cell
     have hfe := h1.e.frozen
     have hce := h1.e.cell
     have H1 := hide h1
     have HL := hide hloc
     clear h1 hd hloc
     gi_wp2
     exact lay_no HI.out H1.out HL.out HFF.out HK1.out H0.out (HEN.out.symm ▸ HE.out) HEN.out
 case done =>
   rintro D ys W hD rfl ⟨F',hi,h0⟩ hK
   have hfb := hi.b.frozen
   have hcb := hi.b.cell
   have hfe := hi.e.frozen
   have hce := hi.e.cell
   have hcw := hi.w.cell
   have HI := hide hi
   have H0 := hide h0
   have HK := hide hK
   clear hi h0 hK
   gi_wp2
   obtain ⟨hK',k1,k2,hl⟩ := lay_done a b ho hN HI.out hF hK1 H0.out HK.out (by omega)
   refine ⟨by simp,.inl ⟨_,_,rfl,run_takeDeferred hK',?_⟩⟩
   refine ⟨.tuple #[.bool (!(df a b N).isEmpty),.int .i64 0],?_,hl⟩
   simp [results,Tryz.f159,go_sem,k1,k2]
 case stop =>
   rintro D c pre W hD hpre ⟨rfl,h0,F',vW,hi⟩ hK
   obtain ⟨hK',k1,k2,hl⟩ := lay_stop a b ho hN hi hK1 h0 hpre hK (by omega)
   gi_wp2
   refine ⟨by simp,.inl ⟨_,_,rfl,run_takeDeferred hK',?_⟩⟩
   refine ⟨.tuple #[.bool false,.int .i64 (((pw o pre st).1 : Nat) : Int)],?_,hl⟩
   simp [results,Tryz.f159,go_sem,k1,k2]
end Go.Proofs.YtchhojkhfdkhfaaGreatDoor
namespace Go.Proofs.YtchhojkhfdkhfaaGreatDoor
open Go Go.RowKit Frm
def fulls (l : List ByteArray) : Bool := l.all fun b => decide (¬ countOf b < 255)
theorem fulls_snoc (l : List ByteArray) (b : ByteArray) : fulls (l ++ [b]) = (fulls l && decide (¬ countOf b < 255)) := by unfold fulls; simp
theorem streamOf_snoc : ∀ (l : List ByteArray) (b : ByteArray),streamOf (l ++ [b]) = if fulls l = true then streamOf l ++ b.extract 0 (countOf b) else streamOf l
 | [],b => by
   show (if countOf b < 255 then _ else _ ++ noText) = noText ++ _
   have e : b.extract 0 (countOf b) ++ noText = b.extract 0 (countOf b) := Frm.append_nil _
   rw [e,show noText ++ b.extract 0 (countOf b) = b.extract 0 (countOf b) from Frm.nil_append _]
   split <;> rfl
 | c :: l,b => by
   have ih := streamOf_snoc l b
   show (if countOf c < 255 then _ else _ ++ streamOf (l ++ [b])) = _
   by_cases h : countOf c < 255
   · have e : fulls (c :: l) = false := by
       show (decide (¬ countOf c < 255) && fulls l) = false
       rw [decide_eq_false (fun hh => hh h)]; rfl
     rw [if_pos h,e]
     show _ = streamOf (c :: l)
     unfold streamOf
     rw [if_pos h]
   · have e : fulls (c :: l) = fulls l := by
       show (decide (¬ countOf c < 255) && fulls l) = _
       rw [decide_eq_true h]; rfl
     rw [if_neg h,e,ih]
     have e2 : streamOf (c :: l) = c.extract 0 (countOf c) ++ streamOf l := by
       show (if countOf c < 255 then _ else _) = _
       rw [if_neg h]
     rw [e2]
     split
     · rw [ByteArray.append_assoc]
     · rfl
theorem streamOf_size (l : List ByteArray) (h : ∀ b ∈ l,b.size = 256) : (streamOf l).size <= l.length * 255 := by
 rw [<- heads_upTo]
 have h1 := heads_size (upTo l) (fun b hb => h b (by rw [upTo_prefix] at hb; exact List.mem_of_mem_take hb))
 exact Nat.le_trans h1 (Nat.mul_le_mul_right 255 (upTo_le l))
theorem not_short (c : Nat) : (!decide (255 <= c)) = decide ((c : Int) < 255) := by
 by_cases h : c < 255
 · rw [decide_eq_false (by omega),decide_eq_true (by omega)]; rfl
 · rw [decide_eq_true (by omega),decide_eq_false (by omega)]; rfl
set_option maxRecDepth 10000 in
set_option maxHeartbeats 2000000 in
theorem rStream (p o N : Nat) (st : St) (F : Nat -> Prop) (w : World) (hD : RD w p st F) (hok : st.Ok) (hl : st.loose.length <= 100000) (hN : o + N <= st.sure.length) (h0 : st.left ≠ 0) :
   Calls Tryz.prog 93 #[.pointer (some ⟨p,0,none⟩),.int .i64 (o : Int),.int .i64 (N : Int)] w fun e w' => ∃ v,e = .returned (.tuple #[.string (streamOf (reads st o N)),v,.int .i64 0]) /\ OwnL w' w.heap.size v (reads st o N) /\ Below w.heap.size w w' := by
 have hfew := hok.few
 obtain ⟨i0,hi,hz0,hz1,hz2⟩ := info_parts (P := Tryz.prog) (e := 9) (z := .string ⟨#[]⟩) (size := 1) (bytes := 16) (by kernel_rfl)
 have HI := hide (And.intro hi (And.intro hz0 (And.intro hz1 hz2)))
 clear hi hz0 hz1 hz2
 have hN4 : N <= 4096 := by omega
 have ho4 : o <= 4096 := by omega
 have HR : Hid (∀ k u,k < N -> Below w.heap.size w u -> Calls Tryz.prog 90 #[.pointer (some ⟨p,0,none⟩),.int .i64 ((o + k : Nat) : Int)] u fun e v => e = .returned (.tuple #[.string (st.at (o + k)),.int .i64 0]) /\ v = u) := fun k u hk hb => by
   have := rd_read p st F ((o + k : Nat) : Int) u (hD.below hb) hok hl
   rw [read_in (o + k) (by omega) h0] at this
   exact this
 have HS : Hid (∀ k,k < N -> (st.at (o + k)).size = 256) := fun k hk => at_size hok _ (by omega)
 have hlen := reads_length st o N
 have HAT : Hid (∀ k,k < N -> (reads st o N).take (k + 1) = (reads st o N).take k ++ [st.at (o + k)]) := fun k hk => by rw [List.take_succ_eq_append_getElem (by omega),reads_at]
 have HTL : Hid (∀ k,k <= N -> ((reads st o N).take k).length = k) := fun k hk => by rw [List.length_take]; omega
 have HSZ : Hid (∀ k,k <= N -> (streamOf ((reads st o N).take k)).size <= 4096 * 255) := fun k hk => by
   have h1 := streamOf_size ((reads st o N).take k) (fun b hb => by
     obtain ⟨i,hi,rfl⟩ := List.getElem_of_mem (List.mem_of_mem_take hb)
     rw [reads_at]
     exact at_size hok _ (by rw [hlen] at hi; omega))
   rw [HTL.out k hk] at h1
   omega
 have HLN := hide hlen
 have HAll : Hid ((reads st o N).take N = reads st o N) := List.take_of_length_le (by rw [hlen]; exact Nat.le_refl _)
 clear hD hok hl hN hlen
 go_enter Tryz.func93,Tryz.ntmps93
 go_wp2_with fail
 go_loopw [9,10,11,12,13,14,15] (fun sv lv en i _ _ _ wr => ∃ k : Nat,k <= N /\ i = .int .i64 (k : Int) /\ sv = .string (streamOf ((reads st o N).take k)) /\ en = .bool (!fulls ((reads st o N).take k)) /\ OwnL wr w.heap.size lv ((reads st o N).take k) /\ Below w.heap.size w wr) (fun _ _ _ i _ _ _ _ => N - (intOf i).toNat)
 case atStart => exact ⟨0,Nat.zero_le _,rfl,rfl,rfl,World.ownsRow_nil _ _ _ _,Below.refl _ _⟩
 case round =>
   obtain ⟨k,hk,rfl,rfl,rfl,hown,hb⟩ := hrel
   have HO := hide hown
   have HB := hide hb
   clear hown hb
   by_cases hlt : k < N
   · have hz : (k : Int) < (N : Int) := by omega
     have hw : wrap64 ((o : Int) + (k : Int)) = ((o + k : Nat) : Int) := by unfold wrap64; omega
     have hw2 : IntKind.i64.wrap ((k : Int) + 1) = (k : Int) + 1 := by rw [IntKind.wrap_i64]; omega
     have h256 := HS.out k hlt
     have HT := hide (HAT.out k hlt)
     have hkl := HTL.out k hk
     have hsz := HSZ.out k hk
     have KR := hide (HR.out k wr hlt HB.out)
     have HSn := hide (streamOf_snoc ((reads st o N).take k) (st.at (o + k)))
     have HFn := hide (fulls_snoc ((reads st o N).take k) (st.at (o + k)))
     have hgc := count_get (st.at (o + k)) h256
     have hcl := countOf_le (st.at (o + k))
     obtain ⟨a0,c0,rfl, -⟩ := HO.out.strs
     generalize hpre : (reads st o N).take k = pre at *
     have HTE : Hid (∀ m,m = k -> (reads st o N).take (m + 1) = pre ++ [st.at (o + k)]) := fun m hm => by rw [hm]; exact HT.out
     clear HT hpre
     generalize st.at (o + k) = t at *
     subst hkl
     generalize hS : streamOf pre = S at *
     have HSS := hide hS
     clear hS
     cases hf : fulls pre with
     | true =>
       rw [hf] at HSn HFn
       have HSn2 : Hid (streamOf (pre ++ [t]) = S ++ t.extract 0 (countOf t)) := by have := HSn.out; rw [if_pos rfl] at this; exact this
       have hmx : S.size + countOf t <= maxLen := by unfold maxLen; omega
       go_wp2_with fail
       refine KR.out.mono ?_
       rintro e w1 ⟨rfl,hw1⟩
       obtain rfl := hw1.symm
       clear hw1
       go_wp2_with (at_builtin; refine wpList_append_lies _ rfl _ _ 46 rfl w.heap.size 9 i0 (.string ⟨#[]⟩) 1 16 Tryz.underlying46 HI.out.1 HI.out.2.1 HI.out.2.2.1 HI.out.2.2.2 rfl (by decide) _ _ _ rfl (World.ownsRow.alloc HO.out _) ⟨wr.heap.size,0,none⟩ 1 1 [.string t] rfl rfl ?c1 ?c2 (by decide) ?c3 ?c4 ?c5 (wr.heap.size + 1) (by simp) ?_)
       case c1 =>
         intro j u hj
         match j,hj with
         | 0,hj => simp at hj; subst hj; simp [Addr.add,go_sem]
       case c2 => first | rfl | (intro u hu; simp at hu; subst hu; rfl)
       case c3 => unfold maxLen; omega
       case c4 => omega
       case c5 => have := HB.out.size; simp; omega
       · intro g cap w2 hown2 hgrow2 _ _
         have HO2 : Hid (OwnL w2 w.heap.size (.slice (some ⟨g,0,none⟩) (pre.length + 1) cap) (pre ++ [t])) := by
           rw [map_snoc] at hown2
           unfold Hid OwnL; rw [List.length_append]; exact hown2
         have HB2 : Hid (Below w.heap.size w w2) := (HB.out.alloc HB.out.size _).grown hgrow2 (by have := HB.out.size; simp; omega) (fun k e => (World.ownsRow.lt HO.out k e).1)
         clear hown2 hgrow2
         generalize hcn : countOf t = cc at *
         have HCN := hide hcn
         clear hcn
         have hc0 : (0 : Int) <= (cc : Int) := by omega
         have hc1 : (cc : Int) <= (t.size : Int) := by omega
         have HFn2 : Hid ((!fulls (pre ++ [t])) = !(decide (255 <= cc))) := by rw [HFn.out,Bool.true_and]; exact congrArg (fun b => !b) (decide_eq_decide.2 (by omega))
         go_wp2
         go_roundw
         case rel => exact ⟨pre.length + 1,hlt,by go_num,by rw [HTE.out _ rfl,HSn2.out],by rw [HTE.out _ rfl,HFn2.out]; exact congrArg Value.bool (not_short cc).symm,by rw [HTE.out _ rfl]; exact HO2.out,HB2.out⟩
         case measure => simp [intOf]; omega
     | false =>
       rw [hf] at HSn HFn
       have HSn2 : Hid (streamOf (pre ++ [t]) = S) := by have := HSn.out; rw [if_neg (by simp)] at this; exact this
       go_wp2_with fail
       refine KR.out.mono ?_
       rintro e w1 ⟨rfl,hw1⟩
       obtain rfl := hw1.symm
       clear hw1
       go_wp2_with (at_builtin; refine wpList_append_lies _ rfl _ _ 46 rfl w.heap.size 9 i0 (.string ⟨#[]⟩) 1 16 Tryz.underlying46 HI.out.1 HI.out.2.1 HI.out.2.2.1 HI.out.2.2.2 rfl (by decide) _ _ _ rfl (World.ownsRow.alloc HO.out _) ⟨wr.heap.size,0,none⟩ 1 1 [.string t] rfl rfl ?c1 ?c2 (by decide) ?c3 ?c4 ?c5 (wr.heap.size + 1) (by simp) ?_)
       case c1 =>
         intro j u hj
         match j,hj with
         | 0,hj => simp at hj; subst hj; simp [Addr.add,go_sem]
       case c2 => first | rfl | (intro u hu; simp at hu; subst hu; rfl)
       case c3 => unfold maxLen; omega
       case c4 => omega
       case c5 => have := HB.out.size; simp; omega
       · intro g cap w2 hown2 hgrow2 _ _
         have HO2 : Hid (OwnL w2 w.heap.size (.slice (some ⟨g,0,none⟩) (pre.length + 1) cap) (pre ++ [t])) := by
           rw [map_snoc] at hown2
           unfold Hid OwnL; rw [List.length_append]; exact hown2
         have HB2 : Hid (Below w.heap.size w w2) := (HB.out.alloc HB.out.size _).grown hgrow2 (by have := HB.out.size; simp; omega) (fun k e => (World.ownsRow.lt HO.out k e).1)
         clear hown2 hgrow2
         have HFn2 : Hid ((!fulls (pre ++ [t])) = true) := by rw [HFn.out]; rfl
         go_wp2
         go_roundw
         case rel => exact ⟨pre.length + 1,hlt,by go_num,by rw [HTE.out _ rfl,HSn2.out],by rw [HTE.out _ rfl,HFn2.out],by rw [HTE.out _ rfl]; exact HO2.out,HB2.out⟩
         case measure => simp [intOf]; omega
   · have hkN : k = N := by omega
     subst hkN
     rw [HAll.out] at HO ⊢
     obtain ⟨a0,c0,rfl, -⟩ := HO.out.strs
     go_wp2
     go_ret3
     exact ⟨_,rfl,HO.out,HB.out⟩
set_option maxRecDepth 10000 in
set_option maxHeartbeats 1000000 in
theorem rStream_down (p o N : Nat) (st : St) (F : Nat -> Prop) (w : World) (hD : RD w p st F) (hok : st.Ok) (hl : st.loose.length <= 100000) (ho : o <= 4096) (h1 : 1 <= N) (h0 : st.left = 0) :
   Calls Tryz.prog 93 #[.pointer (some ⟨p,0,none⟩),.int .i64 (o : Int),.int .i64 (N : Int)] w fun e w' => e = .returned (.tuple #[.string ⟨#[]⟩,.slice none 0 0,.int .i64 50]) /\ w' = w := by
 have KR : Hid (Calls Tryz.prog 90 #[.pointer (some ⟨p,0,none⟩),.int .i64 (o : Int)] w fun e v => e = .returned (.tuple #[.string ⟨#[]⟩,.int .i64 50]) /\ v = w) := by
   have := rd_read p st F (o : Int) w hD hok hl
   rw [read_down _ h0] at this
   exact this
 have hz : (0 : Int) < (N : Int) := by omega
 have hw : wrap64 (o : Int) = (o : Int) := by unfold wrap64; omega
 clear hD hok hl
 go_enter Tryz.func93,Tryz.ntmps93
 go_wp2_with fail
 go_loopw [9,10,11,12,13,14,15] (fun sv lv en i _ _ _ wr => i = .int .i64 0 /\ wr = w) (fun _ _ _ _ _ _ _ _ => 0)
 case atStart => exact ⟨rfl,rfl⟩
 case round =>
   obtain ⟨rfl,hwr⟩ := hrel
   obtain rfl := hwr.symm
   clear hwr
   go_wp2_with fail
   refine KR.out.mono ?_
   rintro e w1 ⟨rfl,hw1⟩
   obtain rfl := hw1.symm
   go_wp2
   go_ret3
   exact ⟨rfl,rfl⟩
set_option maxRecDepth 10000 in
set_option maxHeartbeats 2000000 in
theorem rBlock_any (s : ByteArray) (k : Nat) (w : World) (hk : k <= 4096) (hs : s.size <= 281474976710656) :
   Calls Tryz.prog 95 #[.string s,.int .i64 (k : Int)] w fun e w' => e = .returned (.string (blkOf s k)) /\ Below w.heap.size w w' := by
 have hcv := fun u t => run_bytes_of_string (P := Tryz.prog) u 9 77 5 t Tryz.underlying9 Tryz.underlying77 Tryz.underlying5
 obtain ⟨i0,hi,hz0,hz1,hz2⟩ := info_parts (P := Tryz.prog) (e := 5) (z := .int .u8 0) (size := 1) (bytes := 1) (by kernel_rfl)
 have HI := hide (And.intro hi (And.intro hz0 (And.intro hz1 hz2)))
 clear hi hz0 hz1 hz2
 obtain ⟨lo,hlo⟩ : ∃ lo,lo = min (k * 255) s.size := ⟨_,rfl⟩
 obtain ⟨hi,hhi⟩ : ∃ hi,hi = min (lo + 255) s.size := ⟨_,rfl⟩
 have hz3 : wrap64 ((k : Int) * 255) = (k : Int) * 255 := by unfold wrap64; omega
 have hm1 : min ((k : Int) * 255) (s.size : Int) = (lo : Int) := by omega
 have hz4 : wrap64 ((lo : Int) + 255) = (lo : Int) + 255 := by unfold wrap64; omega
 have hm2 : min ((lo : Int) + 255) (s.size : Int) = (hi : Int) := by omega
 have hz5 : (lo : Int) <= (hi : Int) := by omega
 have hz6 : (hi : Int) <= (s.size : Int) := by omega
 have HE := hide (blk_list s k lo hi hlo hhi)
 have hsz : (s.extract lo hi).size = hi - lo := by rw [ByteArray.size_extract]; omega
 have HG := hide (fun cap h => buf_start w (s.extract lo hi) cap h)
 have h255 : hi - lo <= 255 := by omega
 clear hlo hhi
 go_enter Tryz.func95,Tryz.ntmps95
 go_wp2_with fail
 have hG := HG.out (grownCap w (hi - lo) 0 5) (by rw [hsz]; exact grownCap_ge _ _ _ _)
 rw [hsz] at hG
 have HG1 := hide hG
 clear hG HG hcv
 generalize (w.alloc (.cells (bytesRow (s.extract lo hi) (grownCap w (hi - lo) 0 5)) 5 ((bytesRow (s.extract lo hi) (grownCap w (hi - lo) 0 5)).size,(bytesRow (s.extract lo hi) (grownCap w (hi - lo) 0 5)).size + 1))).drew = W at *
 generalize grownCap w (hi - lo) 0 5 = cap at *
 clear hsz hz5 hz6 hm1 hm2 hz3 hz4
 generalize (s.extract lo hi).data.toList = bs at *
 generalize s.extract lo hi = sx at *
 generalize hi - lo = n0 at *
 go_loopw [7] (fun bv wr => ∃ m : Nat,m <= 255 - n0 /\ Buf w.heap.size w wr bv (n0 + m) (bl (bs ++ List.replicate m 0))) (fun bv _ => 255 - lenOf bv)
 case atStart => exact ⟨0,Nat.zero_le _,by simpa using HG1.out⟩
 case round =>
   obtain ⟨m,hm,hb⟩ := hrel
   have HB := hide hb
   obtain ⟨g,cap',rfl⟩ := hb.form
   have hB : w.heap.size <= wr.heap.size := hb.size
   clear hb
   have hnm : n0 + m <= 1000000 := by omega
   by_cases hlt : n0 + m < 255
   · have hz : ((n0 + m : Nat) : Int) < 255 := by omega
     go_wp2_with (at_builtin; refine wpList_append_buf (B := w.heap.size) (w0 := w) (u := wr) (v := .slice (some ⟨g,0,none⟩) (n0 + m) cap') rfl (.tmp 29) (.tmp 30) 77 rfl Tryz.underlying77 i0 HI.out.1 HI.out.2.1 HI.out.2.2.1 HI.out.2.2.2 rfl 0 rfl HB.out hB hnm ?_)
     intro v' w1 hb1
     have e : bl (bs ++ List.replicate m 0) ++ [Value.int .u8 0] = bl (bs ++ List.replicate (m + 1) 0) := by
       have := bl_snoc (bs ++ List.replicate m 0) 0 (by decide)
       rw [List.replicate_succ', <- List.append_assoc]
       exact this
     rw [e] at hb1
     have HB1 := hide hb1
     obtain ⟨g1,cap1,rfl⟩ := hb1.form
     clear hb1 e
     go_wp2
     go_roundw
     case rel => exact ⟨m + 1,by omega,HB1.out⟩
     case measure => simp [lenOf]; omega
   · have hz : ¬ (((n0 + m : Nat) : Int) < 255) := by omega
     have hm2 : m = 255 - n0 := by omega
     have hby : ((n0 : Nat) : Int) % 256 = ((n0 : Nat) : Int) := by omega
     have hby2 : IntKind.u8.wrap ((n0 : Nat) : Int) = ((n0 : Nat) : Int) := by rw [IntKind.wrap_u8]; exact hby
     clear hby
     go_wp2_with (at_builtin; (refine wpList_append_buf (B := w.heap.size) (w0 := w) (u := wr) (v := .slice (some ⟨g,0,none⟩) (n0 + m) cap') rfl (.tmp 32) (.tmp 35) 77 rfl Tryz.underlying77 i0 HI.out.1 HI.out.2.1 HI.out.2.2.1 HI.out.2.2.2 rfl ((n0 : Nat) : Int) rfl HB.out hB hnm ?_))
     intro v' w1 hb1
     rw [bl_snoc _ _ (by omega)] at hb1
     have hcv2 := buf_text hb1 77 9 Tryz.underlying77 Tryz.underlying9
     have hbel := hb1.below
     have HBel := hide hbel
     clear hb1 hbel
     go_wp2
     go_ret
     exact ⟨by rw [<- HE.out,List.append_assoc]; rfl,HBel.out⟩
end Go.Proofs.YtchhojkhfdkhfaaGreatDoor
namespace Go.Proofs.YtchhojkhfdkhfaaGreatDoor
open Go Go.RowKit Frm Go.Shelf
def bldRen2 : Ren := ⟨fun x => if x = 165 then 37 else if x = 166 then 135 else if x = 169 then 39 else if x = 240 then 74 else if x = 241 then 75 else if x = 276 then 103 else if x = 277 then 104 else x,fun t => if t = 72 then 88 else if t = 70 then 86 else if t = 37 then 77 else if t = 75 then 92 else if t = 80 then 44 else if t = 164 then 159 else if t = 127 then 128 else t,fun g => g⟩
theorem lays166 : Lays.n166 Tryz.prog bldRen2 := by
 constructor <;> first | kernel_rfl | (intro w; kernel_rfl)
theorem lays169b : Lays.n169 Tryz.prog bldRen2 := by
 constructor <;> first | kernel_rfl | (intro w; kernel_rfl)
theorem bldX2 : Builder.Extra Tryz.prog bldRen2 := by
 constructor
 · constructor <;> kernel_rfl
 all_goals first | kernel_rfl | (intro w; kernel_rfl) | decide
theorem bWriteString (b : Nat) (bs : List Value) (s : ByteArray) (w : World) (h : Lib.IsBuilder 88 5 b b bs w) (hlen : bs.length + s.size <= 140737488355328) (hBw : b <= w.heap.size) :
   Calls Tryz.prog 135 #[.pointer (some ⟨b,0,none⟩),.string s] w fun e w' => e = .returned (.tuple #[.int .i64 s.size,.nilIface]) /\ (Lib.BuilderAt 88 5 b b (.pointer (some ⟨b,0,none⟩)) (bs ++ Lib.strCells s) w' /\ Below b w w') := Any.Builder_WriteString lays166 bldX2 b b bs s w h hlen hBw
theorem bString2 (b : Nat) (l : List UInt8) (w : World) (h : Lib.IsBuilder 88 5 b b (Lib.byteCells l) w) (hBw : b <= w.heap.size) :
   Calls Tryz.prog 39 #[.pointer (some ⟨b,0,none⟩)] w fun e w' => e = .returned (.string ⟨l.toArray⟩) /\ Below b w w' := Any.Builder_String_any lays169b bldX2 b b l w h hBw
theorem new_builder (w : World) : Lib.IsBuilder 88 5 w.heap.size w.heap.size [] (w.alloc (.cells #[.pointer none,.slice none 0 0] 88)) :=
 Or.inl ⟨Nat.le_refl _,.slice none 0 0,World.alloc_heap_new w _,World.ownsRow_nil _ _ _ _,by simp [Value.ownBlock]⟩
theorem bc_app (a b : List UInt8) : Lib.byteCells a ++ Lib.byteCells b = Lib.byteCells (a ++ b) := by unfold Lib.byteCells; rw [List.map_append]
theorem heads_take (l : List ByteArray) (k : Nat) (h : k < l.length) : (heads (l.take (k + 1))).data.toList = (heads (l.take k)).data.toList ++ (l[k].extract 0 (countOf l[k])).data.toList := by
 rw [take_snoc h,heads_append]
 show (heads (List.take k l) ++ (l[k].extract 0 (countOf l[k]) ++ noText)).data.toList = _
 rw [ByteArray.data_append,ByteArray.data_append]
 simp [noText]
set_option maxRecDepth 10000 in
set_option maxHeartbeats 2000000 in
theorem stream_any (l : List ByteArray) (a : Option Addr) (c : Nat) (w : World) (hl : StrsAt w a l) (h256 : ∀ b ∈ l,b.size = 256) (hn : l.length <= 4096) :
   Calls Tryz.prog 119 #[.slice a l.length c] w fun e w' => e = .returned (.string (heads l)) /\ Below w.heap.size w w' := by
 have HNB := hide (new_builder w)
 have HB0 := hide ((Below.refl w.heap.size w).alloc (Nat.le_refl _) (.cells #[.pointer none,.slice none 0 0] 88))
 have HL := hide hl
 have H256 := hide h256
 clear hl h256
 go_enter Tryz.func119,Tryz.ntmps119
 go_wp2_with fail
 generalize w.alloc (.cells #[.pointer none,.slice none 0 0] 88) = W at *
 go_loopw [5,8] (fun _ i wr => ∃ k : Nat,k <= l.length /\ i = .int .i64 (k : Int) /\ Lib.IsBuilder 88 5 w.heap.size w.heap.size (Lib.byteCells (heads (l.take k)).data.toList) wr /\ Below w.heap.size w wr) (fun _ i _ => l.length - (intOf i).toNat)
 case atStart => exact ⟨0,Nat.zero_le _,rfl,HNB.out,HB0.out⟩
 case round =>
   obtain ⟨k,hk,rfl,hbd,hbl⟩ := hrel
   have HBD := hide hbd
   have HBL := hide hbl
   have hszw := hbl.size
   clear hbd hbl
   by_cases hlt : k < l.length
   · obtain ⟨b,off,rfl,hc⟩ : ∃ b off,a = some ⟨b,off,none⟩ /\ ∀ j (hj : j < l.length),wr.cell? ⟨b,off + j,none⟩ = some (.string l[j]) := by
       rcases HL.out.below HBL.out with rfl | h
       · exact absurd hlt (by simp)
       · exact h
     have hck := hc k hlt
     have hz : (k : Int) < (l.length : Int) := by omega
     have hw2 : IntKind.i64.wrap ((k : Int) + 1) = (k : Int) + 1 := by rw [IntKind.wrap_i64]; omega
     have h2 := H256.out _ (List.getElem_mem hlt)
     have hcl := countOf_le l[k]
     have hz3 : ((countOf l[k] : Nat) : Int) <= (l[k].size : Int) := by omega
     have HH := hide (heads_take l k hlt)
     have hlen : (Lib.byteCells (heads (l.take k)).data.toList).length <= 4096 * 255 := by
       rw [Lib.byteCells_length, <- Lib.size_eq]
       have := heads_size (l.take k) (fun x hx => H256.out x (List.mem_of_mem_take hx))
       rw [List.length_take] at this
       have e : min k l.length = k := by omega
       rw [e] at this
       have : k * 255 <= 4096 * 255 := by omega
       omega
     have KC := hide (count_any l[k] wr h2)
     have KW := hide (bWriteString w.heap.size (Lib.byteCells (heads (l.take k)).data.toList) (l[k].extract 0 (countOf l[k])) wr HBD.out (by rw [ByteArray.size_extract]; omega) hszw)
     have HC := hide hc
     clear hc hlen
     generalize l[k] = t at *
     generalize hcn : countOf t = cn at *
     have HCN := hide hcn
     clear hcn
     go_wp2_with fail
     refine KC.out.mono ?_
     rintro e w1 ⟨rfl,hw1⟩
     obtain rfl := hw1.symm
     go_wp2_with fail
     refine KW.out.mono ?_
     rintro e w2 ⟨rfl,hbd2,hbl2⟩
     have HBD2 := hide hbd2
     have HBL2 := hide (HBL.out.trans hbl2)
     clear hbd2 hbl2
     go_wp2
     go_roundw
     case rel => exact ⟨k + 1,hlt,by go_num,by rw [HH.out, <- bc_app]; exact Or.inr HBD2.out,HBL2.out⟩
     case measure => simp [intOf]; omega
   · have hkl : k = l.length := by omega
     subst hkl
     rw [List.take_of_length_le (Nat.le_refl _)] at HBD
     have KS := hide (bString2 w.heap.size (heads l).data.toList wr HBD.out hszw)
     go_wp2_with fail
     refine KS.out.mono ?_
     rintro e w2 ⟨rfl,hbl2⟩
     have HBL2 := hide (HBL.out.trans hbl2)
     clear hbl2
     go_wp2
     go_ret
     exact ⟨rfl,HBL2.out⟩
end Go.Proofs.YtchhojkhfdkhfaaGreatDoor
