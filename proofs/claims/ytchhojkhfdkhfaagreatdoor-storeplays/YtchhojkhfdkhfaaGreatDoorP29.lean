/- Joined texts. -/
import Derived.Test.YtchhojkhfdkhfaaGreatDoorP28
import Derived.Test.YtchhojkhfdkhfaaGreatDoorP05
import Derived.Deep.Slices
import Derived.Deep.Strs
import Derived.SizedLaws
namespace Go.Proofs.YtchhojkhfdkhfaaGreatDoor
open Go Go.ChangeShapes Go.WideShapes Go.ChangeAt Go.RowKit Go.Joins Go.Deep
theorem Tryz.laidOut : laidOutB Tryz.prog = true := by kernel_rfl
theorem nat_of_wf8 {x : Int} (h : (Lit.int .u8 x).wf = true) : ∃ m : Nat,x = (m : Int) /\ m < 256 := by
 simp [Lit.wf,IntKind.min,IntKind.max,IntKind.signed,IntKind.bits] at h
 exact ⟨x.toNat,by omega,by omega⟩
theorem weightsAll_mem {H : Type} (P : Program) (e : TypeId) : ∀ (l : List (DataW H)) (x : DataW H),x ∈ l -> ∀ n ∈ DataW.weights P e x,n ∈ DataW.weightsAll P e l
 | [],_,h,_,_ => absurd h (by simp)
 | y :: l,x,h,n,hn => by
   rw [DataW.weightsAll]
   rcases List.mem_cons.1 h with rfl | h
   · exact List.mem_append_left _ hn
   · exact List.mem_append_right _ (weightsAll_mem P e l x h n hn)
theorem reach_of {H : Type} {ts : List TypeId} {ds : List (DataW H)} (hsz : (DataW.weightsEach Tryz.prog ts ds).all (· <= reachBytes) = true) (j : Nat) {t : TypeId} {d : DataW H} (ht : ts[j]? = some t) (hd : ds[j]? = some d) : ∀ n ∈ DataW.weights Tryz.prog t d,n <= 140737488351232 := fun n hn => by
 have h1 : n <= reachBytes := of_decide_eq_true (List.all_eq_true.1 hsz n (DataW.weights_mem_each ht hd n hn))
 exact h1
theorem plain_addr {W : World} {a : Addr} {v : Value} (h : W.cell? (a.add 0) = some v) : ∃ b off,a = ⟨b,off,none⟩ := by
 obtain ⟨b,off,spot⟩ := a
 cases spot with
 | none => exact ⟨b,off,rfl⟩
 | some s =>
   exfalso
   simp [Addr.add,World.cell?] at h
   split at h <;> simp at h
theorem add_off (b off j : Nat) : (⟨b,off,none⟩ : Addr).add j = ⟨b,off + j,none⟩ := by unfold Addr.add; split <;> simp_all
theorem i64_of_wf {x : Int} (h : (Lit.int .i64 x).wf = true) : -9223372036854775808 <= x /\ x <= 9223372036854775807 := by
 simp [Lit.wf,IntKind.min,IntKind.max,IntKind.signed,IntKind.bits] at h
 omega
theorem cells3 : Tryz.prog.cellsOf 3 = 1 := by kernel_rfl
theorem cells5 : Tryz.prog.cellsOf 5 = 1 := by kernel_rfl
theorem cells9 : Tryz.prog.cellsOf 9 = 1 := by kernel_rfl
theorem cells41 : Tryz.prog.cellsOf 41 = 1 := by kernel_rfl
theorem cells43 : Tryz.prog.cellsOf 43 = 5 := by kernel_rfl
theorem bytes3 : Tryz.prog.bytesOf 3 = 8 := by kernel_rfl
theorem bytes43 : Tryz.prog.bytesOf 43 = 64 := by kernel_rfl
set_option maxRecDepth 10000 in
theorem open_picks {H : Type} {enc : TypeId × Value -> H} {W : World} {base : Nat} {sp : Nat -> Bool} {held : Bool} {fuel : Nat} {cs : List Value} {x : DataW H × List MemPlace}
   (h : DataW.trod enc Tryz.prog W base sp held fuel 41 cs = some x) (hw : ∀ n ∈ DataW.weights Tryz.prog 41 x.1,n <= 140737488351232) :
   ∃ (a : Option Addr) (cap : Nat) (L : List Int),cs = [.slice a L.length cap] /\ IntsAt W a L /\ (∀ y ∈ L, -9223372036854775808 <= y /\ y <= 9223372036854775807) /\ L.length <= 140737488351232 /\ (a = none -> cap = 0) := by
 rcases open_ints Tryz.underlying41 Tryz.underlying3 cells3 h with ⟨hcs,_⟩ | ⟨a,len,cap,zs,hcs,hb,hl,hm,hzl,hx,hcell,hwf⟩
 · exact ⟨none,0,[],hcs,Or.inl rfl,by simp,by simp,fun _ => rfl⟩
 · have hlz : len <= zs.length := by rw [hzl]; split <;> omega
   have htl : (zs.take len).length = len := by rw [List.length_take]; omega
   refine ⟨some a,cap,zs.take len,by rw [htl]; exact hcs,?_,fun y hy => i64_of_wf (hwf y (List.mem_of_mem_take hy)),?_,fun e => by cases e⟩
   · by_cases h0 : len = 0
     · left; rw [h0]; rfl
     · right
       obtain ⟨b,off,rfl⟩ := plain_addr (hcell 0 (by omega))
       refine ⟨b,off,rfl,fun j hj => ?_⟩
       rw [htl] at hj
       have := hcell j (by omega)
       rw [add_off] at this
       rw [this,List.getElem_take,List.getD_eq_getElem?_getD,List.getElem?_eq_getElem (by omega),Option.getD_some]
   · rw [htl]
     have hx1 : x.1 = .slice (lits .i64 (zs.take len)) (lits .i64 (zs.drop len)) := congrArg Prod.fst hx
     rw [hx1,DataW.weights,Tryz.underlying41] at hw
     have := hw _ (List.mem_cons_self ..)
     rw [bytes3] at this
     have e : (lits (H := H) .i64 (zs.take len)).length = len := by unfold lits; rw [List.length_map]; exact htl
     rw [e] at this
     omega
theorem trod_struct5 {H : Type} {enc : TypeId × Value -> H} {P : Program} {w : World} {base : Nat} {spare : Nat -> Bool} {held : Bool} {t : TypeId} {f0 f1 f2 f3 f4 : Field} {fuel : Nat} {cs : List Value} {x : DataW H × List MemPlace} (ht : P.underlying t = some (.struct #[f0,f1,f2,f3,f4])) (h : DataW.trod enc P w base spare held fuel t cs = some x) :
   ∃ y0 y1 y2 y3 y4 n,x.1 = .agg [y0.1,y1.1,y2.1,y3.1,y4.1] /\ cs.length = P.cellsOf t /\ DataW.trod enc P w base spare held n f0.type ((cs.drop f0.offset).take (P.cellsOf f0.type)) = some y0 /\
     DataW.trod enc P w base spare held n f1.type ((cs.drop f1.offset).take (P.cellsOf f1.type)) = some y1 /\ DataW.trod enc P w base spare held n f2.type ((cs.drop f2.offset).take (P.cellsOf f2.type)) = some y2 /\
     DataW.trod enc P w base spare held n f3.type ((cs.drop f3.offset).take (P.cellsOf f3.type)) = some y3 /\ DataW.trod enc P w base spare held n f4.type ((cs.drop f4.offset).take (P.cellsOf f4.type)) = some y4 := by
 obtain ⟨xs,n,_,rfl,hl,hlen,hf⟩ := DataW.trod_struct ht h
 match xs,hlen with
 | [y0,y1,y2,y3,y4],_ => exact ⟨y0,y1,y2,y3,y4,n,by simp,hl,by simpa using hf 0 f0 rfl,by simpa using hf 1 f1 rfl,by simpa using hf 2 f2 rfl,by simpa using hf 3 f3 rfl,by simpa using hf 4 f4 rfl⟩
theorem list5 {α : Type} {cs : List α} (h : cs.length = 5) : ∃ c0 c1 c2 c3 c4,cs = [c0,c1,c2,c3,c4] := by
 match cs,h with
 | [c0,c1,c2,c3,c4],_ => exact ⟨c0,c1,c2,c3,c4,rfl⟩
set_option maxRecDepth 10000 in
theorem open_step {H : Type} {enc : TypeId × Value -> H} {W : World} {base : Nat} {sp : Nat -> Bool} {held : Bool} {fuel : Nat} {cs : List Value} {x : DataW H × List MemPlace}
   (h : DataW.trod enc Tryz.prog W base sp held fuel 43 cs = some x) (hw : ∀ n ∈ DataW.weights Tryz.prog 43 x.1,n <= 140737488351232) :
   ∃ s : Stp,s.Ok /\ IntsAt W s.pa s.picks /\ cs = [.int .u8 (s.act : Int),.string s.text,.int .u8 (s.times : Int),.int .i64 s.n,.slice s.pa s.picks.length s.pc] := by
 obtain ⟨y0,y1,y2,y3,y4,n,hx,hlen,g0,g1,g2,g3,g4⟩ := trod_struct5 Tryz.underlying43 h
 rw [cells43] at hlen
 obtain ⟨c0,c1,c2,c3,c4,rfl⟩ := list5 hlen
 simp [cells3,cells5,cells9,cells41] at g0 g1 g2 g3 g4
 obtain ⟨z0,f0,_,u0⟩ := DataW.trod_int Tryz.underlying5 g0
 simp at f0
 subst f0
 obtain ⟨x0,rfl,m0⟩ := nat_of_wf8 u0
 obtain ⟨s1,f1,e1,u1⟩ := DataW.trod_string Tryz.underlying9 g1
 simp at f1
 subst f1
 have hs1 : s1.size <= 140737488351232 := hw s1.size (by
   rw [hx,DataW.weights,Tryz.underlying43]
   refine DataW.weights_mem_each (j := 1) rfl rfl _ ?_
   rw [e1,DataW.weights]
   simp)
 obtain ⟨z2,f2,_,u2⟩ := DataW.trod_int Tryz.underlying5 g2
 simp at f2
 subst f2
 obtain ⟨x2,rfl,m2⟩ := nat_of_wf8 u2
 obtain ⟨z3,f3,_,u3⟩ := DataW.trod_int Tryz.underlying3 g3
 simp at f3
 subst f3
 have hw4 : ∀ n ∈ DataW.weights Tryz.prog 41 y4.1,n <= 140737488351232 := fun n hn => hw n (by
   rw [hx,DataW.weights,Tryz.underlying43]
   exact DataW.weights_mem_each (j := 4) rfl rfl n hn)
 obtain ⟨a,cap,L,f4,hi,hy,hl,hn⟩ := open_picks g4 hw4
 simp at f4
 subst f4
 exact ⟨⟨x0,s1,x2,z3,a,L,cap⟩,⟨m0,hs1,m2,i64_of_wf u3,hl,hy,hn⟩,hi,rfl⟩
set_option maxRecDepth 10000 in
theorem open_steps {H : Type} {enc : TypeId × Value -> H} {W : World} {base : Nat} {sp : Nat -> Bool} {held : Bool} {a : Option Addr} {len cap : Nat} {d : DataW H} {p : List MemPlace}
   (h : DataW.Trod enc Tryz.prog W base sp held 24 (.slice a len cap) d p) (hw : ∀ n ∈ DataW.weights Tryz.prog 24 d,n <= 140737488351232) :
   ∃ l : List Stp,l.length = len /\ StepsAt W a l /\ (∀ x ∈ l,x.Ok) /\ len <= 140737488351232 := by
 obtain ⟨fuel,hf⟩ := h
 rcases open_slice Tryz.underlying24 hf with ⟨hcs,_⟩ | ⟨a',len',cap',m,n,D,Pl,hcs,hb,hl,hm,hmm,hd,hx⟩
 · simp [Value.cells] at hcs
   obtain ⟨rfl,rfl,rfl⟩ := hcs
   exact ⟨[],rfl,Or.inl rfl,by simp,by omega⟩
 · simp [Value.cells] at hcs
   obtain ⟨rfl,rfl,rfl⟩ := hcs
   have hlm : len <= m := by rw [hmm]; split <;> omega
   have hde : d = .slice ((List.range len).map D) ((List.range (m - len)).map fun j => D (len + j)) := congrArg Prod.fst hd
   rw [hde,DataW.weights,Tryz.underlying24] at hw
   have hlen : len <= 140737488351232 := by
     have := hw _ (List.mem_cons_self ..)
     rw [List.length_map,List.length_map,List.length_range,List.length_range,bytes43] at this
     omega
   have each : ∀ i,i < len -> ∃ s : Stp,s.Ok /\ IntsAt W s.pa s.picks /\ W.cell? (a'.add (i * 5)) = some (.int .u8 (s.act : Int)) /\ W.cell? (a'.add (i * 5 + 1)) = some (.string s.text) /\ W.cell? (a'.add (i * 5 + 2)) = some (.int .u8 (s.times : Int)) /\ W.cell? (a'.add (i * 5 + 3)) = some (.int .i64 s.n) /\ W.cell? (a'.add (i * 5 + 4)) = some (.slice s.pa s.picks.length s.pc) := by
     intro i hi
     obtain ⟨cs',h1,h2⟩ := hx i (by omega)
     rw [cells43] at h1
     obtain ⟨_,hcl,hcell⟩ := World.cells?_some h1
     obtain ⟨s,hs1,hs2,rfl⟩ := open_step h2 (fun n hn => hw n (List.mem_cons_of_mem _ (List.mem_append_left _ (weightsAll_mem _ _ _ (D i) (List.mem_map.2 ⟨i,List.mem_range.2 hi,rfl⟩) n hn))))
     have e0 := hcell 0 (by omega)
     have e1 := hcell 1 (by omega)
     have e2 := hcell 2 (by omega)
     have e3 := hcell 3 (by omega)
     have e4 := hcell 4 (by omega)
     rw [add_add] at e0 e1 e2 e3 e4
     exact ⟨s,hs1,hs2,by simpa using e0,by simpa using e1,by simpa using e2,by simpa using e3,by simpa using e4⟩
   have hInh : Inhabited Stp := ⟨⟨0,noText,0,0,none,[],0⟩⟩
   obtain ⟨q,hq⟩ := choose_lt each
   refine ⟨(List.range len).map q,by simp,?_,fun x hx => ?_,hlen⟩
   · by_cases h0 : len = 0
     · left; subst h0; rfl
     · right
       obtain ⟨b,off,rfl⟩ := plain_addr (a := a') (by have := (hq 0 (by omega)).2.2.1; simpa using this)
       refine ⟨b,off,rfl,fun j hj => ?_⟩
       have hj' : j < len := by simpa using hj
       obtain ⟨_,k1,k2,k3,k4,k5,k6⟩ := hq j hj'
       rw [add_off] at k2 k3 k4 k5 k6
       rw [List.getElem_map,List.getElem_range]
       exact ⟨k2,by rw [Nat.add_assoc]; exact k3,by rw [Nat.add_assoc]; exact k4,by rw [Nat.add_assoc]; exact k5,by rw [Nat.add_assoc]; exact k6,k1⟩
   · obtain ⟨i,hi,rfl⟩ := List.mem_map.1 hx
     exact (hq i (List.mem_range.1 hi)).1
end Go.Proofs.YtchhojkhfdkhfaaGreatDoor
