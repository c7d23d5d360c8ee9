/- Joined texts. -/
import Derived.RangeFuncNested
import Derived.RangeFuncBound
import Derived.RangeFuncCalls
import Derived.RangeFuncLeaves
import Derived.Shelf.Abstract
import Derived.Shelf.RegionOpen
import Derived.WalkKit
import Derived.OwnWalkIn
import Derived.TacticsInMore
import Derived.LoopNIn
import Derived.LoopIn
import Derived.Maps.AppendAt
import Derived.Test.YtchhojkhfdkhfaaGreatDoorP21
namespace Go.Proofs.YtchhojkhfdkhfaaGreatDoor.Frm
open Go Go.RowKit Go.Shelf
attribute [local go_sem] Oper.semAt_some
def encF (x : ByteArray × Nat × Nat) : Array Value := #[.agg #[.string x.1,.int .i64 (x.2.1 : Int),.int .i64 (x.2.2 : Int)]]
def strSize : Value -> Nat | .string s => s.size | _ => 0
theorem grown_of_below {w w' : World} (h : Below w.heap.size w w') : w.grownBy w' none := ⟨h.os,h.tape,h.output,h.size,fun k hk _ => h.block k hk⟩
set_option maxRecDepth 100000 in
set_option maxHeartbeats 1000000 in
theorem frames1_in (n : Nat) (hn : 1 <= n) (l Bs : Nat) (s : ByteArray) (hs : s.size <= 65536) (J Jx : List (ByteArray × Nat × Nat) -> World -> Prop) (W : World) (hJ : AbidesFrom W.heap.size J)
   (hY : ∀ pre x W1,J pre W1 -> pre.length < (fnd s).length -> YieldAt Fence.wide (n - 1) Tryz.prog l (encF x) W1 fun e W' =>
     (e = .returned (.bool true) /\ J (pre ++ [x]) W' /\ True) \/ (e = .returned (.bool false) /\ Jx (pre ++ [x]) W'))
   (hBs : W.cell? ⟨Bs,0,none⟩ = some (.string s)) (h0 : J [] W) :
   CallsIn Fence.wide n Tryz.prog 157 #[.func (.yield l) #[] #[],.pointer (some ⟨Bs,0,none⟩)] W fun e W' => (∃ v,e = .returned v) /\
     ((∃ ys,ys = fnd s /\ J ys W') \/ (∃ pre,pre <+: fnd s /\ Jx pre W')) := by
 refine callsIn_of_wp Tryz.func157 rfl trivial ?_ rfl
 simp only [Tryz.ntmps157,List.size_toArray,List.length_cons,List.length_nil,Nat.reduceAdd,Nat.reduceSub,Array.replicate_succ,Array.replicate_zero,List.push_toArray,List.append_toArray,List.nil_append,List.cons_append]
 gi_wp2
 gi_loopw [3,4,5,6] (fun p _ _ _ wr => ∃ (rest : ByteArray) (pre : List (ByteArray × Nat × Nat)),p = .string rest /\ rest.size <= 65536 /\ fnd s = pre ++ fnd rest /\ J pre wr) (fun p _ _ _ _ => strSize p)
 case atStart => exact ⟨s,[],rfl,hs,rfl,h0⟩
 case round =>
   obtain ⟨rest,pre,rfl,hr,hx,hJs⟩ := hrel
   have HX := hide hx
   have HJs := hide hJs
   have HJ := hide hJ
   have HY := hide hY
   clear hx hJs hJ hY h0
   by_cases hz : rest.size = 0
   · have he : rest = ⟨#[]⟩ := by
       apply ByteArray.ext; exact Array.eq_empty_of_size_eq_zero hz
     subst he
     gi_wp2
     go_end0
     exact ⟨⟨_,rfl⟩,.inl ⟨pre,by rw [HX.out,fnd_nil _ hz,List.append_nil],HJs.out⟩⟩
   · have hne : rest.toList.isEmpty = false := by
       rw [Lib.toList_data]
       cases hl : rest.data.toList with
       | nil => exact absurd (by have := congrArg List.length hl; simpa using this) hz
       | cons _ _ => rfl
     have KR := hide (fun u => read_any rest u (by omega))
     have hlen : pre.length < (fnd s).length := by
       rw [HX.out,List.length_append]
       by_cases he : (rdf rest).2.2 = 0
       · rw [fnd_ok rest hz he]; simp
       · rw [fnd_err rest hz he]; simp
     by_cases he : (rdf rest).2.2 = 0
     · have hx2 := HX.out
       rw [fnd_ok rest hz he] at hx2
       have HX2 := hide hx2
       clear hx2
       have hok := rdf_ok rest he
       rw [he] at KR
       have hxe : rdf rest = ((rdf rest).1,(rdf rest).2.1,0) := by rw [<- he]
       rw [hxe] at HX2
       clear hxe he HX
       generalize (rdf rest).1 = t at *
       generalize (rdf rest).2.1 = k at *
       have hk : (k : Int) <= (rest.size : Int) := by omega
       gi_wp2_with (refine ⟨trivial,?_⟩; gi_at_call 158; refine (callsIn_wide.2 (KR.out _)).mono ?_; rintro e w1 ⟨rfl,hb1⟩; have hJ1 := HJ.out _ _ _ none HJs.out (grown_of_below hb1) (fun r e => by cases e); obtain ⟨fn,tmps,assign,body,hy0,hR⟩ := HY.out pre (t,k,0) w1 hJ1 hlen; have hy : (Instr.yield l #[.agg #[.string t,.int .i64 (k : Int),.int .i64 0]]).run Tryz.prog w1 = .ok (.round l fn tmps assign body) w1 := hy0; clear hy0)
       refine hR.mono ?_
       rintro e W3 (⟨rfl,hJ3, -⟩ | ⟨rfl,hJx3⟩)
       · have HJ3 := hide hJ3
         clear hJ3 hJ1
         gi_wp2
         go_roundw
         case rel => exact ⟨rest.extract k rest.size,pre ++ [(t,k,0)],rfl,by rw [ByteArray.size_extract]; omega,by rw [HX2.out]; simp,HJ3.out⟩
         case measure => simp [strSize]; omega
       · have HJx3 := hide hJx3
         clear hJx3 hJ1
         gi_wp2
         refine bodyPost_ret (results_none rfl _ _ _) rfl ?_
         exact ⟨⟨_,rfl⟩,.inr ⟨pre ++ [(t,k,0)],⟨fnd (rest.extract k rest.size),by rw [HX2.out]; simp⟩,HJx3.out⟩⟩
     · have hx2 := HX.out
       rw [fnd_err rest hz he] at hx2
       have HX2 := hide hx2
       clear hx2
       have hez : ¬ ((((rdf rest).2.2 : Nat) : Int) = 0) := by omega
       have hxe : rdf rest = ((rdf rest).1,(rdf rest).2.1,(rdf rest).2.2) := rfl
       rw [hxe] at HX2
       clear hxe he HX
       generalize (rdf rest).1 = t at *
       generalize (rdf rest).2.1 = k at *
       generalize (rdf rest).2.2 = x at *
       gi_wp2_with (refine ⟨trivial,?_⟩; gi_at_call 158; refine (callsIn_wide.2 (KR.out _)).mono ?_; rintro e w1 ⟨rfl,hb1⟩; have hJ1 := HJ.out _ _ _ none HJs.out (grown_of_below hb1) (fun r e => by cases e); obtain ⟨fn,tmps,assign,body,hy0,hR⟩ := HY.out pre (t,k,x) w1 hJ1 hlen; have hy : (Instr.yield l #[.agg #[.string t,.int .i64 (k : Int),.int .i64 (x : Int)]]).run Tryz.prog w1 = .ok (.round l fn tmps assign body) w1 := hy0; clear hy0)
       refine hR.mono ?_
       rintro e W3 (⟨rfl,hJ3, -⟩ | ⟨rfl,hJx3⟩)
       · have HJ3 := hide hJ3
         clear hJ3 hJ1
         gi_wp2
         refine bodyPost_ret (results_none rfl _ _ _) rfl ?_
         exact ⟨⟨_,rfl⟩,.inl ⟨pre ++ [(t,k,x)],by rw [HX2.out],HJ3.out⟩⟩
       · have HJx3 := hide hJx3
         clear hJx3 hJ1
         gi_wp2
         refine bodyPost_ret (results_none rfl _ _ _) rfl ?_
         exact ⟨⟨_,rfl⟩,.inr ⟨pre ++ [(t,k,x)],⟨[],by rw [HX2.out]; simp⟩,HJx3.out⟩⟩
set_option maxHeartbeats 1000000 in
theorem frames_in (n : Nat) (s : ByteArray) (w : World) :
   CallsIn Fence.wide n Tryz.prog 144 #[.string s] w fun e w' => e = .returned (.func (.func 157) #[] #[.pointer (some ⟨w.heap.size,0,none⟩)]) /\ w' = w.alloc (.cells #[.string s] 9) := by
 refine callsIn_of_wp Tryz.func144 rfl trivial ?_ rfl
 simp only [Tryz.ntmps144,List.size_toArray,List.length_cons,List.length_nil,Nat.reduceAdd,Nat.reduceSub,Array.replicate_succ,Array.replicate_zero,List.push_toArray,List.append_toArray,List.nil_append,List.cons_append]
 gi_wp2
 go_ret
 exact ⟨rfl,rfl⟩
theorem frames_stops (n : Nat) (hn : 1 <= n) (Bs : Nat) (s : ByteArray) (hs : s.size <= 65536) (w : World) (hB : Bs < w.heap.size) (hc : w.cell? ⟨Bs,0,none⟩ = some (.string s)) :
   SeqStopsK Fence.wide n Tryz.prog 157 #[.pointer (some ⟨Bs,0,none⟩)] encF (fun _ _ => True) (fun ys => ys = fnd s) (fun pre => pre <+: fnd s) (fnd s).length w := fun l J Jx W hW hJ _ hY h0 =>
 frames1_in n hn l Bs s hs J Jx W hJ hY ((hW.cell (p := ⟨Bs,0,none⟩) hB).trans hc) h0
attribute [local go_sem] Oper.semAt_some
theorem info9 : (Tryz.prog.info? 9).map (fun i => (i.zero,i.size,i.bytes)) = some (some (.string ⟨#[]⟩),1,16) := by kernel_rfl
def wsum (l : List (ByteArray × Nat × Nat)) : Int := l.foldl (fun g x => wrap64 (g + (x.2.1 : Int))) 0
theorem wsum_snoc (l : List (ByteArray × Nat × Nat)) (x : ByteArray × Nat × Nat) : wsum (l ++ [x]) = wrap64 (wsum l + (x.2.1 : Int)) := by simp [wsum]
def lastE (l : List (ByteArray × Nat × Nat)) : Int := (((l.getLast?.map fun x => x.2.2).getD 0 : Nat) : Int)
def txts (l : List (ByteArray × Nat × Nat)) : List Value := l.map fun x => Value.string x.1
theorem ownL_of {W : World} {base : Nat} {v : Value} {pre : List (ByteArray × Nat × Nat)} (h : W.ownsRow base 9 1 v pre.length (txts pre)) : OwnL W base v (pre.map fun x => x.1) := by
 unfold OwnL; rw [List.length_map,List.map_map]; exact h
theorem slice_of {W : World} {base : Nat} {v : Value} {pre : List (ByteArray × Nat × Nat)} (h : W.ownsRow base 9 1 v pre.length (txts pre)) : ∃ a c,v = .slice a pre.length c := by
 obtain ⟨a,c,h,_⟩ := (ownL_of h).strs
 exact ⟨a,c,by rw [h,List.length_map]⟩
structure Three (W W' : World) (n : Nat) (vL vG vE : Value) : Prop where
 l : Boxed W' n 46 vL
 g : Boxed W' (n + 1) 3 vG
 e : Boxed W' (n + 1 + 1) 29 vE
 keeps : KeepsOthers W W'
 below : Below n W W'
 other : ∀ k,k ≠ n -> k ≠ n + 1 -> k ≠ n + 1 + 1 -> W'.heap[k]? = W.heap[k]?
theorem Three.refl {W : World} {n : Nat} {vL vG vE : Value} (hL : Boxed W n 46 vL) (hG : Boxed W (n + 1) 3 vG) (hE : Boxed W (n + 1 + 1) 29 vE) : Three W W n vL vG vE :=
 ⟨hL,hG,hE,KeepsOthers.refl _,Below.refl _ _,fun _ _ _ _ => rfl⟩
theorem Three.setL {W X : World} {n : Nat} {v0 vG vE : Value} (h : Three W X n v0 vG vE) (v : Value) : Three W (X.setCell ⟨n,0,none⟩ v) n v vG vE :=
 ⟨h.l.set v,h.g.other (by omega) v,h.e.other (by omega) v,h.keeps.trans (KeepsOthers.setCell _ _ _),h.below.setCell (p := ⟨n,0,none⟩) (Nat.le_refl _) v,fun k h0 h1 h2 => (Below.heap_setCell X ⟨n,0,none⟩ v k h0).trans (h.other k h0 h1 h2)⟩
theorem Three.setG {W X : World} {n : Nat} {v0 vL vE : Value} (h : Three W X n vL v0 vE) (v : Value) : Three W (X.setCell ⟨n + 1,0,none⟩ v) n vL v vE :=
 ⟨h.l.other (by omega) v,h.g.set v,h.e.other (by omega) v,h.keeps.trans (KeepsOthers.setCell _ _ _),h.below.setCell (p := ⟨n + 1,0,none⟩) (by show n <= n + 1; omega) v,fun k h0 h1 h2 => (Below.heap_setCell X ⟨n + 1,0,none⟩ v k h1).trans (h.other k h0 h1 h2)⟩
theorem Three.setE {W X : World} {n : Nat} {v0 vL vG : Value} (h : Three W X n vL vG v0) (v : Value) : Three W (X.setCell ⟨n + 1 + 1,0,none⟩ v) n vL vG v :=
 ⟨h.l.other (by omega) v,h.g.other (by omega) v,h.e.set v,h.keeps.trans (KeepsOthers.setCell _ _ _),h.below.setCell (p := ⟨n + 1 + 1,0,none⟩) (by show n <= n + 1 + 1; omega) v,fun k h0 h1 h2 => (Below.heap_setCell X ⟨n + 1 + 1,0,none⟩ v k h2).trans (h.other k h0 h1 h2)⟩
theorem Three.drew {W X : World} {n : Nat} {vL vG vE : Value} (h : Three W X n vL vG vE) : Three W X.drew n vL vG vE :=
 ⟨h.l,h.g,h.e,h.keeps.trans (KeepsOthers.drew _),h.below.drew,h.other⟩
theorem Three.row {W X : World} {n base m : Nat} {v vL vG vE uL uG uE : Value} {xs : List Value} (h : Three W X n vL vG vE) (hL : Boxed W n 46 uL) (hG : Boxed W (n + 1) 3 uG) (hE : Boxed W (n + 1 + 1) 29 uE) (hr : W.ownsRow base 9 1 v m xs) : X.ownsRow base 9 1 v m xs := by
 have n1 := hL.not_row (by decide) hr
 have n2 := hG.not_row (by decide) hr
 have n3 := hE.not_row (by decide) hr
 refine ⟨hr.1,?_⟩
 rcases hr.2 with h0 | ⟨g,cap,cur,rfl,h1,hg,hq⟩
 · exact Or.inl h0
 · simp only [Value.ownBlock] at n1 n2 n3
   exact Or.inr ⟨g,cap,cur,rfl,h1,(h.other g (fun e => n1 (by rw [e])) (fun e => n2 (by rw [e])) (fun e => n3 (by rw [e]))).trans hg,hq⟩
theorem kept3 {W w1 : World} {o : Obj} {Bx base m : Nat} {cs : Array Value} {v : Value} {xs : List Value} (hX : W.heap[Bx]? = some (.cells cs 210 (0,0))) (hr : W.ownsRow base 9 1 v m xs) (hg : (W.alloc o).grownBy w1 v.ownBlock) :
   w1.heap[Bx]? = some (.cells cs 210 (0,0)) := by
 have hlt := (Array.getElem?_eq_some_iff.1 hX).1
 refine (hg.block Bx (by simp; omega) ?_).trans ((Below.heap_alloc W o Bx hlt).trans hX)
 rcases hr.2 with ⟨rfl,_⟩ | ⟨g,cap,cur,rfl,h1,hg,hq⟩
 · simp [Value.ownBlock]
 · intro e
   simp only [Value.ownBlock,Option.some.injEq] at e
   subst e
   rw [hX] at hg
   cases hg
theorem kept3n {W w1 : World} {o : Obj} {Bx base m : Nat} {v0 v1 v2 v : Value} {xs : List Value} (hX : W.heap[Bx]? = some (.cells #[v0,v1,v2] 210 (0,0))) (hr : W.ownsRow base 9 1 v m xs) (hg : (W.alloc o).grownBy w1 v.ownBlock) :
   w1.cell? ⟨Bx,1,none⟩ = some v1 := by
 have h := kept3 hX hr hg
 simp [World.cell?,h]
theorem Three.put {W X : World} {n D : Nat} {vL vG vE : Value} (h : Three W X n vL vG vE) (hK : W.heap[D]? = some (.deferred (some []))) (hD : n <= D) :
   X.heap[D]? = some (.deferred (some [])) /\ Boxed (X.putObj D (.deferred none)) n 46 vL /\ Boxed (X.putObj D (.deferred none)) (n + 1) 3 vG /\ Boxed (X.putObj D (.deferred none)) (n + 1 + 1) 29 vE /\ Below n W (X.putObj D (.deferred none)) := by
 have hK' := h.keeps.same D _ hK rfl
 have ne : ∀ (B : Nat) (t : TypeId) (v : Value),Boxed X B t v -> Boxed (X.putObj D (.deferred none)) B t v := fun B t v hb => by
   refine hb.kept (grownBy_putObj' X D _) (fun e => ?_)
   have e2 : B = D := by cases e; rfl
   subst e2
   rw [show X.heap[B]? = _ from hb] at hK'
   cases hK'
 exact ⟨hK',ne _ _ _ h.l,ne _ _ _ h.g,ne _ _ _ h.e,h.below.trans ((Below.refl n X).grown (grownBy_putObj' X D _) (by have := (Array.getElem?_eq_some_iff.1 h.l).1; omega) (fun k e => by cases e; exact hD))⟩
theorem lastE_snoc (l : List (ByteArray × Nat × Nat)) (x : ByteArray × Nat × Nat) : lastE (l ++ [x]) = (x.2.2 : Int) := by simp [lastE]
theorem Told.mk2 {s : ByteArray} {w w' : World} {l : List ByteArray} {g x n : Nat} {g' x' : Int} (hs : scn s = (l,g,x)) (hn : n = l.length) (hg : g' = (g : Int)) (hx : x' = (x : Int)) (a : Option Addr) (c : Nat) (hst : OwnL w' w.heap.size (.slice a n c) l) (hb : Below w.heap.size w w') :
   Told s w (.returned (.tuple #[.slice a n c,.int .i64 g',.int .i64 x'])) w' := by
 subst hn; subst hg; subst hx
 exact Told.mk hs a c hst hb
theorem wsum_from : ∀ (l : List (ByteArray × Nat × Nat)) (g : Nat),(∀ x ∈ l,x.2.1 <= 65544) -> g + 65544 * l.length < 9223372036854775808 -> l.foldl (fun g x => wrap64 (g + (x.2.1 : Int))) (g : Int) = ((g + sumN l : Nat) : Int)
 | [],_,_,_ => rfl
 | x :: l,g,h,hb => by
   have hx := h x (by simp)
   rw [List.length_cons] at hb
   have e : wrap64 ((g : Int) + (x.2.1 : Int)) = ((g + x.2.1 : Nat) : Int) := by unfold wrap64; omega
   rw [List.foldl_cons,e,wsum_from l (g + x.2.1) (fun y hy => h y (List.mem_cons_of_mem _ hy)) (by omega)]
   simp only [sumN,List.map_cons,List.sum_cons]
   omega
theorem wsum_eq (l : List (ByteArray × Nat × Nat)) (h : ∀ x ∈ l,x.2.1 <= 65544) (hl : l.length <= 65536) : wsum l = ((sumN l : Nat) : Int) := by
 have := wsum_from l 0 h (by omega)
 rw [Nat.zero_add] at this
 exact this
theorem fnd_n : ∀ (m : Nat) (s : ByteArray),s.size <= m -> ∀ x ∈ fnd s,x.2.1 <= 65544
 | m,s,hm => by
   by_cases h0 : s.size = 0
   · rw [fnd_nil s h0]; simp
   · by_cases he : (rdf s).2.2 = 0
     · have hr := rdf_ok s he
       obtain ⟨m',rfl⟩ : ∃ m',m = m' + 1 := ⟨m - 1,by omega⟩
       have ih := fnd_n m' (s.extract (rdf s).2.1 s.size) (by rw [ByteArray.size_extract]; omega)
       rw [fnd_ok s h0 he]
       intro x hx
       rcases List.mem_cons.1 hx with rfl | h
       · exact hr.2.2
       · exact ih x h
     · rw [fnd_err s h0 he]
       intro x hx
       rw [List.mem_singleton.1 hx]
       exact rdf_n s
theorem toldDone {s : ByteArray} {w X : World} {a : Option Addr} {c D : Nat} (hs : s.size <= 65536) (h : ∀ x ∈ fnd s,x.2.2 = 0) (hr : X.ownsRow w.heap.size 9 1 (.slice a (fnd s).length c) (fnd s).length (txts (fnd s))) (hK : X.heap[D]? = some (.deferred (some []))) (hb : Below w.heap.size w (X.putObj D (.deferred none))) :
   Told s w (.returned (.tuple #[.slice a (fnd s).length c,.int .i64 (wsum (fnd s)),.int .i64 0])) (X.putObj D (.deferred none)) := by
 have hl := fnd_length s.size s (Nat.le_refl _)
 exact Told.mk2 (fnd_all s.size s (Nat.le_refl _) h) (by rw [List.length_map]) (wsum_eq _ (fnd_n s.size s (Nat.le_refl _)) (by omega)) rfl a c (ownL_of (ownsRow_putObj hr _ hK rfl)) hb
theorem toldStop {s : ByteArray} {w X : World} {a : Option Addr} {c D : Nat} {pre : List (ByteArray × Nat × Nat)} (hs : s.size <= 65536) (hp : pre <+: fnd s) (hne : pre ≠ []) (h : ∀ x ∈ pre.dropLast,x.2.2 = 0) (he : lastE pre ≠ 0) (hr : X.ownsRow w.heap.size 9 1 (.slice a pre.dropLast.length c) pre.dropLast.length (txts pre.dropLast)) (hK : X.heap[D]? = some (.deferred (some []))) (hb : Below w.heap.size w (X.putObj D (.deferred none))) :
   Told s w (.returned (.tuple #[.slice a pre.dropLast.length c,.int .i64 (wsum pre.dropLast),.int .i64 (lastE pre)])) (X.putObj D (.deferred none)) := by
 have hl := fnd_length s.size s (Nat.le_refl _)
 obtain ⟨q,x,rfl⟩ : ∃ q x,pre = q ++ [x] := ⟨pre.dropLast,pre.getLast hne,(List.dropLast_concat_getLast hne).symm⟩
 rw [lastE_snoc] at he ⊢
 rw [List.dropLast_concat] at h hr ⊢
 have hn : ∀ y ∈ q,y.2.1 <= 65544 := fun y hy => fnd_n s.size s (Nat.le_refl _) y (hp.subset (List.mem_append_left _ hy))
 have hql : q.length <= 65536 := by
   have := hp.length_le
   rw [List.length_append] at this
   omega
 exact Told.mk2 (fnd_stop q s x hp h (fun e => he (by rw [e]; rfl))) (by rw [List.length_map]) (wsum_eq _ hn hql) rfl a c (ownL_of (ownsRow_putObj hr _ hK rfl)) hb
def Iin (w : World) (pre : List (ByteArray × Nat × Nat)) (W : World) : Prop :=
 ((((∃ v,Boxed W w.heap.size 46 v /\ W.ownsRow w.heap.size 9 1 v pre.length (txts pre) /\ True) /\ Boxed W (w.heap.size + 1) 3 (.int .i64 (wsum pre))) /\ Boxed W (w.heap.size + 1 + 1) 29 (.int .i64 0)) /\ (∀ x ∈ pre,x.2.2 = 0)) /\ Below w.heap.size w W
def Iout (w : World) (c : Code) (pre : List (ByteArray × Nat × Nat)) (W : World) : Prop :=
 ((((∃ v,Boxed W w.heap.size 46 v /\ W.ownsRow w.heap.size 9 1 v pre.dropLast.length (txts pre.dropLast) /\ True) /\ Boxed W (w.heap.size + 1) 3 (.int .i64 (wsum pre.dropLast))) /\ Boxed W (w.heap.size + 1 + 1) 29 (.int .i64 (lastE pre))) /\ (c = .ret /\ pre ≠ [] /\ (∀ x ∈ pre.dropLast,x.2.2 = 0) /\ lastE pre ≠ 0)) /\ Below w.heap.size w W
theorem Iin.own (w : World) (B : Nat) (h : w.heap.size <= B) : OwnFrom B (Iin w) :=
 OwnFrom.and (OwnFrom.and (OwnFrom.and (OwnFrom.and (Own.from (holdsRow_own w.heap.size w.heap.size 46 9 1 (fun (pre : List (ByteArray × Nat × Nat)) => pre.length) (fun pre => txts pre) (fun _ _ => True)) _) (Own.from (boxed_own _ _ _) _)) (Own.from (boxed_own _ _ _) _)) (ownFrom_pure _ _)) (ownFrom_below (Nat.le_refl _) h)
theorem Iout.own (w : World) (B : Nat) (h : w.heap.size <= B) (c : Code) : OwnFrom B (Iout w c) :=
 OwnFrom.and (OwnFrom.and (OwnFrom.and (OwnFrom.and (Own.from (holdsRow_own w.heap.size w.heap.size 46 9 1 (fun (pre : List (ByteArray × Nat × Nat)) => pre.dropLast.length) (fun pre => txts pre.dropLast) (fun _ _ => True)) _) (Own.from (boxed_own _ _ _) _)) (Own.from (boxed_own _ _ _) _)) (ownFrom_pure _ _)) (ownFrom_below (Nat.le_refl _) h)
theorem retOut {w W W' : World} {B e : Nat} {pre : List (ByteArray × Nat × Nat)} {tx : ByteArray} {k : Nat} {v : Value} {uL uG uE : Value} (hT : Three W W' w.heap.size v (.int .i64 (wsum pre)) (.int .i64 (e : Int)))
   (hL : Boxed W w.heap.size 46 uL) (hG : Boxed W (w.heap.size + 1) 3 uG) (hE : Boxed W (w.heap.size + 1 + 1) 29 uE) (hr : W.ownsRow w.heap.size 9 1 v pre.length (txts pre)) (ha : ∀ x ∈ pre,x.2.2 = 0) (he : ¬ ((e : Int) = 0)) (hB : Below w.heap.size w W) :
   KeepsFrom B W W' /\ Iout w .ret (pre ++ [(tx,k,e)]) W' := by
 refine ⟨hT.keeps.from _,⟨⟨⟨⟨?_,?_⟩,?_⟩,rfl,by simp,?_,?_⟩,hB.trans hT.below⟩⟩
 · rw [List.dropLast_concat]; exact ⟨_,hT.l,hT.row hL hG hE hr,trivial⟩
 · rw [List.dropLast_concat]; exact hT.g
 · rw [lastE_snoc]; exact hT.e
 · rw [List.dropLast_concat]; exact ha
 · rw [lastE_snoc]; exact he
theorem goOn {w W w1 : World} {B k g' cap' : Nat} {pre : List (ByteArray × Nat × Nat)} {tx : ByteArray} {x : Int} (hx : x = wrap64 (wsum pre + (k : Int)))
   (hv2 : Boxed (w1.setCell ⟨w.heap.size,0,none⟩ (.slice (some ⟨g',0,none⟩) (pre.length + 1) cap')) w.heap.size 46 (.slice (some ⟨g',0,none⟩) (pre.length + 1) cap'))
   (hr2 : (w1.setCell ⟨w.heap.size,0,none⟩ (.slice (some ⟨g',0,none⟩) (pre.length + 1) cap')).ownsRow w.heap.size 9 1 (.slice (some ⟨g',0,none⟩) (pre.length + 1) cap') (pre.length + 1) (txts pre ++ [.string tx]))
   (hk2 : KeepsOthers W (w1.setCell ⟨w.heap.size,0,none⟩ (.slice (some ⟨g',0,none⟩) (pre.length + 1) cap')))
   (hb2 : Below w.heap.size W (w1.setCell ⟨w.heap.size,0,none⟩ (.slice (some ⟨g',0,none⟩) (pre.length + 1) cap')))
   (hG1 : Boxed w1 (w.heap.size + 1) 3 (.int .i64 (wsum pre))) (hE1 : Boxed w1 (w.heap.size + 1 + 1) 29 (.int .i64 0)) (ha : ∀ x ∈ pre,x.2.2 = 0) (hB : Below w.heap.size w W) :
   KeepsFrom B W ((w1.setCell ⟨w.heap.size,0,none⟩ (.slice (some ⟨g',0,none⟩) (pre.length + 1) cap')).setCell ⟨w.heap.size + 1,0,none⟩ (.int .i64 x)) /\ True /\
     Iin w (pre ++ [(tx,k,0)]) ((w1.setCell ⟨w.heap.size,0,none⟩ (.slice (some ⟨g',0,none⟩) (pre.length + 1) cap')).setCell ⟨w.heap.size + 1,0,none⟩ (.int .i64 x)) := by
 have hG2 := hG1.other (B' := w.heap.size) (by omega) (.slice (some ⟨g',0,none⟩) (pre.length + 1) cap')
 have hE2 := hE1.other (B' := w.heap.size) (by omega) (.slice (some ⟨g',0,none⟩) (pre.length + 1) cap')
 have hne := hG2.not_row (by decide) hr2
 refine ⟨(hk2.trans (KeepsOthers.setCell _ _ _)).from _,trivial,⟨⟨⟨⟨⟨_,hv2.other (by omega) _,?_,trivial⟩,?_⟩,hE2.other (by omega) _⟩,?_⟩,(hB.trans hb2).setCell (p := ⟨w.heap.size + 1,0,none⟩) (by show w.heap.size <= w.heap.size + 1; omega) _⟩⟩
 · rw [List.length_append,show txts (pre ++ [(tx,k,0)]) = txts pre ++ [.string tx] from by simp [txts]]
   exact ownsRow_setCell_other hr2 (fun h => hne h.symm) _
 · rw [wsum_snoc, <- hx]; exact hG2.set _
 · intro y hy
   rcases List.mem_append.1 hy with h | h
   · exact ha y h
   · simp at h; rw [h]
set_option maxRecDepth 100000 in
set_option maxHeartbeats 4000000 in
theorem scan_any (s : ByteArray) (w : World) (hs : s.size <= 65536) : Calls Tryz.prog 120 #[.string s] w (Told s w) := by
 obtain ⟨i0,hi,hz0,hz1,hz2⟩ := info_parts info9
 have hN := fnd_length s.size s (Nat.le_refl _)
 refine (callsIn_wide (n := 6)).1 ?_
 refine callsIn_of_wp_marks Tryz.func120 rfl trivial ?_ rfl
 simp only [Tryz.ntmps120,List.size_toArray,List.length_cons,List.length_nil,Nat.reduceAdd,Nat.reduceSub,Array.replicate_succ,Array.replicate_zero,List.push_toArray,List.append_toArray,List.nil_append,List.cons_append]
 gi_wp2_with (refine ⟨trivial,?_⟩; gi_at_call 144; refine (frames_in _ s _).mono ?_; rintro e w' ⟨rfl,rfl⟩)
 have bL := (((Boxed.new w 46 (.slice none 0 0)).alloc (.cells #[.int .i64 0] 3)).alloc (.cells #[.int .i64 0] 29)).alloc (.cells #[.string s] 9)
 have bG := ((Boxed.new (w.alloc (.cells #[.slice none 0 0] 46)) 3 (.int .i64 0)).alloc (.cells #[.int .i64 0] 29)).alloc (.cells #[.string s] 9)
 have bE := (Boxed.new ((w.alloc (.cells #[.slice none 0 0] 46)).alloc (.cells #[.int .i64 0] 3)) 29 (.int .i64 0)).alloc (.cells #[.string s] 9)
 have bS := Boxed.new (((w.alloc (.cells #[.slice none 0 0] 46)).alloc (.cells #[.int .i64 0] 3)).alloc (.cells #[.int .i64 0] 29)) 9 (.string s)
 simp only [World.size_alloc] at bG bE bS
 have hB0 : Below w.heap.size w ((((w.alloc (.cells #[.slice none 0 0] 46)).alloc (.cells #[.int .i64 0] 3)).alloc (.cells #[.int .i64 0] 29)).alloc (.cells #[.string s] 9)) := ((((Below.refl _ w).alloc (Nat.le_refl _) _).alloc (by simp) _).alloc (by simp; omega) _).alloc (by simp; omega) _
 have hsz : ((((w.alloc (.cells #[.slice none 0 0] 46)).alloc (.cells #[.int .i64 0] 3)).alloc (.cells #[.int .i64 0] 29)).alloc (.cells #[.string s] 9)).heap.size = w.heap.size + 4 := by simp
 obtain ⟨W0,hW0⟩ : ∃ W0,((((w.alloc (.cells #[.slice none 0 0] 46)).alloc (.cells #[.int .i64 0] 3)).alloc (.cells #[.int .i64 0] 29)).alloc (.cells #[.string s] 9)) = W0 := ⟨_,rfl⟩
 rw [hW0] at bL bG bE bS hB0 hsz ⊢
 clear hW0
 refine wpIn_rangeFunc_ownH rfl (by decide) (gf := 157) (lb := #[.pointer (some ⟨w.heap.size + 1 + 1 + 1,0,none⟩)]) rfl trivial (enters_of Tryz.func157 (by kernel_rfl) rfl)
   (frames_stops 5 (by decide) (w.heap.size + 1 + 1 + 1) s hs W0 (by omega) bS.cell) (fun _ _ => trivial) (fun _ _ _ _ _ _ _ _ => trivial) (Below.refl _ _) (fun _ => rfl)
   (Iin w) (Iout w) (Iin.own w _ (by omega)) (Iout.own w _ (by omega))
   ⟨⟨⟨⟨⟨_,bL,World.ownsRow_nil _ _ _ _,trivial⟩,bG⟩,bE⟩,by simp⟩,hB0⟩
   (fun x a' W => ∃ Bx,w.heap.size + 1 + 1 < Bx /\ W.heap[Bx]? = some (.cells #[.string x.1,.int .i64 (x.2.1 : Int),.int .i64 (x.2.2 : Int)] 210 (0,0)) /\ a' = { tmps := #[.string s,undef,.pointer (some ⟨w.heap.size,0,none⟩),.pointer (some ⟨w.heap.size + 1,0,none⟩),.pointer (some ⟨w.heap.size + 1 + 1,0,none⟩),.pointer (some ⟨Bx,0,none⟩),.string s,.func (.func 157) #[] #[.pointer (some ⟨w.heap.size + 1 + 1 + 1,0,none⟩)],.agg #[.string x.1,.int .i64 (x.2.1 : Int),.int .i64 (x.2.2 : Int)],undef,undef,undef,undef,undef,undef,undef,undef,undef,undef,undef,undef,undef,undef,undef,undef,undef,undef],defers := [] })
   (fun x a' _ X Y row hs hg hr => by
     obtain ⟨Bx,e1,e2,e3⟩ := hs
     refine ⟨Bx,e1,(hg.block Bx (Array.getElem?_eq_some_iff.1 e2).1 (fun e => ?_)).trans e2,e3⟩
     obtain ⟨_,o,ho,hc⟩ := hr _ e.symm
     rw [e2] at ho
     cases ho
     cases hc)
   ?assign ?body ?done ?stop
 case assign =>
   rintro l pre ⟨tx,k,e⟩ W K ⟨⟨⟨⟨⟨v,hv,hrow, -⟩,hG⟩,hE⟩,hall⟩,hB⟩ hK
   dsimp only [encF]
   have HK := hide hK
   have HA := hide hall
   clear hK hall
   gi_wp2
   exact HK.out _ _ ((KeepsOthers.alloc _ _).from _) trivial ⟨⟨⟨⟨⟨v,hv.alloc _,hrow.alloc _,trivial⟩,hG.alloc _⟩,hE.alloc _⟩,HA.out⟩,hB.alloc hB.size _⟩ ⟨W.heap.size,hE.lt,World.alloc_heap_new W _,rfl⟩
 case body =>
   rintro l pre ⟨tx,k,e⟩ a' W hl ⟨r,hr⟩ ⟨⟨⟨⟨⟨v,hv,hrow, -⟩,hG⟩,hE⟩,hall⟩,hB⟩ ⟨Bx,hBx,hX,rfl⟩ hlt
   obtain ⟨a0,c0,rfl⟩ := slice_of hrow
   have hcL := hv.cell
   have hfL := hv.frozen
   have hcG := hG.cell
   have hfG := hG.frozen
   have hcE := hE.cell
   have hfE := hE.frozen
   have hX0 : W.cell? ⟨Bx,0,none⟩ = some (.string tx) := by simp [World.cell?,hX]
   have hX1 : W.cell? ⟨Bx,1,none⟩ = some (.int .i64 (k : Int)) := by simp [World.cell?,hX]
   have hX2 : W.cell? ⟨Bx,2,none⟩ = some (.int .i64 (e : Int)) := by simp [World.cell?,hX]
   have HA := hide hall
   have HX := hide hX
   have HB := hide hB
   have HR := hide hr
   have HW := hide hrow
   clear hall hX hB hr hrow
   by_cases he : e = 0
   · subst he
     have HG := hide hG
     have hwl : pre.length < 65536 := by omega
     have HE := hide hE
     gi_wp2_with (gi_at_builtin; refine wpListIn_append_own _ rfl _ _ 46 rfl w.heap.size 9 i0 (.string ⟨#[]⟩) 1 16 Tryz.underlying46 hi hz0 hz1 hz2 rfl (by decide) _ _ _ rfl (HW.out.alloc _) ⟨W.heap.size,0,none⟩ 1 1 [.string tx] rfl rfl (cell_one_new _ _ _) (by simp [Value.oneCell']) (by unfold maxLen; omega) (by omega) (by have := HB.out.size; simp; omega) ?_; intro v' w1 hown' hgrow _; obtain ⟨g',cap',rfl⟩ := ownsRow_succ hown'; obtain ⟨hv1,hv2,hr2,hk2,hb2⟩ := hv.appended (by decide) HW.out HB.out.size (Nat.le_refl _) hown' hgrow; have hc1 := hv1.cell; have hf1 := hv1.frozen; have hG1 := (HG.out.alloc _).kept hgrow (HG.out.not_row (by decide) HW.out); have hE1 := (HE.out.alloc _).kept hgrow (HE.out.not_row (by decide) HW.out); have hcG1 := hG1.cell; have hfG1 := hG1.frozen; have hX1' := kept3n HX.out HW.out hgrow)
     exact goOn rfl hv2 hr2 hk2 hb2 hG1 hE1 HA.out HB.out
   · have hez : ¬ ((e : Int) = 0) := by omega
     have hmx : Tryz.prog.follows .mixedOrders = true := by kernel_rfl
     gi_wp2
     gi_region_with_o (fail)
     all_goals
       gi_wp2
       refine retOut ?_ hv hG hE HW.out HA.out hez HB.out
       exact Three.drew (Three.setE (Three.setG (Three.setL (Three.refl hv hG hE) _) _) _)
 case done =>
   rintro D ys W hD rfl ⟨⟨⟨⟨⟨v,hv,hrow, -⟩,hG⟩,hE⟩,hall⟩,hB⟩ hK
   obtain ⟨a0,c0,rfl⟩ := slice_of hrow
   have hcL := hv.cell
   have hfL := hv.frozen
   have hcG := hG.cell
   have hfG := hG.frozen
   have hcE := hE.cell
   have hfE := hE.frozen
   have HA := hide hall
   have HB := hide hB
   have HW := hide hrow
   have HK := hide hK
   clear hall hB hrow hK
   have hmx : Tryz.prog.follows .mixedOrders = true := by kernel_rfl
   gi_wp2
   gi_region_with_o (fail)
   all_goals
     have hT := Three.drew (Three.setE (Three.setG (Three.setL (Three.refl hv hG hE) (.slice a0 (fnd s).length c0)) (.int .i64 (wsum (fnd s)))) (.int .i64 0))
     obtain ⟨hK',q1,q2,q3,q4⟩ := hT.put HK.out (by omega)
     gi_wp2
     refine ⟨by simp,.inl ⟨_,_,rfl,run_takeDeferred hK',?_⟩⟩
     have k1 := q1.cell
     have k2 := q2.cell
     have k3 := q3.cell
     refine ⟨.tuple #[.slice a0 (fnd s).length c0,.int .i64 (wsum (fnd s)),.int .i64 0],?_,?_⟩
     · simp [results,Tryz.f120,go_sem,k1,k2,k3]
     · exact toldDone hs HA.out (hT.row hv hG hE HW.out) hK' (HB.out.trans q4)
 case stop =>
   rintro D c pre W hD hpre ⟨⟨⟨⟨⟨v,hv,hrow, -⟩,hG⟩,hE⟩,rfl,hne,hall,hlast⟩,hB⟩ hK
   obtain ⟨a0,c0,rfl⟩ := slice_of hrow
   obtain ⟨hK',q1,q2,q3,q4⟩ := (Three.refl hv hG hE).put hK (by omega)
   gi_wp2
   refine ⟨by simp,.inl ⟨_,_,rfl,run_takeDeferred hK,?_⟩⟩
   have k1 := q1.cell
   have k2 := q2.cell
   have k3 := q3.cell
   refine ⟨.tuple #[.slice a0 pre.dropLast.length c0,.int .i64 (wsum pre.dropLast),.int .i64 (lastE pre)],?_,?_⟩
   · simp [results,Tryz.f120,go_sem,k1,k2,k3]
   · exact toldStop hs hpre hne hall hlast hrow hK (hB.trans q4)
end Go.Proofs.YtchhojkhfdkhfaaGreatDoor.Frm
