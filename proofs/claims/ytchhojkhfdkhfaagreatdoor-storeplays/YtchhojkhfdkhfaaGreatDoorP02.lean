/- Joined texts. -/
import Derived.Test.YtchhojkhfdkhfaaGreatDoorProg
import Derived.WalkKit
import Derived.WalkSpells
import Derived.BigQuiet
import Derived.Deep.QuietTactic
import Derived.OwnWalk
import Derived.Test.YtchhojkhfdkhfaaGreatDoorP00
import Derived.Maps.AppendAt
import Derived.RegionTactic
namespace Go.Proofs.YtchhojkhfdkhfaaGreatDoor
open Go Go.RowKit

theorem hide {p : Prop} (h : p) : Hid p := h
theorem bnext {w w1 w2 : World} (h : Below w.heap.size w w1) (k : Below w1.heap.size w1 w2) : Below w.heap.size w w2 := h.trans (k.mono h.size)
theorem below_drewN {B : Nat} {w u : World} (h : Below B w u) (n : Nat) : Below B w (u.drewN n) := h.trans ⟨rfl,rfl,rfl,Nat.le_refl _,fun _ _ => rfl⟩
structure Loc (F F' : Nat -> Prop) (u v : World) : Prop where
 os : v.os = u.os
 tape : v.tape = u.tape
 output : v.output = u.output
 size : u.heap.size <= v.heap.size
 block : ∀ k,k < u.heap.size -> ¬ F k -> v.heap[k]? = u.heap[k]?
 own : ∀ k,F' k -> F k \/ u.heap.size <= k
theorem Loc.refl (F : Nat -> Prop) (u : World) : Loc F F u u := ⟨rfl,rfl,rfl,Nat.le_refl _,fun _ _ _ => rfl,fun _ h => Or.inl h⟩
theorem Loc.trans {F F' F'' : Nat -> Prop} {u v w : World} (h : Loc F F' u v) (k : Loc F' F'' v w) : Loc F F'' u w :=
 ⟨k.os.trans h.os,k.tape.trans h.tape,k.output.trans h.output,Nat.le_trans h.size k.size,fun i hi hF => (k.block i (Nat.lt_of_lt_of_le hi h.size) (fun hF' => by
   rcases h.own i hF' with h1 | h1
   · exact hF h1
   · omega)).trans (h.block i hi hF),fun i hi => by
   rcases k.own i hi with h1 | h1
   · exact h.own i h1
   · exact Or.inr (Nat.le_trans h.size h1)⟩
theorem Loc.of_below (F : Nat -> Prop) {u v : World} (h : Below u.heap.size u v) : Loc F F u v := ⟨h.os,h.tape,h.output,h.size,fun k hk _ => h.block k hk,fun _ hk => Or.inl hk⟩
theorem Loc.of_grown {F F' : Nat -> Prop} {u v : World} {row : Option Nat} (h : u.grownBy v row) (hr : ∀ k,row = some k -> F k) (ho : ∀ k,F' k -> F k \/ u.heap.size <= k) : Loc F F' u v :=
 ⟨h.os,h.tape,h.output,h.size,fun k hk hF => h.block k hk (fun e => hF (hr k e.symm)),ho⟩
theorem Loc.setCell {F : Nat -> Prop} (u : World) (a : Addr) (v : Value) (ha : F a.block) : Loc F F u (u.setCell a v) :=
 ⟨rfl,rfl,rfl,by simp [World.setCell],fun k _ hF => Below.heap_setCell u a v k (fun e => hF (e ▸ ha)),fun _ h => Or.inl h⟩
theorem Loc.alloc (F : Nat -> Prop) (u : World) (o : Obj) : Loc F F u (u.alloc o) := Loc.of_below F ((Below.refl _ _).alloc (Nat.le_refl _) _)
theorem Loc.drew {F F' : Nat -> Prop} {u v : World} (h : Loc F F' u v) : Loc F F' u v.drew := ⟨h.os,h.tape,h.output,h.size,h.block,h.own⟩
theorem Loc.undrew {F F' : Nat -> Prop} {u v : World} (h : Loc F F' u.drew v) : Loc F F' u v := ⟨h.os,h.tape,h.output,h.size,h.block,h.own⟩
theorem Loc.below {F F' : Nat -> Prop} {u v : World} {B : Nat} (h : Loc F F' u v) (hF : ∀ k,F k -> B <= k) (hB : B <= u.heap.size) : Below B u v :=
 ⟨h.os,h.tape,h.output,h.size,fun k hk => h.block k (by omega) (fun hf => by have := hF k hf; omega)⟩
theorem Loc.beyond {F F' : Nat -> Prop} {u v : World} {B : Nat} (h : Loc F F' u v) (hF : ∀ k,F k -> B <= k) (hB : B <= u.heap.size) : ∀ k,F' k -> B <= k := fun k hk => by
 rcases h.own k hk with h1 | h1
 · exact hF k h1
 · omega
theorem Loc.apart {F F' G : Nat -> Prop} {u v : World} (h : Loc F F' u v) (hd : ∀ k,F k -> ¬ G k) (hG : ∀ k,G k -> k < u.heap.size) : ∀ k,F' k -> ¬ G k := fun k hk hg => by
 rcases h.own k hk with h1 | h1
 · exact hd k h1 hg
 · have := hG k hg; omega
theorem Loc.other {F F' G : Nat -> Prop} {u v : World} (h : Loc F F' u v) (hd : ∀ k,F k -> ¬ G k) (hG : ∀ k,G k -> k < u.heap.size) : ∀ k,G k -> v.heap[k]? = u.heap[k]? := fun k hk => h.block k (hG k hk) (fun hf => hd k hf hk)
theorem own_same {w w' : World} {base : Nat} {e : TypeId} {size n : Nat} {v : Value} {xs : List Value} (h : w.ownsRow base e size v n xs) (hb : ∀ g,v.ownBlock = some g -> w'.heap[g]? = w.heap[g]?) : w'.ownsRow base e size v n xs := by
 refine ⟨h.1,?_⟩
 rcases h.2 with h0 | ⟨g,cap,cur,rfl,h1,hg,hr⟩
 · exact Or.inl h0
 · exact Or.inr ⟨g,cap,cur,rfl,h1,(hb g rfl).trans hg,hr⟩
theorem own_lt {w : World} {base : Nat} {e : TypeId} {size n : Nat} {v : Value} {xs : List Value} (h : w.ownsRow base e size v n xs) {g : Nat} (hg : v.ownBlock = some g) : g < w.heap.size := (World.ownsRow.lt h g hg).2

def looseCells (l : List (Nat × ByteArray)) : List Value := l.flatMap fun w => [.int .i64 (w.1 : Int),.string w.2]
theorem looseCells_snoc (l : List (Nat × ByteArray)) (w : Nat × ByteArray) : looseCells (l ++ [w]) = looseCells l ++ [.int .i64 (w.1 : Int),.string w.2] := by
 unfold looseCells; simp
theorem looseCells_at : ∀ (l : List (Nat × ByteArray)) (i : Nat) (h : i < l.length),(looseCells l)[i * 2]? = some (.int .i64 ((l[i].1 : Nat) : Int)) /\ (looseCells l)[i * 2 + 1]? = some (.string l[i].2)
 | [],_,h => absurd h (by simp)
 | w :: l,0,_ => ⟨rfl,rfl⟩
 | w :: l,i + 1,h => by
   have ih := looseCells_at l i (by simpa using h)
   have e : looseCells (w :: l) = .int .i64 (w.1 : Int) :: .string w.2 :: looseCells l := by unfold looseCells; simp
   rw [e,show (i + 1) * 2 = i * 2 + 1 + 1 from by omega]
   exact ih
def RF (p : Nat) (vS vL : Value) (k : Nat) : Prop := k = p \/ vS.ownBlock = some k \/ vL.ownBlock = some k
structure RAt (u : World) (p : Nat) (vS vL : Value) (st : St) : Prop where
 head : u.heap[p]? = some (.cells #[vS,vL,.int .i64 st.left] 49 (0,0))
 sure : u.ownsRow 0 9 1 vS st.sure.length (st.sure.map Value.string)
 loose : u.ownsRow 0 123 2 vL st.loose.length (looseCells st.loose)
theorem RAt.lt {u : World} {p : Nat} {vS vL : Value} {st : St} (h : RAt u p vS vL st) : ∀ k,RF p vS vL k -> k < u.heap.size := fun k hk => by
 rcases hk with rfl | h1 | h1
 · exact (Array.getElem?_eq_some_iff.1 h.head).1
 · exact own_lt h.sure h1
 · exact own_lt h.loose h1
theorem RAt.same {u v : World} {p : Nat} {vS vL : Value} {st : St} (h : RAt u p vS vL st) (hb : ∀ k,RF p vS vL k -> v.heap[k]? = u.heap[k]?) : RAt v p vS vL st :=
 ⟨(hb p (Or.inl rfl)).trans h.head,own_same h.sure (fun g hg => hb g (Or.inr (Or.inl hg))),own_same h.loose (fun g hg => hb g (Or.inr (Or.inr hg)))⟩
theorem RAt.below {u v : World} {p : Nat} {vS vL : Value} {st : St} (h : RAt u p vS vL st) (hb : Below u.heap.size u v) : RAt v p vS vL st := h.same (fun k hk => hb.block k (h.lt k hk))
theorem RAt.cell0 {u : World} {p : Nat} {vS vL : Value} {st : St} (h : RAt u p vS vL st) : u.cell? ⟨p,0,none⟩ = some vS := by simp [World.cell?,h.head]
theorem RAt.cell1 {u : World} {p : Nat} {vS vL : Value} {st : St} (h : RAt u p vS vL st) : u.cell? ⟨p,1,none⟩ = some vL := by simp [World.cell?,h.head]
theorem RAt.cell2 {u : World} {p : Nat} {vS vL : Value} {st : St} (h : RAt u p vS vL st) : u.cell? ⟨p,2,none⟩ = some (.int .i64 st.left) := by simp [World.cell?,h.head]
theorem RAt.free {u : World} {p : Nat} {vS vL : Value} {st : St} (h : RAt u p vS vL st) (i : Nat) : u.frozen? ⟨p,i,none⟩ = false := by simp [World.frozen?,h.head]
theorem row_type {w : World} {base : Nat} {e : TypeId} {size n : Nat} {v : Value} {xs : List Value} (h : w.ownsRow base e size v n xs) {g : Nat} (hg : v.ownBlock = some g) : ∃ cur,w.heap[g]? = some (.cells cur e (0,0)) := by
 rcases h.2 with ⟨rfl,_⟩ | ⟨g',cap,cur,rfl,h1,hg',hr⟩
 · cases hg
 · simp [Value.ownBlock] at hg
   subst hg
   exact ⟨cur,hg'⟩
theorem RAt.ne0 {u : World} {p : Nat} {vS vL : Value} {st : St} (h : RAt u p vS vL st) : vS.ownBlock ≠ some p := fun e => by
 obtain ⟨cur,hc⟩ := row_type h.sure e
 rw [h.head] at hc
 cases hc
theorem RAt.ne1 {u : World} {p : Nat} {vS vL : Value} {st : St} (h : RAt u p vS vL st) : vL.ownBlock ≠ some p := fun e => by
 obtain ⟨cur,hc⟩ := row_type h.loose e
 rw [h.head] at hc
 cases hc
theorem RAt.ne2 {u : World} {p : Nat} {vS vL : Value} {st : St} (h : RAt u p vS vL st) {g : Nat} (hS : vS.ownBlock = some g) : vL.ownBlock ≠ some g := fun e => by
 obtain ⟨cur,hc⟩ := row_type h.sure hS
 obtain ⟨cur2,hc2⟩ := row_type h.loose e
 rw [hc] at hc2
 cases hc2
theorem heap_set3 {u : World} {p i : Nat} {cs : Array Value} {t : TypeId} (h : u.heap[p]? = some (.cells cs t (0,0))) (v : Value) : (u.setCell ⟨p,i,none⟩ v).heap[p]? = some (.cells (cs.setIfInBounds i v) t (0,0)) := by
 rw [setCell_eq_setRow u p i cs t (0,0) v h]
 exact setRow_heap u p cs _ t _ h
theorem RAt.setHead {u : World} {p i : Nat} {vS vL vS' vL' v : Value} {st st' : St} (h : RAt u p vS vL st) (hc : (#[vS,vL,.int .i64 st.left] : Array Value).setIfInBounds i v = #[vS',vL',.int .i64 st'.left])
   (hS : (u.setCell ⟨p,i,none⟩ v).ownsRow 0 9 1 vS' st'.sure.length (st'.sure.map Value.string)) (hL : (u.setCell ⟨p,i,none⟩ v).ownsRow 0 123 2 vL' st'.loose.length (looseCells st'.loose)) : RAt (u.setCell ⟨p,i,none⟩ v) p vS' vL' st' :=
 ⟨by rw [heap_set3 h.head,hc],hS,hL⟩
theorem RAt.rowS {u : World} {p i : Nat} {vS vL v : Value} {st : St} (h : RAt u p vS vL st) : (u.setCell ⟨p,i,none⟩ v).ownsRow 0 9 1 vS st.sure.length (st.sure.map Value.string) :=
 own_same h.sure (fun g hg => Below.heap_setCell u ⟨p,i,none⟩ v g (fun e => h.ne0 (by rw [<- show g = p from e]; exact hg)))
theorem RAt.rowL {u : World} {p i : Nat} {vS vL v : Value} {st : St} (h : RAt u p vS vL st) : (u.setCell ⟨p,i,none⟩ v).ownsRow 0 123 2 vL st.loose.length (looseCells st.loose) :=
 own_same h.loose (fun g hg => Below.heap_setCell u ⟨p,i,none⟩ v g (fun e => h.ne1 (by rw [<- show g = p from e]; exact hg)))
theorem RAt.setLeft {u : World} {p : Nat} {vS vL : Value} {st : St} (h : RAt u p vS vL st) (x : Int) : RAt (u.setCell ⟨p,2,none⟩ (.int .i64 x)) p vS vL ⟨st.sure,st.loose,x⟩ :=
 h.setHead rfl h.rowS h.rowL
theorem slice_of {w : World} {base : Nat} {e : TypeId} {size n : Nat} {v : Value} {xs : List Value} (h : w.ownsRow base e size v n xs) : ∃ a c,v = .slice a n c /\ n <= c := by
 rcases h.2 with ⟨rfl,h0⟩ | ⟨g,cap,cur,rfl,h1,hg,hn,_⟩
 · exact ⟨none,0,by rw [h0],by omega⟩
 · exact ⟨_,cap,rfl,hn⟩

set_option maxHeartbeats 400000 in
theorem rDown (p : Nat) (vS vL : Value) (st : St) (w : World) (h : RAt w p vS vL st) :
   Calls Tryz.prog 68 #[.pointer (some ⟨p,0,none⟩)] w fun e w' => e = .returned (.bool (st.left == 0)) /\ w' = w := by
 have hc := h.cell2
 clear h
 go_enter Tryz.func68,Tryz.ntmps68
 go_wp2
 go_ret
 exact ⟨rfl,rfl⟩
set_option maxHeartbeats 400000 in
theorem rThere (p : Nat) (vS vL : Value) (st : St) (b : Int) (w : World) (h : RAt w p vS vL st) (hl : st.sure.length <= 4096) :
   Calls Tryz.prog 69 #[.pointer (some ⟨p,0,none⟩),.int .i64 b] w fun e w' => e = .returned (.bool (decide (0 <= b /\ b < (st.sure.length : Int)))) /\ w' = w := by
 obtain ⟨a,c,rfl,_⟩ := slice_of h.sure
 have hc := h.cell0
 clear h
 have HL := hide hl
 by_cases h0 : 0 <= b
 · by_cases h1 : b < (st.sure.length : Int)
   · have hd : decide (0 <= b /\ b < (st.sure.length : Int)) = true := decide_eq_true ⟨h0,h1⟩
     rw [hd]
     clear hd
     go_enter Tryz.func69,Tryz.ntmps69
     go_wp2
     go_ret
     exact ⟨rfl,rfl⟩
   · have hd : decide (0 <= b /\ b < (st.sure.length : Int)) = false := decide_eq_false (fun h => h1 h.2)
     rw [hd]
     clear hd
     go_enter Tryz.func69,Tryz.ntmps69
     go_wp2
     go_ret
     exact ⟨rfl,rfl⟩
 · have hd : decide (0 <= b /\ b < (st.sure.length : Int)) = false := decide_eq_false (fun h => h0 h.1)
   rw [hd]
   clear hd
   go_enter Tryz.func69,Tryz.ntmps69
   go_wp2
   go_ret
   exact ⟨rfl,rfl⟩
set_option maxHeartbeats 400000 in
theorem rCounts (p : Nat) (vS vL : Value) (st : St) (w : World) (h : RAt w p vS vL st) (hl : -1 <= st.left /\ st.left <= 9223372036854775807) :
   Calls Tryz.prog 70 #[.pointer (some ⟨p,0,none⟩)] w fun e w' => (∃ v,e = .returned v) /\ RAt w' p vS vL ⟨st.sure,st.loose,counted st.left⟩ /\ Loc (RF p vS vL) (RF p vS vL) w w' := by
 have hc := h.cell2
 have hf := h.free 2
 have H := hide h
 by_cases h0 : 0 < st.left
 · have hx : counted st.left = st.left - 1 := by unfold counted; rw [if_pos h0]
   rw [hx]
   clear hx h
   go_enter Tryz.func70,Tryz.ntmps70
   go_wp2
   go_end0
   exact ⟨⟨_,rfl⟩,H.out.setLeft _,Loc.setCell w ⟨p,2,none⟩ _ (Or.inl rfl)⟩
 · have hx : counted st.left = st.left := by unfold counted; rw [if_neg h0]
   rw [hx]
   clear hx h
   go_enter Tryz.func70,Tryz.ntmps70
   go_wp2
   go_end0
   exact ⟨⟨_,rfl⟩,H.out,Loc.refl _ _⟩
set_option maxHeartbeats 400000 in
theorem rFuse (p : Nat) (vS vL : Value) (st : St) (n : Int) (w : World) (h : RAt w p vS vL st) (hn : n <= 9223372036854775807) :
   Calls Tryz.prog 32 #[.pointer (some ⟨p,0,none⟩),.int .i64 n] w fun e w' => (∃ v,e = .returned v) /\ RAt w' p vS vL (st.fuse n) /\ Loc (RF p vS vL) (RF p vS vL) w w' := by
 have hc := h.cell2
 have hf := h.free 2
 have H := hide h
 clear h
 by_cases h0 : -1 <= n
 · have hx : st.fuse n = ⟨st.sure,st.loose,n⟩ := by unfold St.fuse; rw [show max n (-1) = n from by omega]
   rw [hx]
   clear hx
   go_enter Tryz.func32,Tryz.ntmps32
   go_wp2
   go_end0
   exact ⟨⟨_,rfl⟩,H.out.setLeft n,Loc.setCell w ⟨p,2,none⟩ _ (Or.inl rfl)⟩
 · have hx : st.fuse n = ⟨st.sure,st.loose, -1⟩ := by unfold St.fuse; rw [show max n (-1) = -1 from by omega]
   rw [hx]
   clear hx
   go_enter Tryz.func32,Tryz.ntmps32
   go_wp2
   go_end0
   exact ⟨⟨_,rfl⟩,H.out.setLeft (-1),Loc.setCell w ⟨p,2,none⟩ _ (Or.inl rfl)⟩

theorem info42 : (Tryz.prog.info? 123).map (fun i => (i.zero,i.size,i.bytes)) = some (some (.agg #[.int .i64 0,.string ⟨#[]⟩]),2,24) := by kernel_rfl
theorem RAt.appended {w1 w2 : World} {p : Nat} {vS vL vL' : Value} {st : St} {o : Obj} {x : Nat × ByteArray} (h : RAt w1 p vS vL st)
   (hown : w2.ownsRow 0 123 2 vL' (st.loose.length + 1) (looseCells st.loose ++ [.int .i64 (x.1 : Int),.string x.2])) (hg : (w1.alloc o).grownBy w2 vL.ownBlock) (hat : vL'.ownBlock = vL.ownBlock \/ vL'.ownBlock = some (w1.heap.size + 1)) :
   RAt (w2.setCell ⟨p,1,none⟩ vL') p vS vL' ⟨st.sure,st.loose ++ [x],st.left⟩ /\ Loc (RF p vS vL) (RF p vS vL') w1 (w2.setCell ⟨p,1,none⟩ vL') := by
 have hp : p < w1.heap.size := h.lt p (Or.inl rfl)
 have e1 : w2.heap[p]? = some (.cells #[vS,vL,.int .i64 st.left] 49 (0,0)) :=
   (hg.block p (by simp; omega) (fun e => h.ne1 e.symm)).trans ((Below.heap_alloc w1 o p hp).trans h.head)
 have hS : w2.ownsRow 0 9 1 vS st.sure.length (st.sure.map Value.string) := own_same h.sure (fun g hgS => by
   have hlt := own_lt h.sure hgS
   exact (hg.block g (by simp; omega) (fun e => h.ne2 hgS e.symm)).trans (Below.heap_alloc w1 o g hlt))
 have hL : w2.ownsRow 0 123 2 vL' (st.loose ++ [x]).length (looseCells (st.loose ++ [x])) := by
   rw [looseCells_snoc,List.length_append]; exact hown
 have nS : vS.ownBlock ≠ some p := h.ne0
 have nL : vL'.ownBlock ≠ some p := fun e => by
   obtain ⟨cur,hc⟩ := row_type hL e
   rw [e1] at hc
   cases hc
 refine ⟨⟨?_,?_,?_⟩,?_⟩
 · rw [heap_set3 e1]; rfl
 · exact own_same hS (fun g hgS => Below.heap_setCell w2 ⟨p,1,none⟩ vL' g (fun e => nS (by rw [<- show g = p from e]; exact hgS)))
 · exact own_same hL (fun g hgL => Below.heap_setCell w2 ⟨p,1,none⟩ vL' g (fun e => nL (by rw [<- show g = p from e]; exact hgL)))
 · have l1 : Loc (RF p vS vL) (RF p vS vL) w1 (w1.alloc o) := Loc.alloc _ _ _
   have l2 : Loc (RF p vS vL) (RF p vS vL') (w1.alloc o) w2 := Loc.of_grown hg (fun k e => Or.inr (Or.inr e)) (fun k hk => by
     rcases hk with h1 | h1 | h1
     · exact Or.inl (Or.inl h1)
     · exact Or.inl (Or.inr (Or.inl h1))
     · rcases hat with h2 | h2
       · exact Or.inl (Or.inr (Or.inr (h2 ▸ h1)))
       · rw [h2] at h1
         cases h1
         exact Or.inr (by simp))
   exact (l1.trans l2).trans (Loc.setCell w2 ⟨p,1,none⟩ vL' (Or.inl rfl))
theorem RAt.headIn {w1 w2 : World} {p : Nat} {vS vL : Value} {st : St} {o : Obj} (h : RAt w1 p vS vL st) (hg : (w1.alloc o).grownBy w2 vL.ownBlock) : w2.cell? ⟨p,1,none⟩ = some vL /\ w2.frozen? ⟨p,1,none⟩ = false := by
 have hp : p < w1.heap.size := h.lt p (Or.inl rfl)
 have e1 : w2.heap[p]? = some (.cells #[vS,vL,.int .i64 st.left] 49 (0,0)) :=
   (hg.block p (by simp; omega) (fun e => h.ne1 e.symm)).trans ((Below.heap_alloc w1 o p hp).trans h.head)
 exact ⟨by simp [World.cell?,e1],by simp [World.frozen?,e1]⟩
set_option maxRecDepth 10000 in
set_option maxHeartbeats 1000000 in
theorem rWrite (p : Nat) (vS vL : Value) (st : St) (b : Int) (d : ByteArray) (w : World) (h : RAt w p vS vL st) (hok : st.Ok) (hl : st.loose.length <= 100000) :
   Calls Tryz.prog 35 #[.pointer (some ⟨p,0,none⟩),.int .i64 b,.string d] w fun e w' => e = .returned (.int .i64 (((st.write b d).1 : Nat) : Int)) /\ ∃ vL',RAt w' p vS vL' (st.write b d).2 /\ Loc (RF p vS vL) (RF p vS vL') w w' := by
 obtain ⟨i0,hi,hz0,hz1,hz2⟩ := info_parts info42
 have HI := hide (And.intro hi (And.intro hz0 (And.intro hz1 hz2)))
 have H := hide h
 have HOk := hide hok
 have HD := hide (rDown p vS vL st w h)
 have HT := hide (rThere p vS vL st b w h hok.few)
 have HC := hide (rCounts p vS vL st w h hok.left)
 clear hi hz0 hz1 hz2 h hok
 by_cases h0 : st.left = 0
 · have hw : st.write b d = (50,st) := by unfold St.write; rw [if_pos h0]
   rw [hw]
   have hb : (st.left == 0) = true := by simpa using h0
   rw [hb] at HD
   clear hw hb h0
   go_enter Tryz.func35,Tryz.ntmps35
   go_wp2_with fail
   refine HD.out.mono ?_
   rintro e w1 ⟨rfl,rfl⟩
   go_wp2
   go_ret
   exact ⟨rfl,vL,H.out,Loc.refl _ _⟩
 · have hb : (st.left == 0) = false := by simpa using h0
   rw [hb] at HD
   clear hb
   by_cases h1 : 0 <= b /\ b < (st.sure.length : Int)
   · rw [decide_eq_true h1] at HT
     by_cases h2 : d.size = 256
     · have hw : st.write b d = (0,⟨st.sure,st.loose ++ [(b.toNat,d)],counted st.left⟩) := by unfold St.write; rw [if_neg h0,if_neg (fun h => h h1),if_neg (fun h => h h2)]
       rw [hw]
       have hz : (d.size : Int) = 256 := by omega
       obtain ⟨m,hm⟩ : ∃ m : Nat,b = (m : Int) := ⟨b.toNat,by omega⟩
       subst hm
       have hml : m < 4096 := by have := HOk.out.few; omega
       clear hw h0 h1 h2
       go_enter Tryz.func35,Tryz.ntmps35
       go_wp2_with fail
       refine HD.out.mono ?_
       rintro e w1 ⟨rfl,rfl⟩
       go_wp2_with fail
       refine HT.out.mono ?_
       rintro e w1 ⟨rfl,rfl⟩
       go_wp2_with fail
       refine HC.out.mono ?_
       rintro e w1 ⟨⟨v1,rfl⟩,h1,l1⟩
       have H1 := hide h1
       have L1 := hide l1
       have hc1 := h1.cell1
       have hf1 := h1.free 1
       have hr1 := h1.loose
       have HR1 := hide hr1
       clear h1 l1 hr1
       go_wp2_with (at_builtin; refine wpList_append_own_at _ rfl _ _ 47 rfl 0 123 i0 (.agg #[.int .i64 0,.string ⟨#[]⟩]) 2 24 Tryz.underlying47 HI.out.1 HI.out.2.1 HI.out.2.2.1 HI.out.2.2.2 rfl (by decide) _ _ _ rfl (World.ownsRow.alloc HR1.out _) ⟨w1.heap.size,0,none⟩ 1 1 [.int .i64 (m : Int),.string d] rfl rfl ?c1 ?c2 ?c3 ?c4 ?c5 ?_)
       case c1 =>
         intro j u hj
         match j,hj with
         | 0,hj => simp at hj; subst hj; simp [Addr.add,go_sem]
         | 1,hj => simp at hj; subst hj; simp [Addr.add,go_sem]
       case c2 => intro u hu; simp at hu; rcases hu with rfl | rfl <;> rfl
       case c3 => unfold maxLen; omega
       case c4 => omega
       case c5 => omega
       · intro lv' w2 hown2 hgrow2 _ hat2
         obtain ⟨hc2,hf2⟩ := H1.out.headIn hgrow2
         obtain ⟨ha1,ha2⟩ := H1.out.appended (x := (m,d)) hown2 hgrow2 hat2
         obtain ⟨a',c',rfl,_⟩ := slice_of hown2
         have HA := hide (And.intro ha1 (L1.out.trans ha2))
         clear hown2 hgrow2 hat2 ha1 ha2
         go_wp2
         go_ret
         exact ⟨rfl,_,HA.out.1,HA.out.2⟩
     · have hw : st.write b d = (2,st) := by unfold St.write; rw [if_neg h0,if_neg (fun h => h h1),if_pos h2]
       rw [hw]
       have hz : ¬ ((d.size : Int) = 256) := by omega
       clear hw h0 h1 h2
       go_enter Tryz.func35,Tryz.ntmps35
       go_wp2_with fail
       refine HD.out.mono ?_
       rintro e w1 ⟨rfl,rfl⟩
       go_wp2_with fail
       refine HT.out.mono ?_
       rintro e w1 ⟨rfl,rfl⟩
       go_wp2
       go_ret
       exact ⟨rfl,vL,H.out,Loc.refl _ _⟩
   · rw [decide_eq_false h1] at HT
     have hw : st.write b d = (5,st) := by unfold St.write; rw [if_neg h0,if_pos h1]
     rw [hw]
     clear hw h0 h1
     go_enter Tryz.func35,Tryz.ntmps35
     go_wp2_with fail
     refine HD.out.mono ?_
     rintro e w1 ⟨rfl,rfl⟩
     go_wp2_with fail
     refine HT.out.mono ?_
     rintro e w1 ⟨rfl,rfl⟩
     go_wp2
     go_ret
     exact ⟨rfl,vL,H.out,Loc.refl _ _⟩

theorem rev_take (l : List (Nat × ByteArray)) (k : Nat) (h : k < l.length) : (l.take (k + 1)).reverse = l[k] :: (l.take k).reverse := by
 rw [List.take_succ_eq_append_getElem h,List.reverse_append]; rfl
theorem row_cell {w : World} {base : Nat} {e : TypeId} {size n : Nat} {a : Option Addr} {c : Nat} {xs : List Value} (h : w.ownsRow base e size (.slice a n c) n xs) (hn : 0 < n) : ∃ g,a = some ⟨g,0,none⟩ /\ ∀ j,j < n * size -> w.cell? ⟨g,j,none⟩ = xs[j]? := by
 rcases h.2 with ⟨h1,h2⟩ | ⟨g,cap,cur,h1,_⟩
 · omega
 · cases h1
   exact ⟨g,rfl,fun j hj => World.ownsRow.cellAt h j hj⟩
set_option maxRecDepth 10000 in
set_option maxHeartbeats 1000000 in
theorem rRead (p : Nat) (vS vL : Value) (st : St) (b : Int) (w : World) (h : RAt w p vS vL st) (hok : st.Ok) (hl : st.loose.length <= 100000) :
   Calls Tryz.prog 90 #[.pointer (some ⟨p,0,none⟩),.int .i64 b] w fun e w' => e = .returned (.tuple #[.string (st.read b).1,.int .i64 (((st.read b).2 : Nat) : Int)]) /\ w' = w := by
 have HD := hide (rDown p vS vL st w h)
 have HT := hide (rThere p vS vL st b w h hok.few)
 have HOk := hide hok
 obtain ⟨aS,cS,rfl,_⟩ := slice_of h.sure
 obtain ⟨aL,cL,rfl,_⟩ := slice_of h.loose
 have hc0 := h.cell0
 have hc1 := h.cell1
 have H := hide h
 clear h hok
 by_cases h0 : st.left = 0
 · have hw : st.read b = (noText,50) := by unfold St.read; rw [if_pos h0]
   rw [hw]
   have hb : (st.left == 0) = true := by simpa using h0
   rw [hb] at HD
   clear hw hb h0
   go_enter Tryz.func90,Tryz.ntmps90
   go_wp2_with fail
   refine HD.out.mono ?_
   rintro e w1 ⟨rfl,rfl⟩
   go_wp2
   go_ret2
   exact ⟨rfl,rfl⟩
 · have hb : (st.left == 0) = false := by simpa using h0
   rw [hb] at HD
   clear hb
   by_cases h1 : 0 <= b /\ b < (st.sure.length : Int)
   · rw [decide_eq_true h1] at HT
     have hw : st.read b = (stands st.sure b.toNat st.loose.reverse,0) := by unfold St.read; rw [if_neg h0,if_neg (fun h => h h1)]
     rw [hw]
     obtain ⟨m,hm⟩ : ∃ m : Nat,b = (m : Int) := ⟨b.toNat,by omega⟩
     subst hm
     have hms : m < st.sure.length := by omega
     have hmf := HOk.out.few
     obtain ⟨gS,rfl,hcS⟩ := row_cell H.out.sure (by omega)
     have hcm := hcS m (by omega)
     have hgm : (st.sure.map Value.string)[m]? = some (.string (st.sure.getD m noText)) := by simp [hms]
     rw [hgm] at hcm
     rw [show ((m : Int)).toNat = m from by omega]
     generalize hT : stands st.sure m st.loose.reverse = T
     have HT2 := hide hT
     clear hT hw h0 h1 hcS hgm
     generalize hn : st.sure.length = n at *
     go_enter Tryz.func90,Tryz.ntmps90
     go_wp2_with fail
     refine HD.out.mono ?_
     rintro e w1 ⟨rfl,rfl⟩
     go_wp2_with fail
     refine HT.out.mono ?_
     rintro e w1 ⟨rfl,rfl⟩
     go_wp2_with fail
     go_loop [6] (fun i => ∃ k : Nat,k <= st.loose.length /\ i = .int .i64 ((k : Int) - 1) /\ stands st.sure m (st.loose.take k).reverse = T) (fun i => (intOf i + 1).toNat)
     case atStart => exact ⟨st.loose.length,Nat.le_refl _,rfl,by rw [List.take_length]; exact HT2.out⟩
     case round =>
       obtain ⟨k,hk,rfl,hst⟩ := hrel
       have HS := hide hst
       clear hst
       cases k with
       | zero =>
         have hT : st.sure.getD m noText = T := HS.out
         rw [hT] at hcm
         go_wp2
         go_ret2
         exact ⟨rfl,rfl⟩
       | succ k =>
         have hkl : k < st.loose.length := hk
         obtain ⟨gL,rfl,hcL⟩ := row_cell H.out.loose (by omega)
         have e1 := hcL (k * 2) (by omega)
         have e2 := hcL (k * 2 + 1) (by omega)
         rw [(looseCells_at st.loose k hkl).1] at e1
         rw [(looseCells_at st.loose k hkl).2] at e2
         have hs2 := HS.out
         rw [rev_take _ _ hkl] at hs2
         unfold stands at hs2
         have HS2 := hide hs2
         have hki : (((k + 1 : Nat) : Int) - 1) = (k : Int) := by omega
         rw [hki]
         clear hs2 hcL hki HS
         by_cases heq : st.loose[k].1 = m
         · have hs3 := HS2.out
           rw [if_pos heq] at hs3
           rw [hs3] at e2
           rw [heq] at e1
           go_wp2
           go_ret2
           exact ⟨rfl,rfl⟩
         · have hs3 := HS2.out
           rw [if_neg heq] at hs3
           have HS3 := hide hs3
           have hez : ¬ (((st.loose[k].1 : Nat) : Int) = (m : Int)) := by omega
           clear hs3 HS2
           generalize hq : st.loose[k].1 = x at *
           clear hq
           go_wp2
           go_round
           case rel => exact ⟨k,by omega,rfl,HS3.out⟩
           case measure => simp [intOf]
   · rw [decide_eq_false h1] at HT
     have hw : st.read b = (noText,5) := by unfold St.read; rw [if_neg h0,if_pos h1]
     rw [hw]
     clear hw h0 h1
     go_enter Tryz.func90,Tryz.ntmps90
     go_wp2_with fail
     refine HD.out.mono ?_
     rintro e w1 ⟨rfl,rfl⟩
     go_wp2_with fail
     refine HT.out.mono ?_
     rintro e w1 ⟨rfl,rfl⟩
     go_wp2
     go_ret2
     exact ⟨rfl,rfl⟩

theorem laid_snoc : ∀ (l : List (Nat × ByteArray)) (s : List ByteArray) (x : Nat × ByteArray),laid s (l ++ [x]) = (laid s l).set x.1 x.2
 | [],_,_ => rfl
 | w :: l,s,x => by
   show laid (s.set w.1 w.2) (l ++ [x]) = _
   rw [laid_snoc l]
   rfl
theorem laid_take (l : List (Nat × ByteArray)) (s : List ByteArray) (k : Nat) (h : k < l.length) : laid s (l.take (k + 1)) = (laid s (l.take k)).set l[k].1 l[k].2 := by
 rw [List.take_succ_eq_append_getElem h,laid_snoc]
theorem joined_snoc (l : List ByteArray) (t : ByteArray) : joined (l ++ [t]) = joined l ++ t := by unfold joined; rw [List.foldl_append]; rfl
theorem joined_from : ∀ (l : List ByteArray) (s : ByteArray),(∀ t ∈ l,t.size = 256) -> (l.foldl (fun s t => s ++ t) s).size = s.size + 256 * l.length
 | [],_,_ => rfl
 | t :: l,s,h => by
   rw [List.foldl_cons,joined_from l (s ++ t) (fun u hu => h u (List.mem_cons_of_mem _ hu)),ByteArray.size_append,h t (by simp),List.length_cons]
   omega
theorem joined_size (l : List ByteArray) (h : ∀ t ∈ l,t.size = 256) : (joined l).size = 256 * l.length := by
 unfold joined
 rw [joined_from l noText h]
 show 0 + _ = _
 omega
set_option maxRecDepth 10000 in
set_option maxHeartbeats 1000000 in
theorem rSure (p : Nat) (vS vL : Value) (st : St) (w : World) (h : RAt w p vS vL st) (hok : st.Ok) :
   Calls Tryz.prog 15 #[.pointer (some ⟨p,0,none⟩)] w fun e w' => e = .returned (.string st.text) /\ w' = w := by
 obtain ⟨aS,cS,rfl,_⟩ := slice_of h.sure
 have hc0 := h.cell0
 have H := hide h
 have HOk := hide hok
 have hfew := hok.few
 obtain ⟨gS,rfl,hcS⟩ := row_cell h.sure hok.some
 have HC := hide hcS
 clear h hok hcS
 generalize hX : st.text = X
 have HX := hide hX
 clear hX
 go_enter Tryz.func15,Tryz.ntmps15
 go_wp2_with fail
 go_loop [3,4] (fun sv i => ∃ k : Nat,k <= st.sure.length /\ i = .int .i64 (k : Int) /\ sv = .string (joined (st.sure.take k))) (fun _ i => st.sure.length - (intOf i).toNat)
 case atStart => exact ⟨0,Nat.zero_le _,rfl,rfl⟩
 case round =>
   obtain ⟨k,hk,rfl,rfl⟩ := hrel
   by_cases hlt : k < st.sure.length
   · have hc := HC.out k (by omega)
     have hg : (st.sure.map Value.string)[k]? = some (.string st.sure[k]) := by simp [hlt]
     rw [hg] at hc
     have hz : (joined (st.sure.take k)).size = 256 * k := by
       rw [joined_size _ (fun t ht => HOk.out.full t (List.mem_of_mem_take ht)),List.length_take,Nat.min_eq_left hk]
     have hzl : (joined (st.sure.take k)).size <= 1048576 := by omega
     have ht : st.sure[k].size <= 256 := Nat.le_of_eq (HOk.out.full _ (List.getElem_mem hlt))
     have HJ : Hid (joined (st.sure.take (k + 1)) = joined (st.sure.take k) ++ st.sure[k]) := by
       unfold Hid; rw [List.take_succ_eq_append_getElem hlt,joined_snoc]
     clear hg hz
     generalize joined (st.sure.take k) = J at *
     generalize st.sure[k] = T at *
     go_wp2
     go_round
     case rel => exact ⟨k + 1,hlt,by go_num,by rw [HJ.out]⟩
     case measure => simp [intOf]; omega
   · have hke : k = st.sure.length := by omega
     have hx : joined (st.sure.take k) = X := by rw [hke,List.take_length]; exact HX.out
     rw [hx]
     subst hke
     go_wp2
     go_ret
     exact ⟨rfl,rfl⟩
theorem RAt.setS {u : World} {p g n c : Nat} {vL : Value} {s : List ByteArray} {l : List (Nat × ByteArray)} {left : Int} (h : RAt u p (.slice (some ⟨g,0,none⟩) n c) vL ⟨s,l,left⟩) (hn : n = s.length) (b : Nat) (d : ByteArray) :
   RAt (u.setCell ⟨g,b,none⟩ (.string d)) p (.slice (some ⟨g,0,none⟩) n c) vL ⟨s.set b d,l,left⟩ := by
 subst hn
 have n0 : g ≠ p := fun e => h.ne0 (by rw [e]; rfl)
 have n2 : vL.ownBlock ≠ some g := h.ne2 rfl
 refine ⟨?_,?_,?_⟩
 · exact (Below.heap_setCell u ⟨g,b,none⟩ _ p (fun e => n0 (by rw [show p = g from e]))).trans h.head
 · have := (World.ownsRow.stored h.sure b (.string d)).1
   rw [<- List.map_set] at this
   show (u.setCell ⟨g,b,none⟩ (.string d)).ownsRow 0 9 1 _ (s.set b d).length ((s.set b d).map Value.string)
   rw [List.length_set]
   exact this
 · exact own_same h.loose (fun k hk => Below.heap_setCell u ⟨g,b,none⟩ _ k (fun e => n2 (by rw [<- show k = g from e]; exact hk)))
theorem RAt.drew {u : World} {p : Nat} {vS vL : Value} {st : St} (h : RAt u p vS vL st) : RAt u.drew p vS vL st := ⟨h.head,h.sure,h.loose⟩
set_option maxRecDepth 10000 in
set_option maxHeartbeats 2000000 in
theorem rSync (p : Nat) (vS vL : Value) (st : St) (w : World) (h : RAt w p vS vL st) (hok : st.Ok) (hl : st.loose.length <= 100000) :
   Calls Tryz.prog 97 #[.pointer (some ⟨p,0,none⟩)] w fun e w' => e = .returned (.int .i64 ((st.sync.1 : Nat) : Int)) /\ ∃ vL',RAt w' p vS vL' st.sync.2 /\ Loc (RF p vS vL) (RF p vS vL') w w' := by
 have HD := hide (rDown p vS vL st w h)
 have HC := hide (rCounts p vS vL st w h hok.left)
 have H := hide h
 have HOk := hide hok
 have hfew := hok.few
 clear h hok
 by_cases h0 : st.left = 0
 · have hw : st.sync = (50,st) := by unfold St.sync; rw [if_pos h0]
   rw [hw]
   have hb : (st.left == 0) = true := by simpa using h0
   rw [hb] at HD
   clear hw hb h0
   go_enter Tryz.func97,Tryz.ntmps97
   go_wp2_with fail
   refine HD.out.mono ?_
   rintro e w1 ⟨rfl,rfl⟩
   go_wp2
   go_ret
   exact ⟨rfl,vL,H.out,Loc.refl _ _⟩
 · have hb : (st.left == 0) = false := by simpa using h0
   rw [hb] at HD
   have hw : st.sync = (0,⟨laid st.sure st.loose,[],counted st.left⟩) := by unfold St.sync; rw [if_neg h0]
   rw [hw]
   clear hb hw h0
   obtain ⟨aS,cS,rfl,_⟩ := slice_of H.out.sure
   obtain ⟨gS,rfl,_⟩ := row_cell H.out.sure HOk.out.some
   obtain ⟨aL,cL,rfl,_⟩ := slice_of H.out.loose
   go_enter Tryz.func97,Tryz.ntmps97
   go_wp2_with fail
   refine HD.out.mono ?_
   rintro e w0 ⟨rfl,hw0⟩
   obtain rfl := hw0.symm
   go_wp2_with fail
   refine HC.out.mono ?_
   rintro e w1 ⟨⟨v1,rfl⟩,h1,l1⟩
   have H1 := hide h1
   have L1 := hide l1
   clear h1 l1
   go_wp2_with fail
   go_loopw [3] (fun i wr => ∃ k : Nat,k <= st.loose.length /\ i = .int .i64 (k : Int) /\ RAt wr p (.slice (some ⟨gS,0,none⟩) st.sure.length cS) (.slice aL st.loose.length cL) ⟨laid st.sure (st.loose.take k),st.loose,counted st.left⟩ /\ Loc (RF p (.slice (some ⟨gS,0,none⟩) st.sure.length cS) (.slice aL st.loose.length cL)) (RF p (.slice (some ⟨gS,0,none⟩) st.sure.length cS) (.slice aL st.loose.length cL)) w wr) (fun i _ => st.loose.length - (intOf i).toNat)
   case atStart => exact ⟨0,Nat.zero_le _,rfl,H1.out,L1.out⟩
   case round =>
     obtain ⟨k,hk,rfl,hR,hLoc⟩ := hrel
     have HR := hide hR
     have HL := hide hLoc
     have hc0 := hR.cell0
     have hc1 := hR.cell1
     by_cases hlt : k < st.loose.length
     · obtain ⟨gL,rfl,hcL⟩ := row_cell hR.loose (by show 0 < st.loose.length; omega)
       have e1 := hcL (k * 2) (by show k * 2 < st.loose.length * 2; omega)
       have e2 := hcL (k * 2 + 1) (by show k * 2 + 1 < st.loose.length * 2; omega)
       rw [(looseCells_at st.loose k hlt).1] at e1
       rw [(looseCells_at st.loose k hlt).2] at e2
       have hth := HOk.out.there _ (List.getElem_mem hlt)
       have hRs : wr.ownsRow 0 9 1 (.slice (some ⟨gS,0,none⟩) st.sure.length cS) st.sure.length ((laid st.sure (st.loose.take k)).map Value.string) := by
         have h1 := hR.sure
         rw [show (St.mk (laid st.sure (st.loose.take k)) st.loose (counted st.left)).sure.length = st.sure.length from laid_length _ _] at h1
         exact h1
       have hcell : ∃ v,wr.cell? ⟨gS,st.loose[k].1,none⟩ = some v := by
         obtain ⟨g',hg',hcS⟩ := row_cell hRs (by omega)
         cases hg'
         rw [hcS st.loose[k].1 (by omega)]
         have hll := laid_length (st.loose.take k) st.sure
         exact ⟨_,List.getElem?_eq_getElem (by rw [List.length_map]; omega)⟩
       obtain ⟨v0,e3⟩ := hcell
       have hfr : wr.frozen? ⟨gS,st.loose[k].1,none⟩ = false := World.ownsRow.frozenAt hRs _
       have HNext : Hid (laid st.sure (st.loose.take (k + 1)) = (laid st.sure (st.loose.take k)).set st.loose[k].1 st.loose[k].2) := laid_take _ _ _ hlt
       have hx : ((st.loose[k].1 : Nat) : Int) < (st.sure.length : Int) := by omega
       clear hR hLoc hcL hth hRs
       generalize st.loose[k].1 = x at *
       generalize st.loose[k].2 = d at *
       go_wp2_with fail
       go_region
       all_goals
         go_wp2
         go_roundw
         case rel => exact ⟨k + 1,hlt,by go_num,by rw [HNext.out]; exact (HR.out.setS (laid_length _ _).symm x d).drew,(HL.out.trans (Loc.setCell wr ⟨gS,x,none⟩ _ (Or.inr (Or.inl rfl)))).drew⟩
         case measure => simp [intOf]; omega
     · have hke : k = st.loose.length := by omega
       subst hke
       rw [List.take_length] at hR HR
       have hf1 := hR.free 1
       clear hR hLoc
       go_wp2
       go_ret
       refine ⟨rfl,.slice none 0 0,HR.out.setHead rfl HR.out.rowS (World.ownsRow_nil _ _ _ _),HL.out.trans ⟨rfl,rfl,rfl,by simp [World.setCell],fun j _ hF => Below.heap_setCell wr ⟨p,1,none⟩ _ j (fun e => hF (Or.inl e)),fun j hj => ?_⟩⟩
       rcases hj with h1 | h1 | h1
       · exact Or.inl (Or.inl h1)
       · exact Or.inl (Or.inr (Or.inl h1))
       · cases h1

def IntsAt (w : World) (a : Option Addr) (l : List Int) : Prop :=
 l = [] \/ ∃ b off,a = some ⟨b,off,none⟩ /\ ∀ j (hj : j < l.length),w.cell? ⟨b,off + j,none⟩ = some (.int .i64 l[j])
def Apart (a : Option Addr) (l : List Int) (F : Nat -> Prop) : Prop := l ≠ [] -> ∀ b off,a = some ⟨b,off,none⟩ -> ¬ F b
theorem crashed_snoc (picks : List Int) : ∀ (l : List (Nat × ByteArray)) (i : Nat) (s : List ByteArray) (x : Nat × ByteArray),crashed s picks i (l ++ [x]) = (crashed s picks i l).set x.1 (torn ((crashed s picks i l).getD x.1 noText) x.2 (picks.getD (i + l.length) 0))
 | [],i,s,x => rfl
 | w :: l,i,s,x => by
   show crashed (s.set w.1 _) picks (i + 1) (l ++ [x]) = _
   rw [crashed_snoc picks l,List.length_cons,show i + 1 + l.length = i + (l.length + 1) from by omega]
   rfl
theorem crashed_take (picks : List Int) (l : List (Nat × ByteArray)) (s : List ByteArray) (k : Nat) (h : k < l.length) :
   crashed s picks 0 (l.take (k + 1)) = (crashed s picks 0 (l.take k)).set l[k].1 (torn ((crashed s picks 0 (l.take k)).getD l[k].1 noText) l[k].2 (picks.getD k 0)) := by
 rw [List.take_succ_eq_append_getElem h,crashed_snoc,List.length_take,Nat.zero_add,Nat.min_eq_left (by omega)]
theorem torn_at (old new : ByteArray) (x : Int) (q : Nat) (h : max (min x 256) 0 = (q : Int)) : torn old new x = new.extract 0 q ++ old.extract q old.size := by
 unfold torn; rw [h]; rfl
theorem IntsAt.loc {F F' : Nat -> Prop} {u v : World} {a : Option Addr} {l : List Int} (h : IntsAt u a l) (hl : Loc F F' u v) (hap : Apart a l F) : IntsAt v a l := by
 rcases h with rfl | ⟨b,off,rfl,hc⟩
 · exact Or.inl rfl
 · refine Or.inr ⟨b,off,rfl,fun j hj => ?_⟩
   have h1 := hc j hj
   exact (World.cell?_of_block (w := u) (hl.block b (World.block_lt_of_cell? u _ h1) (hap (fun e => by rw [e] at hj; exact absurd hj (by simp)) b off rfl))).trans h1
theorem torn_zero {old new : ByteArray} {x : Int} (ho : old.size = 256) (h : max (min x 256) 0 = 0) : old.extract 0 256 = torn old new x := by
 rw [torn_at old new x 0 h,ho]
 apply ByteArray.ext
 simp
theorem torn_mid {old new : ByteArray} {x : Int} {q : Nat} (ho : old.size = 256) (h : max (min x 256) 0 = (q : Int)) : new.extract 0 q ++ old.extract q 256 = torn old new x := by
 rw [torn_at old new x q h,ho]
theorem torn_full {old new : ByteArray} {x : Int} (ho : old.size = 256) (h : max (min x 256) 0 = 256) : new.extract 0 256 = torn old new x := by
 rw [torn_at old new x 256 h,ho]
 apply ByteArray.ext
 simp
theorem RAt.nothing {u : World} {p : Nat} {vS vL : Value} {st : St} (h : RAt u p vS vL st) : RAt (u.setCell ⟨p,1,none⟩ (.slice none 0 0)) p vS (.slice none 0 0) ⟨st.sure,[],st.left⟩ /\ Loc (RF p vS vL) (RF p vS (.slice none 0 0)) u (u.setCell ⟨p,1,none⟩ (.slice none 0 0)) := by
 refine ⟨h.setHead rfl h.rowS (World.ownsRow_nil _ _ _ _),⟨rfl,rfl,rfl,by simp [World.setCell],fun j _ hF => Below.heap_setCell u ⟨p,1,none⟩ _ j (fun e => hF (Or.inl e)),fun j hj => ?_⟩⟩
 rcases hj with h1 | h1 | h1
 · exact Or.inl (Or.inl h1)
 · exact Or.inl (Or.inr (Or.inl h1))
 · cases h1
theorem crashStep {w wr : World} {p gS n c x : Nat} {vL : Value} {s s' : List ByteArray} {l : List (Nat × ByteArray)} {left : Int} {o : Obj} {t t' : ByteArray} (h : RAt wr p (.slice (some ⟨gS,0,none⟩) n c) vL ⟨s,l,left⟩) (hL : Loc (RF p (.slice (some ⟨gS,0,none⟩) n c) vL) (RF p (.slice (some ⟨gS,0,none⟩) n c) vL) w wr)
   (hn : n = s.length) (ht : t = t') (hs : s' = s.set x t') :
   RAt ((wr.setCell ⟨gS,x,none⟩ (.string t)).alloc o).drew p (.slice (some ⟨gS,0,none⟩) n c) vL ⟨s',l,left⟩ /\ Loc (RF p (.slice (some ⟨gS,0,none⟩) n c) vL) (RF p (.slice (some ⟨gS,0,none⟩) n c) vL) w ((wr.setCell ⟨gS,x,none⟩ (.string t)).alloc o).drew := by
 subst ht; subst hs
 have h1 := h.setS hn x t
 exact ⟨(h1.below ((Below.refl _ _).alloc (Nat.le_refl _) _)).drew,((hL.trans (Loc.setCell wr ⟨gS,x,none⟩ _ (Or.inr (Or.inl rfl)))).trans (Loc.alloc _ _ _)).drew⟩
set_option maxRecDepth 10000 in
set_option maxHeartbeats 4000000 in
theorem rCrash (p : Nat) (vS vL : Value) (st : St) (aP : Option Addr) (cP : Nat) (picks : List Int) (w : World) (h : RAt w p vS vL st) (hok : st.Ok) (hl : st.loose.length <= 100000) (hP : IntsAt w aP picks) (hap : Apart aP picks (RF p vS vL)) (_hpl : picks.length <= 140737488351232) :
   Calls Tryz.prog 31 #[.pointer (some ⟨p,0,none⟩),.slice aP picks.length cP] w fun e w' => (∃ v,e = .returned v) /\ ∃ vL',RAt w' p vS vL' (st.crash picks) /\ Loc (RF p vS vL) (RF p vS vL') w w' := by
 have H := hide h
 have HOk := hide hok
 have hfew := hok.few
 have HP := hide hP
 have HAp := hide hap
 clear h hok hP hap
 obtain ⟨aS,cS,rfl,_⟩ := slice_of H.out.sure
 obtain ⟨gS,rfl,_⟩ := row_cell H.out.sure HOk.out.some
 obtain ⟨aL,cL,rfl,_⟩ := slice_of H.out.loose
 go_enter Tryz.func31,Tryz.ntmps31
 go_wp2_with fail
 go_loopw [4,5,6] (fun i _ _ wr => ∃ k : Nat,k <= st.loose.length /\ i = .int .i64 (k : Int) /\ RAt wr p (.slice (some ⟨gS,0,none⟩) st.sure.length cS) (.slice aL st.loose.length cL) ⟨crashed st.sure picks 0 (st.loose.take k),st.loose,st.left⟩ /\ Loc (RF p (.slice (some ⟨gS,0,none⟩) st.sure.length cS) (.slice aL st.loose.length cL)) (RF p (.slice (some ⟨gS,0,none⟩) st.sure.length cS) (.slice aL st.loose.length cL)) w wr) (fun i _ _ _ => st.loose.length - (intOf i).toNat)
 case atStart => exact ⟨0,Nat.zero_le _,rfl,H.out,Loc.refl _ _⟩
 case round =>
   obtain ⟨k,hk,rfl,hR,hLoc⟩ := hrel
   have HR := hide hR
   have HL := hide hLoc
   have hc0 := hR.cell0
   have hc1 := hR.cell1
   by_cases hlt : k < st.loose.length
   · obtain ⟨gL,rfl,hcL⟩ := row_cell hR.loose (by show 0 < st.loose.length; omega)
     have e1 := hcL (k * 2) (by show k * 2 < st.loose.length * 2; omega)
     have e2 := hcL (k * 2 + 1) (by show k * 2 + 1 < st.loose.length * 2; omega)
     rw [(looseCells_at st.loose k hlt).1] at e1
     rw [(looseCells_at st.loose k hlt).2] at e2
     have hth := HOk.out.there _ (List.getElem_mem hlt)
     have hcl := crashed_length picks (st.loose.take k) 0 st.sure
     have hRs : wr.ownsRow 0 9 1 (.slice (some ⟨gS,0,none⟩) st.sure.length cS) st.sure.length ((crashed st.sure picks 0 (st.loose.take k)).map Value.string) := by
       have h1 := hR.sure
       rw [show (St.mk (crashed st.sure picks 0 (st.loose.take k)) st.loose st.left).sure.length = st.sure.length from hcl] at h1
       exact h1
     have e3 : wr.cell? ⟨gS,st.loose[k].1,none⟩ = some (.string ((crashed st.sure picks 0 (st.loose.take k)).getD st.loose[k].1 noText)) := by
       obtain ⟨g',hg',hcS⟩ := row_cell hRs (by omega)
       cases hg'
       rw [hcS st.loose[k].1 (by omega),List.getElem?_map,List.getD_eq_getElem?_getD,List.getElem?_eq_getElem (by omega)]
       rfl
     have hos : ((crashed st.sure picks 0 (st.loose.take k)).getD st.loose[k].1 noText).size = 256 :=
       getD_size (crashed_full picks _ _ _ HOk.out.full (fun x hx => HOk.out.there x (List.mem_of_mem_take hx))) _ (by omega)
     have hfr : wr.frozen? ⟨gS,st.loose[k].1,none⟩ = false := World.ownsRow.frozenAt hRs _
     have HNext := hide (crashed_take picks st.loose st.sure k hlt)
     have hx : ((st.loose[k].1 : Nat) : Int) < (st.sure.length : Int) := by omega
     have hds : st.loose[k].2.size = 256 := hth.2
     have hP2 := HP.out.loc HL.out HAp.out
     have hgl : gS < wr.heap.size /\ p < wr.heap.size := ⟨HR.out.lt gS (Or.inr (Or.inl rfl)),HR.out.lt p (Or.inl rfl)⟩
     clear hR hLoc hcL hth hRs hcl
     generalize st.loose[k].1 = x at *
     generalize st.loose[k].2 = d at *
     generalize (crashed st.sure picks 0 (st.loose.take k)).getD x noText = old at *
     by_cases hkp : k < picks.length
     · obtain ⟨bP,oP,rfl,hcP⟩ : ∃ b off,aP = some ⟨b,off,none⟩ /\ ∀ j (hj : j < picks.length),wr.cell? ⟨b,off + j,none⟩ = some (.int .i64 picks[j]) := by
         rcases hP2 with h1 | h1
         · rw [h1] at hkp; exact absurd hkp (by simp)
         · exact h1
       have e5 := hcP k hkp
       have hpk : picks.getD k 0 = picks[k] := by rw [List.getD_eq_getElem?_getD,List.getElem?_eq_getElem hkp,Option.getD_some]
       clear hcP hP2
       generalize hy : picks[k] = y at *
       have HPK := hide hpk
       clear hpk hy
       have hkpz : (k : Int) < (picks.length : Int) := by omega
       rw [HPK.out] at HNext
       by_cases hy0 : y < 0
       · have hy1 : y <= 256 := by omega
         have HT : Hid (old.extract 0 256 = torn old d y) := torn_zero hos (by omega)
         go_wp2_with fail
         go_region
         all_goals
           go_wp2
           go_roundw
           case rel => exact ⟨k + 1,hlt,by go_num,crashStep HR.out HL.out (crashed_length _ _ _ _).symm HT.out HNext.out⟩
           case measure => simp [intOf]; omega
       · by_cases hy1 : y <= 256
         · obtain ⟨q,rfl⟩ : ∃ q : Nat,y = (q : Int) := ⟨y.toNat,by omega⟩
           have HT : Hid (d.extract 0 q ++ old.extract q 256 = torn old d (q : Int)) := torn_mid hos (by omega)
           have hq0 : (0 : Int) <= (q : Int) := by omega
           have hqd : (q : Int) <= 256 := by omega
           go_wp2_with fail
           go_region
           all_goals
             go_wp2
             go_roundw
             case rel => exact ⟨k + 1,hlt,by go_num,crashStep HR.out HL.out (crashed_length _ _ _ _).symm HT.out HNext.out⟩
             case measure => simp [intOf]; omega
         · have HT : Hid (d.extract 0 256 = torn old d y) := torn_full hos (by omega)
           go_wp2_with fail
           go_region
           all_goals
             go_wp2
             go_roundw
             case rel => exact ⟨k + 1,hlt,by go_num,crashStep HR.out HL.out (crashed_length _ _ _ _).symm HT.out HNext.out⟩
             case measure => simp [intOf]; omega
     · clear hP2
       have hkpz : ¬ ((k : Int) < (picks.length : Int)) := by omega
       have hpk : picks.getD k 0 = 0 := by rw [List.getD_eq_getElem?_getD,List.getElem?_eq_none (by omega)]; rfl
       rw [hpk] at HNext
       have HT : Hid (old.extract 0 256 = torn old d 0) := torn_zero hos (by omega)
       clear hpk
       go_wp2_with fail
       go_region
       all_goals
         go_wp2
         go_roundw
         case rel => exact ⟨k + 1,hlt,by go_num,crashStep HR.out HL.out (crashed_length _ _ _ _).symm HT.out HNext.out⟩
         case measure => simp [intOf]; omega
   · have hke : k = st.loose.length := by omega
     subst hke
     rw [List.take_length] at hR HR
     have hf1 := hR.free 1
     have hf2 := hR.free 2
     have hc2 := hR.cell2
     clear hR hLoc
     go_wp2
     go_end0
     have h1 := HR.out.nothing
     exact ⟨⟨_,rfl⟩,.slice none 0 0,h1.1.setLeft (-1),(HL.out.trans h1.2).trans (Loc.setCell _ ⟨p,2,none⟩ _ (Or.inl rfl))⟩
end Go.Proofs.YtchhojkhfdkhfaaGreatDoor
