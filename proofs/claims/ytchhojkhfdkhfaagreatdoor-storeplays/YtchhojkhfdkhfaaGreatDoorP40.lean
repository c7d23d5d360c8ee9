/- Joined texts. -/
import Derived.Test.YtchhojkhfdkhfaaGreatDoorP39
import Derived.Test.YtchhojkhfdkhfaaGreatDoorP25
import Derived.Test.YtchhojkhfdkhfaaGreatDoorP03
import Derived.Test.YtchhojkhfdkhfaaGreatDoorP05
import Derived.Test.YtchhojkhfdkhfaaGreatDoorP37
namespace Go.Proofs.YtchhojkhfdkhfaaGreatDoor
open Go Go.RowKit Frm
theorem sto_open_go (st : St) (k l : Nat) (hm : st.mayS (k : Int) (l : Int)) (h0 : (st.load 0 (2 * (k : Int))).2 = 0) :
   stoOpen st (k : Int) (l : Int) = if (walOpen st (lo k l (st.load 0 (2 * (k : Int))).1.1) l).1.1 ≠ 0 then (((walOpen st (lo k l (st.load 0 (2 * (k : Int))).1.1) l).1.1,0,noText,noText,[]),(walOpen st (lo k l (st.load 0 (2 * (k : Int))).1.1) l).2)
     else ((0,(st.load 0 (2 * (k : Int))).1.1,(st.load 0 (2 * (k : Int))).1.2,(walOpen st (lo k l (st.load 0 (2 * (k : Int))).1.1) l).1.2.1,(walOpen st (lo k l (st.load 0 (2 * (k : Int))).1.1) l).1.2.2),(walOpen st (lo k l (st.load 0 (2 * (k : Int))).1.1) l).2) := by
 unfold stoOpen
 rw [if_neg (fun x => x hm),if_neg (fun x => x h0),Int.toNat_natCast,Int.toNat_natCast]
theorem bo_row {q p Bk : Nat} {F F' : Nat -> Prop} {u0 v : World} {st : St} (h : Bo q p Bk F u0 st F' v) (B : Nat) (hB : B < u0.heap.size) (hn : ¬ F B /\ B ≠ p /\ B ≠ Bk) : v.heap[B]? = u0.heap[B]? :=
 h.l.block B hB (fun hh => hh.elim hn.1 (fun e => e.elim hn.2.1 hn.2.2))
set_option maxRecDepth 10000 in
set_option maxHeartbeats 1000000 in
theorem oSteps (q : Nat) (st : St) (F : Nat -> Prop) (ck lg : Int) (w u0 : World) (b c : Nat) (hD : DAt u0 q st F) (hok : st.Ok) (hl : st.loose.length + 3000 <= 8000) (h400 : st.sure.length <= 400) (hF : ∀ k,F k -> k < w.heap.size)
   (h : OIn w (some ⟨q,0,none⟩) ck lg (.int .u64 0) (.string ⟨#[]⟩) u0) (hb6 : w.heap.size + 6 <= b)
   (hrow : ∀ k (hk : k < 3),u0.cell? ⟨b,0 + k,none⟩ = some [Value.func (.func 42) #[areaV (some ⟨q,0,none⟩) ck lg] #[],.func (.func 46) #[] #[.pointer (some ⟨w.heap.size,0,none⟩),.pointer (some ⟨w.heap.size + 4,0,none⟩),.pointer (some ⟨w.heap.size + 5,0,none⟩)],.func (.func 49) #[] #[.pointer (some ⟨w.heap.size + 4,0,none⟩),.pointer (some ⟨w.heap.size + 5,0,none⟩)]][k]) :
   Calls Tryz.prog 41 #[.slice (some ⟨b,0,none⟩) 3 c] u0 fun e v => e = .returned (.int .i64 (((stoOpen st ck lg).1.1 : Nat) : Int)) /\
     (((stoOpen st ck lg).1.1 ≠ 0 /\ ∃ F',Bo q (w.heap.size + 3) (w.heap.size + 5) F u0 (stoOpen st ck lg).2 F' v) \/
      ((stoOpen st ck lg).1.1 = 0 /\ ∃ k l : Nat,ck = (k : Int) /\ lg = (l : Int) /\ st.mayS ck lg /\ (1 <= (stoOpen st ck lg).1.2.1 /\ (stoOpen st ck lg).1.2.1 <= 4611686018427387904) /\ (stoOpen st ck lg).1.2.2.2.1.size <= l * 255 /\ OFin w q k l F u0 (stoOpen st ck lg).2 (stoOpen st ck lg).1.2.1 (stoOpen st ck lg).1.2.2.1 (stoOpen st ck lg).1.2.2.2.1 (stoOpen st ck lg).1.2.2.2.2 v)) := by
 have hl1 := hok.some
 have hl2 := hok.few
 have hbl : b < u0.heap.size := World.block_lt_of_cell? u0 _ (hrow 0 (by decide))
 have hsz := h.size
 have key := inOrder8 b 0 c [Value.func (.func 42) #[areaV (some ⟨q,0,none⟩) ck lg] #[],.func (.func 46) #[] #[.pointer (some ⟨w.heap.size,0,none⟩),.pointer (some ⟨w.heap.size + 4,0,none⟩),.pointer (some ⟨w.heap.size + 5,0,none⟩)],.func (.func 49) #[] #[.pointer (some ⟨w.heap.size + 4,0,none⟩),.pointer (some ⟨w.heap.size + 5,0,none⟩)]]
   (fun k v => (k = 0 /\ ∃ F',Bo q (w.heap.size + 3) (w.heap.size + 5) F u0 st F' v /\ OIn w (some ⟨q,0,none⟩) ck lg (.int .u64 0) (.string ⟨#[]⟩) v) \/
     (k = 1 /\ st.mayS ck lg /\ ∃ F',Bo q (w.heap.size + 3) (w.heap.size + 5) F u0 st F' v /\ OIn w (some ⟨q,0,none⟩) ck lg (.int .u64 0) (.string ⟨#[]⟩) v) \/
     (k = 2 /\ st.mayS ck lg /\ (st.load 0 (2 * ck)).2 = 0 /\ ∃ F',Bo q (w.heap.size + 3) (w.heap.size + 5) F u0 st F' v /\ OIn w (some ⟨q,0,none⟩) ck lg (.int .u64 (((st.load 0 (2 * ck)).1.1 : Nat) : Int)) (.string (st.load 0 (2 * ck)).1.2) v) \/
     (k = 3 /\ (stoOpen st ck lg).1.1 = 0 /\ (∃ F' s,Bo q (w.heap.size + 3) (w.heap.size + 5) F u0 s F' v) /\ ∃ k l : Nat,ck = (k : Int) /\ lg = (l : Int) /\ st.mayS ck lg /\ (1 <= (stoOpen st ck lg).1.2.1 /\ (stoOpen st ck lg).1.2.1 <= 4611686018427387904) /\ (stoOpen st ck lg).1.2.2.2.1.size <= l * 255 /\ OFin w q k l F u0 (stoOpen st ck lg).2 (stoOpen st ck lg).1.2.1 (stoOpen st ck lg).1.2.2.1 (stoOpen st ck lg).1.2.2.2.1 (stoOpen st ck lg).1.2.2.2.2 v))
   (fun x v => x = (((stoOpen st ck lg).1.1 : Nat) : Int) /\ (stoOpen st ck lg).1.1 ≠ 0 /\ ∃ F',Bo q (w.heap.size + 3) (w.heap.size + 5) F u0 (stoOpen st ck lg).2 F' v) u0 (show (3 : Nat) <= 5000 by decide) ?_ ?_ ?_ ?_
 · refine key.mono ?_
   rintro e v ⟨x,rfl,⟨rfl,hr⟩ | ⟨hx,rfl,h0,hb⟩⟩
   · rcases hr with ⟨hk,_⟩ | ⟨hk,_⟩ | ⟨hk,_⟩ | ⟨_,h0,_,hb⟩
     · exact absurd (show (3 : Nat) = 0 from hk) (by decide)
     · exact absurd (show (3 : Nat) = 1 from hk) (by decide)
     · exact absurd (show (3 : Nat) = 2 from hk) (by decide)
     · exact ⟨by rw [h0]; rfl,Or.inr ⟨h0,hb⟩⟩
   · exact ⟨rfl,Or.inl ⟨h0,hb⟩⟩
 · intro k hk v hr
   have hb : ∃ F' s,Bo q (w.heap.size + 3) (w.heap.size + 5) F u0 s F' v := by
     rcases hr with ⟨_,F',hb,_⟩ | ⟨_,_,F',hb,_⟩ | ⟨_,_,_,F',hb,_⟩ | ⟨_,_,hb,_⟩
     · exact ⟨F',_,hb⟩
     · exact ⟨F',_,hb⟩
     · exact ⟨F',_,hb⟩
     · exact hb
   obtain ⟨F',s,hb⟩ := hb
   exact (cell_same8 (bo_row hb b hbl ⟨fun hf => by have := hF _ hf; omega,by omega,by omega⟩) _).trans (hrow k hk)
 · intro k hk
   match k,hk with
   | 0,_ => exact Or.inl ⟨_,rfl⟩
   | 1,_ => exact Or.inr (Or.inr (Or.inr (Or.inr (Or.inl ⟨_,_,_,rfl⟩))))
   | 2,_ => exact Or.inr (Or.inr (Or.inr (Or.inr (Or.inr (Or.inl ⟨_,_,rfl⟩)))))
 · intro k hk v hr
   rcases hr with ⟨rfl,F1,hb,ho⟩ | ⟨rfl,hm,F1,hb,ho⟩ | ⟨rfl,hm,hld,F1,hb,ho⟩ | ⟨rfl,_⟩
   · intro n a he
     cases he
     by_cases hm : st.mayS ck lg
     · refine calls_eq (a := #[areaV (some ⟨q,0,none⟩) ck lg]) rfl ((fault8_any (some ⟨q,0,none⟩) ck lg (st.sure.length : Int) (blocksC ck lg) v 0 (fun y hy => con.size q st F1 y (con.below hb.d hy) hok) (fun y => blocks8_any ck lg y) ?_).mono ?_)
       · rw [if_neg (by omega),if_neg (by have := hm.1; have := hm.2; omega)]
       · rintro e y ⟨rfl,hy⟩
         exact ⟨0,rfl,Or.inl ⟨rfl,Or.inr (Or.inl ⟨rfl,hm,F1,hb.keep hy,ho.below hy⟩)⟩⟩
     · have e2 : stoOpen st ck lg = ((2,0,noText,noText,[]),st) := by unfold stoOpen; rw [if_pos hm]
       refine calls_eq (a := #[areaV (some ⟨q,0,none⟩) ck lg]) rfl ((fault8_any (some ⟨q,0,none⟩) ck lg (st.sure.length : Int) (blocksC ck lg) v 2 (fun y hy => con.size q st F1 y (con.below hb.d hy) hok) (fun y => blocks8_any ck lg y) ?_).mono ?_)
       · rw [if_neg (by omega),if_pos (by
           by_cases h0 : blocksC ck lg = 0
           · exact Or.inl h0
           · refine Or.inr ?_
             have : ¬ blocksC ck lg <= (st.sure.length : Int) := fun hh => hm ⟨h0,hh⟩
             omega)]
       · rintro e y ⟨rfl,hy⟩
         refine ⟨2,rfl,Or.inr ⟨by decide,?_⟩⟩
         rw [e2]
         exact ⟨rfl,(show ¬ (2 : Nat) = 0 by decide),F1,hb.keep hy⟩
   · obtain ⟨kk,ll,rfl,rfl,q1,q2,q3,q4,q5,q6⟩ := mayS_nat hm
     have hsz1 := ho.size
     intro n a he
     cases he
     refine calls_eq (a := #[.pointer (some ⟨w.heap.size,0,none⟩),.pointer (some ⟨w.heap.size + 4,0,none⟩),.pointer (some ⟨w.heap.size + 5,0,none⟩)]) rfl ((open1_any (some ⟨q,0,none⟩) (w.heap.size + 3) w.heap.size (w.heap.size + 4) (w.heap.size + 5) _ (kk : Int) (ll : Int) (2 * (kk : Int)) (st.load 0 (2 * (kk : Int))).1.1 (st.load 0 (2 * (kk : Int))).1.2 (((st.load 0 (2 * (kk : Int))).2 : Nat) : Int) v _ _ _ rfl ho.obx ho.k ⟨by omega,by omega,by omega⟩ (fun y => ckb_any _ _ _ y (by omega)) (fun y hy => pLoad q 0 (2 * (kk : Int)) st F1 y (con.below hb.d hy) hok (by omega) (by omega))).mono ?_)
     rintro e y ⟨rfl,z,hz,rfl⟩
     have hbz := ((hb.keep hz).setk 0 (.int .u64 (((st.load 0 (2 * (kk : Int))).1.1 : Nat) : Int))).setk 1 (.string (st.load 0 (2 * (kk : Int))).1.2)
     have hoz := ho.below hz
     refine ⟨_,rfl,?_⟩
     by_cases c0 : (st.load 0 (2 * (kk : Int))).2 = 0
     · refine Or.inl ⟨by rw [c0]; rfl,Or.inr (Or.inr (Or.inl ⟨rfl,hm,c0,F1,hbz,?_⟩))⟩
       have hs : ∀ j,j ≠ w.heap.size + 5 -> ((z.setCell ⟨w.heap.size + 5,0,none⟩ (.int .u64 (((st.load 0 (2 * (kk : Int))).1.1 : Nat) : Int))).setCell ⟨w.heap.size + 5,1,none⟩ (.string (st.load 0 (2 * (kk : Int))).1.2)).heap[j]? = z.heap[j]? := fun j hj => set2_other z (w.heap.size + 5) _ _ j hj
       exact ⟨(cell_same8 (hs _ (by omega)) 0).trans hoz.d,(hs _ (by omega)).trans hoz.res,(hs _ (by omega)).trans hoz.p,(cell_same8 (hs _ (by omega)) 0).trans hoz.s,heap_set3 (i := 1) (heap_set3 (i := 0) hoz.k _) _⟩
     · have e2 : stoOpen st (kk : Int) (ll : Int) = (((st.load 0 (2 * (kk : Int))).2,0,noText,noText,[]),st) := by unfold stoOpen; rw [if_neg (fun x => x hm),if_pos c0]
       rw [e2]
       exact Or.inr ⟨by omega,rfl,c0,F1,hbz⟩
   · obtain ⟨kk,ll,rfl,rfl,q1,q2,q3,q4,q5,q6⟩ := mayS_nat hm
     have hsz1 := ho.size
     have hgen := load_gen st 0 (2 * (kk : Int))
     have hpos := load_pos st 0 (2 * (kk : Int)) hld
     have hgo := sto_open_go st kk ll hm hld
     generalize (st.load 0 (2 * (kk : Int))).1.1 = g at *
     generalize (st.load 0 (2 * (kk : Int))).1.2 = t at *
     have hfit : lo kk ll g + ll <= st.sure.length := by unfold lo; rcases (by omega : g % 2 = 0 \/ g % 2 = 1) with e | e <;> rw [e] <;> omega
     have hos := open_size hok (lo kk ll g) ll hfit
     have hF1 := con.lt hb.d
     have hop : ∀ z,Below v.heap.size v z -> Calls Tryz.prog 85 #[.pointer (some ⟨q,0,none⟩),.int .i64 ((lo kk ll g : Nat) : Int),.int .i64 (ll : Int)] z (Opened q (lo kk ll g) ll (walOpen st (lo kk ll g) ll) F1 z) := fun z hz =>
       pOpen q (lo kk ll g) ll st F1 z (con.below hb.d hz) hok (by omega) hfit q3 (by omega)
     have hnF : ∀ j,w.heap.size <= j -> j < w.heap.size + 6 -> j ≠ w.heap.size + 3 -> j ≠ w.heap.size + 5 -> ¬ F1 j := fun j h1 h2 h3 h4 hf => by
       rcases hb.l.own j (Or.inl hf) with (h5 | h5 | h5) | h5
       · have := hF _ h5; omega
       · exact h3 h5
       · exact h4 h5
       · omega
     have hF3 : ¬ F1 (w.heap.size + 4) /\ ¬ F1 (w.heap.size + 3) /\ ¬ F1 (w.heap.size + 5) := ⟨hnF _ (by omega) (by omega) (by omega) (by omega),hb.np,hb.nk⟩
     have hob : OB2 q (w.heap.size + 3) (w.heap.size + 4) (w.heap.size + 5) (kk : Int) (ll : Int) (g : Int) v := ⟨ho.s,ho.pc.1,ho.pc.2.1,ho.pc.2.2,(row_cells3 ho.k).1.1⟩
     intro n a he
     cases he
     by_cases h0 : (walOpen st (lo kk ll g) ll).1.1 = 0
     · rw [if_neg (fun x => x h0)] at hgo
       refine calls_eq (a := #[.pointer (some ⟨w.heap.size + 4,0,none⟩),.pointer (some ⟨w.heap.size + 5,0,none⟩)]) rfl ((open2_ok (w.heap.size + 3) q (lo kk ll g) (w.heap.size + 4) (w.heap.size + 5) (kk : Int) (ll : Int) g ll (walOpen st (lo kk ll g) ll).1.2.1 (walOpen st (lo kk ll g) ll).1.2.2 (walOpen st (lo kk ll g) ll).2 F1 v _ _ _ _ _ _ _ _ _ hob ho.p ho.k hF3 (by omega) (by omega) (by omega) ?_).mono ?_)
       · intro z hz
         refine aopen_ok q (lo kk ll g) g (kk : Int) ll _ _ _ F1 z (fun k hk => Nat.lt_of_lt_of_le (hF1 k hk) hz.size) (fun y => logOf_any (some ⟨q,0,none⟩) kk ll g y q2 q4) (fun y hy => ?_)
         refine (hop y (bnext hz hy)).mono ?_
         rintro e z2 (⟨_,hh⟩ | ⟨hh,_⟩)
         · exact hh
         · exact absurd h0 hh
       · rintro e z2 ⟨rfl,pl,vR,F2,z,hz,rfl⟩
         obtain ⟨k1,k2,k3,k4,k5,k6,k7,k8⟩ := hz
         obtain ⟨aR,cR,rfl,hst,hOB⟩ := own_form k3
         have hbz := (((hb.step (by omega) (by omega) k4 k5).setp 0 (.iface 143 (.pointer (some ⟨pl,0,none⟩)))).setp 1 (.int .u64 (g : Int))).setk 2 (.slice aR (walOpen st (lo kk ll g) ll).1.2.2.length cR)
         have hu0 := hb.l.size
         have hp3 := (k5.block (w.heap.size + 3) (by omega) hb.np).trans ho.p
         have hk5 := (k5.block (w.heap.size + 5) (by omega) hb.nk).trans ho.k
         have hne : ∀ b off,aR = some ⟨b,off,none⟩ -> v.heap.size <= b := fun b off e => own_ge k3 (hOB b off e)
         refine ⟨0,rfl,Or.inl ⟨rfl,Or.inr (Or.inr (Or.inr ⟨rfl,?_⟩))⟩⟩
         rw [hgo]
         refine ⟨rfl,⟨F2,_,hbz⟩,kk,ll,rfl,rfl,hm,⟨hpos,hgen⟩,hos,pl,aR,cR,F2,hbz,?_,?_,?_,?_,fun b off e => by have := hne b off e; omega,by omega,k6,(own_cap9 k3).2⟩
         · exact k1.same ((Below.heap_setCell _ ⟨w.heap.size + 5,2,none⟩ _ pl (fun e => by have : pl = w.heap.size + 5 := e; omega)).trans (set2_other z (w.heap.size + 3) _ _ pl (by omega)))
         · refine (Below.heap_setCell _ ⟨w.heap.size + 5,2,none⟩ _ (w.heap.size + 3) (fun e => by have : w.heap.size + 3 = w.heap.size + 5 := e; omega)).trans ?_
           exact heap_set3 (i := 1) (heap_set3 (i := 0) hp3 _) _
         · exact heap_set3 (i := 2) ((set2_other z (w.heap.size + 3) _ _ (w.heap.size + 5) (by omega)).trans hk5) _
         · exact strs_set8 (strs_set8 (strs_set8 hst (fun b off e => by have := hne b off e; omega)) (fun b off e => by have := hne b off e; omega)) (fun b off e => by have := hne b off e; omega)
     · rw [if_pos h0] at hgo
       refine calls_eq (a := #[.pointer (some ⟨w.heap.size + 4,0,none⟩),.pointer (some ⟨w.heap.size + 5,0,none⟩)]) rfl ((open2_no (w.heap.size + 3) q (w.heap.size + 4) (w.heap.size + 5) (kk : Int) (ll : Int) g (((walOpen st (lo kk ll g) ll).1.1 : Nat) : Int) (walOpen st (lo kk ll g) ll).2 F1 v _ _ _ _ _ _ _ _ _ hob ho.p ho.k hF3 (by omega) (by omega) (by omega) ?_).mono ?_)
       · intro z hz
         refine aopen_no q (lo kk ll g) g (kk : Int) ll _ (by omega) _ F1 z (fun k hk => Nat.lt_of_lt_of_le (hF1 k hk) hz.size) (fun y => logOf_any (some ⟨q,0,none⟩) kk ll g y q2 q4) (fun y hy => ?_)
         refine (hop y (bnext hz hy)).mono ?_
         rintro e z2 (⟨hh,_⟩ | ⟨_,hh⟩)
         · exact absurd hh h0
         · exact hh
       · rintro e z2 ⟨rfl,F2,z,⟨k4,k5⟩,rfl⟩
         have hbz := (((hb.step (by omega) (by omega) k4 k5).setp 0 .nilIface).setp 1 (.int .u64 0)).setk 2 (.slice none 0 0)
         refine ⟨_,rfl,Or.inr ⟨by omega,?_⟩⟩
         rw [hgo]
         exact ⟨rfl,h0,F2,hbz⟩
   · exact absurd (show (3 : Nat) < 3 from hk) (by decide)
 · exact Or.inl ⟨rfl,F,⟨hD,Loc.refl _ _,fun hf => by have := hF _ hf; omega,fun hf => by have := hF _ hf; omega⟩,h⟩
def OW (w : World) (pd : Option Addr) (ck lg : Int) : World :=
 (((((w.alloc (.cells #[.pointer pd] 28)).alloc (.cells #[.int .i64 ck,.int .i64 lg] 23)).alloc (.cells #[.int .u64 0,.string ⟨#[]⟩,.slice none 0 0] 61)).alloc (.cells #[.nilIface,.int .u64 0,.pointer pd,.int .i64 ck,.int .i64 lg,.bool false] 104)).alloc
   (.cells #[.pointer (some ⟨w.heap.size + 1 + 1 + 1,0,none⟩)] 36)).alloc (.cells #[.int .u64 0,.string ⟨#[]⟩,.slice none 0 0] 61)
def oFns (w : World) (pd : Option Addr) (ck lg : Int) : Array Value := #[Value.func (.func 42) #[areaV pd ck lg] #[],.func (.func 46) #[] #[.pointer (some ⟨w.heap.size,0,none⟩),.pointer (some ⟨w.heap.size + 1 + 1 + 1 + 1,0,none⟩),.pointer (some ⟨w.heap.size + 1 + 1 + 1 + 1 + 1,0,none⟩)],.func (.func 49) #[] #[.pointer (some ⟨w.heap.size + 1 + 1 + 1 + 1,0,none⟩),.pointer (some ⟨w.heap.size + 1 + 1 + 1 + 1 + 1,0,none⟩)]]
def set3w (z : World) (B : Nat) (a b c : Value) : World := ((z.setCell ⟨B,0,none⟩ a).setCell ⟨B,1,none⟩ b).setCell ⟨B,2,none⟩ c
set_option maxRecDepth 10000 in
set_option maxHeartbeats 2000000 in
theorem open_no (pd : Option Addr) (ck lg : Int) (w : World) (x : Int) (Q : World -> Prop) (hx : x ≠ 0)
   (hG : Calls Tryz.prog 41 #[.slice (some ⟨w.heap.size + 1 + 1 + 1 + 1 + 1 + 1,0,none⟩) 3 3] ((OW w pd ck lg).alloc (.cells (oFns w pd ck lg) 106)) fun e v => e = .returned (.int .i64 x) /\ v.heap[w.heap.size + 1 + 1]? = some (.cells #[.int .u64 0,.string ⟨#[]⟩,.slice none 0 0] 61 (0,0)) /\ Q v) :
   Calls Tryz.prog 20 #[.pointer pd,confV ck lg] w fun e v => ∃ z,Q z /\ e = .returned (.tuple #[.pointer none,.agg #[.int .u64 0,.string ⟨#[]⟩,.slice none 0 0],.int .i64 x]) /\ v = set3w z (w.heap.size + 1 + 1) (.int .u64 0) (.string ⟨#[]⟩) (.slice none 0 0) := by
 have HG := hide hG
 unfold confV OW oFns areaV at *
 clear hG
 go_enter Tryz.func20,Tryz.ntmps20
 go_wp2_with fail
 refine HG.out.mono ?_
 rintro e z ⟨rfl,hrow,hq⟩
 obtain ⟨⟨r0,r1,r2⟩,fr⟩ := row_cells3 hrow
 have f0 := fr 0
 have f1 := fr 1
 have f2 := fr 2
 have HQ := hide hq
 have HRow := hide hrow
 clear hq hrow fr HG
 go_wp2
 exact bodyPost_ret (results_tct Tryz.results20 _ _ (w.heap.size + 1 + 1) 61 _ (0,0) _ rfl (heap_set3 (i := 2) (heap_set3 (i := 1) (heap_set3 (i := 0) HRow.out _) _) _) Tryz.underlying61 rfl info61) rfl ⟨z,HQ.out,rfl,rfl⟩
def OLast (w : World) (g : Int) (t : ByteArray) (sl : Value) (z : World) : Prop := z.cell? ⟨w.heap.size + 1 + 1 + 1 + 1,0,none⟩ = some (.pointer (some ⟨w.heap.size + 1 + 1 + 1,0,none⟩)) /\ z.cell? ⟨w.heap.size + 1 + 1 + 1 + 1 + 1,0,none⟩ = some (.int .u64 g) /\ z.cell? ⟨w.heap.size + 1 + 1 + 1 + 1 + 1,1,none⟩ = some (.string t) /\ z.cell? ⟨w.heap.size + 1 + 1 + 1 + 1 + 1,2,none⟩ = some sl
theorem OLast.all {w z : World} {g : Int} {t : ByteArray} {sl : Value} (h : OLast w g t sl z) : z.cell? ⟨w.heap.size + 1 + 1 + 1 + 1,0,none⟩ = some (.pointer (some ⟨w.heap.size + 1 + 1 + 1,0,none⟩)) /\ z.cell? ⟨w.heap.size + 1 + 1 + 1 + 1 + 1,0,none⟩ = some (.int .u64 g) /\ z.cell? ⟨w.heap.size + 1 + 1 + 1 + 1 + 1,1,none⟩ = some (.string t) /\ z.cell? ⟨w.heap.size + 1 + 1 + 1 + 1 + 1,2,none⟩ = some sl := h
theorem set3w_other (z : World) (B : Nat) (a b c : Value) (k : Nat) (hk : k ≠ B) : (set3w z B a b c).heap[k]? = z.heap[k]? := by
 unfold set3w
 rw [Below.heap_setCell _ ⟨B,2,none⟩ c k hk,Below.heap_setCell _ ⟨B,1,none⟩ b k hk,Below.heap_setCell _ ⟨B,0,none⟩ a k hk]
theorem OLast.set {w z : World} {g : Int} {t : ByteArray} {sl : Value} (h : OLast w g t sl z) (a b c : Value) : OLast w g t sl (((z.setCell ⟨w.heap.size + 1 + 1,0,none⟩ a).setCell ⟨w.heap.size + 1 + 1,1,none⟩ b).setCell ⟨w.heap.size + 1 + 1,2,none⟩ c) := by
 have hs : ∀ k,k ≠ w.heap.size + 1 + 1 -> (((z.setCell ⟨w.heap.size + 1 + 1,0,none⟩ a).setCell ⟨w.heap.size + 1 + 1,1,none⟩ b).setCell ⟨w.heap.size + 1 + 1,2,none⟩ c).heap[k]? = z.heap[k]? := fun k hk => set3w_other z _ a b c k hk
 have h4 := hs (w.heap.size + 1 + 1 + 1 + 1) (by omega)
 have h5 := hs (w.heap.size + 1 + 1 + 1 + 1 + 1) (by omega)
 exact ⟨(cell_same8 h4 0).trans h.1,(cell_same8 h5 0).trans h.2.1,(cell_same8 h5 1).trans h.2.2.1,(cell_same8 h5 2).trans h.2.2.2⟩
theorem OLast.drew {w z : World} {g : Int} {t : ByteArray} {sl : Value} (h : OLast w g t sl z) : OLast w g t sl z.drew := h
set_option maxRecDepth 10000 in
set_option maxHeartbeats 2000000 in
theorem open_yes (pd : Option Addr) (ck lg : Int) (w : World) (g : Int) (t : ByteArray) (Q : Option Addr -> Nat -> Nat -> World -> Prop)
   (hG : Calls Tryz.prog 41 #[.slice (some ⟨w.heap.size + 1 + 1 + 1 + 1 + 1 + 1,0,none⟩) 3 3] ((OW w pd ck lg).alloc (.cells (oFns w pd ck lg) 106)) fun e v => e = .returned (.int .i64 0) /\ v.heap[w.heap.size + 1 + 1]? = some (.cells #[.int .u64 0,.string ⟨#[]⟩,.slice none 0 0] 61 (0,0)) /\ ∃ a n c,OLast w g t (.slice a n c) v /\ Q a n c v) :
   Calls Tryz.prog 20 #[.pointer pd,confV ck lg] w fun e v => ∃ z a n c,Q a n c z /\ e = .returned (.tuple #[.pointer (some ⟨w.heap.size + 1 + 1 + 1,0,none⟩),.agg #[.int .u64 g,.string t,.slice a n c],.int .i64 0]) /\ v = (set3w z (w.heap.size + 1 + 1) (.int .u64 g) (.string t) (.slice a n c)).drew := by
 have HG := hide hG
 unfold confV OW oFns areaV at *
 clear hG
 go_enter Tryz.func20,Tryz.ntmps20
 go_wp2_with fail
 refine HG.out.mono ?_
 rintro e z ⟨rfl,hrow,a,n,c,hl,hq⟩
 obtain ⟨⟨r0,r1,r2⟩,fr⟩ := row_cells3 hrow
 have f0 := fr 0
 have f1 := fr 1
 have f2 := fr 2



 have HQ := hide hq
 have HRow : Hid (z.heap[w.heap.size + 1 + 1]? = some (.cells #[.int .u64 0,.string ⟨#[]⟩,.slice none 0 0] 61 (0,0))) := hrow
 have K := hl.drew
 have HL := hide hl
 clear hq hrow fr HG hl
 go_wp2_with fail
 go_region_held3 (fun z => z.cell? ⟨w.heap.size + 1 + 1 + 1 + 1,0,none⟩ = some (.pointer (some ⟨w.heap.size + 1 + 1 + 1,0,none⟩)) /\ z.cell? ⟨w.heap.size + 1 + 1 + 1 + 1 + 1,0,none⟩ = some (.int .u64 g) /\ z.cell? ⟨w.heap.size + 1 + 1 + 1 + 1 + 1,1,none⟩ = some (.string t) /\ z.cell? ⟨w.heap.size + 1 + 1 + 1 + 1 + 1,2,none⟩ = some (.slice a n c))
   ((first | (with_reducible exact OLast.all K) | (with_reducible exact ((OLast.set HL.out _ _ _).drew).all)))
   (first
     | (go_at_call 41; fail))
 all_goals
   clear K
   go_wp2
   exact bodyPost_ret (results_tct Tryz.results20 _ _ (w.heap.size + 1 + 1) 61 _ (0,0) _ rfl (heap_set3 (i := 2) (heap_set3 (i := 1) (heap_set3 (i := 0) HRow.out _) _) _) Tryz.underlying61 rfl info61) rfl ⟨z,a,n,c,HQ.out,rfl,rfl⟩
theorem OW_in (w : World) (pd : Option Addr) (ck lg : Int) : OIn w pd ck lg (.int .u64 0) (.string ⟨#[]⟩) (OW w pd ck lg) /\ Below w.heap.size w (OW w pd ck lg) /\ (OW w pd ck lg).heap.size = w.heap.size + 1 + 1 + 1 + 1 + 1 + 1 := by
 unfold OW
 generalize h1 : w.alloc (.cells #[.pointer pd] 28) = W1
 have s1 : W1.heap.size = w.heap.size + 1 := by rw [<- h1]; simp
 have l1 : W1.heap[w.heap.size]? = some (.cells #[.pointer pd] 28 (0,0)) := by rw [<- h1]; exact heap_alloc_last w _
 have b1 : Below w.heap.size w W1 := by rw [<- h1]; exact one_below w _
 generalize h2 : W1.alloc (.cells #[.int .i64 ck,.int .i64 lg] 23) = W2
 have s2 : W2.heap.size = w.heap.size + 1 + 1 := by rw [<- h2]; simp [s1]
 have b2 : Below W1.heap.size W1 W2 := by rw [<- h2]; exact one_below W1 _
 generalize h3 : W2.alloc (.cells #[.int .u64 0,.string ⟨#[]⟩,.slice none 0 0] 61) = W3
 have s3 : W3.heap.size = w.heap.size + 1 + 1 + 1 := by rw [<- h3]; simp [s2]
 have l3 : W3.heap[w.heap.size + 1 + 1]? = some (.cells #[.int .u64 0,.string ⟨#[]⟩,.slice none 0 0] 61 (0,0)) := by rw [<- h3, <- s2]; exact heap_alloc_last W2 _
 have b3 : Below W2.heap.size W2 W3 := by rw [<- h3]; exact one_below W2 _
 generalize h4 : W3.alloc (.cells #[.nilIface,.int .u64 0,.pointer pd,.int .i64 ck,.int .i64 lg,.bool false] 104) = W4
 have s4 : W4.heap.size = w.heap.size + 1 + 1 + 1 + 1 := by rw [<- h4]; simp [s3]
 have l4 : W4.heap[w.heap.size + 1 + 1 + 1]? = some (.cells #[.nilIface,.int .u64 0,.pointer pd,.int .i64 ck,.int .i64 lg,.bool false] 104 (0,0)) := by rw [<- h4, <- s3]; exact heap_alloc_last W3 _
 have b4 : Below W3.heap.size W3 W4 := by rw [<- h4]; exact one_below W3 _
 generalize h5 : W4.alloc (.cells #[.pointer (some ⟨w.heap.size + 1 + 1 + 1,0,none⟩)] 36) = W5
 have s5 : W5.heap.size = w.heap.size + 1 + 1 + 1 + 1 + 1 := by rw [<- h5]; simp [s4]
 have l5 : W5.heap[w.heap.size + 1 + 1 + 1 + 1]? = some (.cells #[.pointer (some ⟨w.heap.size + 1 + 1 + 1,0,none⟩)] 36 (0,0)) := by rw [<- h5, <- s4]; exact heap_alloc_last W4 _
 have b5 : Below W4.heap.size W4 W5 := by rw [<- h5]; exact one_below W4 _
 generalize h6 : W5.alloc (.cells #[.int .u64 0,.string ⟨#[]⟩,.slice none 0 0] 61) = W6
 have s6 : W6.heap.size = w.heap.size + 1 + 1 + 1 + 1 + 1 + 1 := by rw [<- h6]; simp [s5]
 have l6 : W6.heap[w.heap.size + 1 + 1 + 1 + 1 + 1]? = some (.cells #[.int .u64 0,.string ⟨#[]⟩,.slice none 0 0] 61 (0,0)) := by rw [<- h6, <- s5]; exact heap_alloc_last W5 _
 have b6 : Below W5.heap.size W5 W6 := by rw [<- h6]; exact one_below W5 _
 have b56 := bnext b5 b6
 have b46 := bnext b4 b56
 have b36 := bnext b3 b46
 have b26 := bnext b2 b36
 refine ⟨⟨?_,?_,?_,?_,l6⟩,bnext b1 b26,s6⟩
 · exact (cell_of_row _ _ 0 _ _ _ ((b26.block _ (by omega)).trans l1)).trans rfl
 · exact (b46.block _ (by omega)).trans l3
 · exact (b56.block _ (by omega)).trans l4
 · exact (cell_of_row _ _ 0 _ _ _ ((b6.block _ (by omega)).trans l5)).trans rfl
theorem set3w_loc {F A : Nat -> Prop} {w z : World} {B : Nat} (h : Loc F A w z) (hB : w.heap.size <= B) (a b c : Value) : Loc F A w (set3w z B a b c) := ((h.set_new B 0 a hB).set_new B 1 b hB).set_new B 2 c hB
def PHas9 (q ck lg gen : Nat) (text str : ByteArray) (recs : List ByteArray) (st : St) (F : Nat -> Prop) (w : World) (e : Ending) (w' : World) : Prop :=
 ∃ p a c A,e = .returned (.tuple #[.pointer (some ⟨p,0,none⟩),.agg #[.int .u64 (gen : Int),.string text,.slice a recs.length c],.int .i64 0]) /\ PSt w' p q ck lg ⟨gen,str,false⟩ st A /\ Loc F A w w' /\ StrsAt w' a recs /\ (∀ b off,a = some ⟨b,off,none⟩ -> w.heap.size <= b) /\ (a = none -> c = 0)
def POpened9 (q : Nat) (ck lg : Int) (r : (Nat × Nat × ByteArray × ByteArray × List ByteArray) × St) (F : Nat -> Prop) (w : World) (e : Ending) (w' : World) : Prop :=
 (r.1.1 = 0 /\ PHas9 q ck.toNat lg.toNat r.1.2.1 r.1.2.2.1 r.1.2.2.2.1 r.1.2.2.2.2 r.2 F w e w') \/ (r.1.1 ≠ 0 /\ PNo8 q r.2 F w ((r.1.1 : Nat) : Int) e w')
set_option maxRecDepth 10000 in
theorem pOpen9 (q : Nat) (st : St) (F : Nat -> Prop) (ck lg : Int) (w : World) (hD : DAt w q st F) (hok : st.Ok) (hl : st.loose.length + 3000 <= 8000) (h400 : st.sure.length <= 400) (_ : I64 ck) (_ : I64 lg) :
   Calls Tryz.prog 20 #[.pointer (some ⟨q,0,none⟩),confV ck lg] w (POpened9 q ck lg (stoOpen st ck lg) F w) := by
 have hF := con.lt hD
 obtain ⟨hin,hbw,hsz⟩ := OW_in w (some ⟨q,0,none⟩) ck lg
 generalize hu0 : (OW w (some ⟨q,0,none⟩) ck lg).alloc (.cells (oFns w (some ⟨q,0,none⟩) ck lg) 106) = u0
 have hb1 : Below (OW w (some ⟨q,0,none⟩) ck lg).heap.size (OW w (some ⟨q,0,none⟩) ck lg) u0 := by rw [<- hu0]; exact one_below _ _
 have hb0 := bnext hbw hb1
 have hs0 : u0.heap.size = w.heap.size + 7 := by rw [<- hu0]; simp [hsz]
 have hrow : u0.heap[w.heap.size + 1 + 1 + 1 + 1 + 1 + 1]? = some (.cells (oFns w (some ⟨q,0,none⟩) ck lg) 106 (0,0)) := by rw [<- hu0, <- hsz]; exact heap_alloc_last _ _
 have hin0 := hin.below hb1
 have steps := oSteps q st F ck lg w u0 (w.heap.size + 1 + 1 + 1 + 1 + 1 + 1) 3 (con.below hD hb0) hok hl h400 hF hin0 (Nat.le_refl _) (fun k hk => by
   match k,hk with
   | 0,_ => exact (cell_of_row _ _ 0 _ _ _ hrow).trans rfl
   | 1,_ => exact (cell_of_row _ _ 1 _ _ _ hrow).trans rfl
   | 2,_ => exact (cell_of_row _ _ 2 _ _ _ hrow).trans rfl)
 have hN : ∀ k,ON (w.heap.size + 3) (w.heap.size + 5) k -> w.heap.size <= k := fun k hk => by rcases hk with e | e <;> omega
 have hres : ∀ {F' : Nat -> Prop} {s : St} {v : World},Bo q (w.heap.size + 3) (w.heap.size + 5) F u0 s F' v -> v.heap[w.heap.size + 1 + 1]? = some (.cells #[.int .u64 0,.string ⟨#[]⟩,.slice none 0 0] 61 (0,0)) /\ ¬ F' (w.heap.size + 1 + 1) := fun hb =>
   ⟨(bo_row hb (w.heap.size + 2) (by omega) ⟨fun hf => by have := hF _ hf; omega,by omega,by omega⟩).trans hin0.res,fun hf => by
     rcases hb.l.own _ (Or.inl hf) with (h5 | h5 | h5) | h5
     · have := hF _ h5; omega
     · omega
     · omega
     · omega⟩
 by_cases h0 : (stoOpen st ck lg).1.1 = 0
 · refine (open_yes (some ⟨q,0,none⟩) ck lg w (((stoOpen st ck lg).1.2.1 : Nat) : Int) (stoOpen st ck lg).1.2.2.1 (fun a n c v => n = (stoOpen st ck lg).1.2.2.2.2.length /\ ∃ k l pl F',ck = ((k : Nat) : Int) /\ lg = ((l : Nat) : Int) /\ st.mayS ck lg /\ (1 <= (stoOpen st ck lg).1.2.1 /\ (stoOpen st ck lg).1.2.1 <= 4611686018427387904) /\ (stoOpen st ck lg).1.2.2.2.1.size <= l * 255 /\ Bo q (w.heap.size + 3) (w.heap.size + 5) F u0 (stoOpen st ck lg).2 F' v /\ LAt v pl q (lo k l (stoOpen st ck lg).1.2.1) l (stoOpen st ck lg).1.2.2.2.1 false /\ StAt v (w.heap.size + 3) pl q k l (stoOpen st ck lg).1.2.1 false /\ StrsAt v a (stoOpen st ck lg).1.2.2.2.2 /\ (∀ b off,a = some ⟨b,off,none⟩ -> u0.heap.size <= b) /\ u0.heap.size <= pl /\ ¬ F' pl /\ (a = none -> c = 0)) ?_).mono ?_
   · rw [hu0]
     refine steps.mono ?_
     rintro e v ⟨rfl,⟨h1,_⟩ | ⟨_,k,l,hk,hll,hm,hg,hs,pl,aR,cR,F',m1,m2,m3,m4,m5,m6,m7,m8,m9⟩⟩
     · exact absurd h0 h1
     · have hbs : v.heap[w.heap.size + 4]? = u0.heap[w.heap.size + 4]? := bo_row m1 _ (by omega) ⟨fun hf => by have := hF _ hf; omega,by omega,by omega⟩
       obtain ⟨⟨x0,x1,x2⟩, -⟩ := row_cells3 m4
       exact ⟨by rw [h0]; rfl,(hres m1).1,aR,_,cR,⟨(cell_same8 hbs 0).trans hin0.s,x0,x1,x2⟩,rfl,k,l,pl,F',hk,hll,hm,hg,hs,m1,m2,m3,m5,m6,m7,m8,m9⟩
   · rintro e v ⟨z,a,n,c,⟨rfl,k,l,pl,F',rfl,rfl,hm,hg,hs,m1,m2,m3,m5,m6,m7,m8,m9⟩,rfl,rfl⟩
     refine Or.inl ⟨h0,?_⟩
     rw [Int.toNat_natCast,Int.toNat_natCast]
     have hn2 := (hres m1).2
     have hset : ∀ j,j ≠ w.heap.size + 1 + 1 -> (set3w z (w.heap.size + 1 + 1) (.int .u64 (((stoOpen st (k : Int) (l : Int)).1.2.1 : Nat) : Int)) (.string (stoOpen st (k : Int) (l : Int)).1.2.2.1) (.slice a (stoOpen st (k : Int) (l : Int)).1.2.2.2.2.length c)).drew.heap[j]? = z.heap[j]? := fun j hj => set3w_other z _ _ _ _ j hj
     have hlz : Loc F F' w z := m1.l.two hb0 hN
     obtain ⟨k2,l2,e1,e2,q1,q2,q3,q4,q5,q6⟩ := mayS_nat hm
     have e1 : k = k2 := by omega
     have e2 : l = l2 := by omega
     subst e1 e2
     refine ⟨w.heap.size + 3,a,c,fun j => F' j \/ j = pl \/ j = w.heap.size + 3,rfl,⟨pl,false,F',⟨con.same m1.d (fun j hj => hset j (fun e => hn2 (e ▸ hj))),m3.same (hset _ (by omega)),m2.same (hset _ (by omega)),m1.np,m8,by omega,hs,fun x => absurd x (by simp),hg,⟨q1,q2⟩,q3,q4⟩,rfl⟩,?_,?_,fun b off e => by have := m6 b off e; omega,m9⟩
     · have hl3 := (set3w_loc hlz (B := w.heap.size + 1 + 1) (by omega) (.int .u64 (((stoOpen st (k : Int) (l : Int)).1.2.1 : Nat) : Int)) (.string (stoOpen st (k : Int) (l : Int)).1.2.2.1) (.slice a (stoOpen st (k : Int) (l : Int)).1.2.2.2.2.length c)).drew
       exact ⟨hl3.os,hl3.tape,hl3.output,hl3.size,hl3.block,fun j hj => by
         rcases hj with hj | hj | hj
         · exact hl3.own j hj
         · exact Or.inr (by omega)
         · exact Or.inr (by omega)⟩
     · have hne : ∀ b off,a = some ⟨b,off,none⟩ -> b ≠ w.heap.size + 1 + 1 := fun b off e => by have := m6 b off e; omega
       exact strs_set8 (i := 2) (strs_set8 (i := 1) (strs_set8 (i := 0) m5 hne) hne) hne
 · refine (open_no (some ⟨q,0,none⟩) ck lg w (((stoOpen st ck lg).1.1 : Nat) : Int) (fun v => ∃ F',Bo q (w.heap.size + 3) (w.heap.size + 5) F u0 (stoOpen st ck lg).2 F' v) (by omega) ?_).mono ?_
   · rw [hu0]
     refine steps.mono ?_
     rintro e v ⟨rfl,⟨_,F',hb⟩ | ⟨h1,_⟩⟩
     · exact ⟨rfl,(hres hb).1,F',hb⟩
     · exact absurd h1 h0
   · rintro e v ⟨z,⟨F',hb⟩,rfl,rfl⟩
     refine Or.inr ⟨h0,rfl,F',con.same hb.d (fun j hj => set3w_other z _ _ _ _ j (fun e => (hres hb).2 (e ▸ hj))),set3w_loc (hb.l.two hb0 hN) (by omega) _ _ _⟩
theorem pOpen8 (q : Nat) (st : St) (F : Nat -> Prop) (ck lg : Int) (w : World) (hD : DAt w q st F) (hok : st.Ok) (hl : st.loose.length + 3000 <= 8000) (h400 : st.sure.length <= 400) (h1 : I64 ck) (h2 : I64 lg) :
   Calls Tryz.prog 20 #[.pointer (some ⟨q,0,none⟩),confV ck lg] w (POpened8 PSt q ck lg (stoOpen st ck lg) F w) := by
 refine (pOpen9 q st F ck lg w hD hok hl h400 h1 h2).mono ?_
 rintro e v (⟨h0,p,a,c,A,he,hp,hl,hs,hn,_⟩ | h)
 · exact Or.inl ⟨h0,p,a,c,A,he,hp,hl,hs,hn⟩
 · exact Or.inr h
theorem con8 : SCon PSt where
 lt := fun {u p q ck lg s st A} h k hk => by
   obtain ⟨l,b,G,h,rfl⟩ := h
   rcases hk with hk | hk | hk
   · exact con.lt h.d k hk
   · rw [hk]; exact h.log.lt
   · rw [hk]; exact h.c.lt
 same := fun {u v p q ck lg s st A} h hs => by
   obtain ⟨l,b,G,h,rfl⟩ := h
   exact ⟨l,b,G,h.same hs,rfl⟩
 disk := fun {u p q ck lg s st A} h => by
   obtain ⟨l,b,G,h,rfl⟩ := h
   exact ⟨G,h.d,fun k hk => Or.inl hk,fun v st2 G2 hd hl => ⟨_,⟨l,b,G2,h.disk hd hl,rfl⟩,hl.pair⟩⟩
 blocks := fun ck lg u _ _ => blocks8_any ck lg u
 make := fun q st F ck lg u hD hok hl h4 h1 h2 => pMake8 q st F ck lg u hD hok hl h4 h1 h2
 opens := fun q st F ck lg u hD hok hl h4 h1 h2 => pOpen8 q st F ck lg u hD hok hl h4 h1 h2
 append := fun p q ck lg s t st A u h hok hl hc hn ht => pAppend8 p q ck lg s t st A u h hok hl hc hn ht hok
 sync := fun p q ck lg s st A u h hok hl => pSync8 p q ck lg s st A u h hok hl
 trim := fun p q ck lg s t st A u h hok hl hc hn ht _ => pTrim8 p q ck lg s t st A u h hok hl hc hn ht
 gen := fun p q ck lg s st A u h => by
   obtain ⟨l,b,G,h,rfl⟩ := h
   refine (gen_any p l q ck lg s.gen s.broken u h.c).mono ?_
   rintro e v ⟨rfl,rfl⟩
   exact ⟨rfl,Below.refl _ _⟩
 room := fun p q ck lg s st A u h => by
   obtain ⟨l,b,G,h,rfl⟩ := h
   refine sroom_any p l q ck lg s.gen s.broken u _ h.c (sfault_any p l q ck lg s.gen s.broken u h.c) (fun v hv => ?_)
   refine (room_any l q (lo ck lg s.gen) lg s.str b v (h.log.same (hv.block l h.log.lt)) (by have := h.conf; omega) h.sz).mono ?_
   rintro e z ⟨rfl,n,rfl⟩
   exact ⟨rfl,below_drewN (Below.refl _ _) n⟩
theorem Form.save {n c : Nat} {st : St} (h : Form n c st) (o m : Int) (g : Nat) (t : ByteArray) : Form n (c + nb t.size + 2) (st.save o m g t).2 :=
 ⟨save_ok8 h.ok o m g t,by rw [save_long]; exact h.len,by have h1 := save_few st o m g t; have := h.few; omega⟩
theorem mayS_24 {st : St} {ck lg : Int} (h : st.mayS ck lg) (hl : st.sure.length = 24) : ck = (ck.toNat : Int) /\ lg = (lg.toNat : Int) /\ Conf ck.toNat lg.toNat 24 /\ lg.toNat <= 10 := by
 obtain ⟨k,l,rfl,rfl,q1,q2,q3,q4,q5,q6⟩ := mayS_nat h
 rw [Int.toNat_natCast,Int.toNat_natCast]
 exact ⟨rfl,rfl,⟨q1,q2,q3,q4,by omega,by decide⟩,by omega⟩
theorem Form.andT {n c d : Nat} {r : Nat × St} {f : St -> Nat × St} (h : Form n c r.2) (hf : ∀ s,Form n c s -> Form n d (f s).2) (hcd : c <= d) : Form n d (andT r f).2 := by
 unfold Go.Proofs.YtchhojkhfdkhfaaGreatDoor.andT
 split
 · exact hf _ h
 · exact h.more hcd
theorem Form.made8 {c : Nat} {st : St} (h : Form 24 c st) (ck lg : Int) : Form 24 (c + 30) (stoMake st ck lg).2 := by
 unfold stoMake
 split
 · exact h.more (by omega)
 · rename_i hm
   obtain ⟨_,_,_,h10⟩ := mayS_24 (Decidable.not_not.1 hm) h.len
   split
   · exact h.more (by omega)
   · split
     · exact h.more (by omega)
     · refine Form.andT ((h.clear _ _).more (c' := c + 10) (by omega)) (fun s hs => (hs.save _ _ _ _).more ?_) (by omega)
       show c + 10 + nb 0 + 2 <= _
       unfold nb
       omega
theorem Form.opened8 {c : Nat} {st : St} (h : Form 24 c st) (ck lg : Int) : Form 24 (c + 30) (stoOpen st ck lg).2 := by
 unfold stoOpen
 split
 · exact h.more (by omega)
 · rename_i hm
   obtain ⟨_,_,_,h10⟩ := mayS_24 (Decidable.not_not.1 hm) h.len
   split
   · exact h.more (by omega)
   · split
     · exact (h.open _ _).more (by omega)
     · exact (h.open _ _).more (by omega)
theorem stoOpen_may {st : St} {ck lg : Int} (h : (stoOpen st ck lg).1.1 = 0) : st.mayS ck lg := by
 refine Decidable.byContradiction fun hm => ?_
 unfold stoOpen at h
 rw [if_pos hm] at h
 exact absurd h (show ¬ (2 : Nat) = 0 by decide)
theorem stoOpen_gen {st : St} {ck lg : Int} : (stoOpen st ck lg).1.2.1 <= 4611686018427387904 := by
 unfold stoOpen
 split
 · exact Nat.zero_le _
 · split
   · exact Nat.zero_le _
   · split
     · exact Nat.zero_le _
     · exact load_gen st 0 (2 * ck)
theorem open_recs8 {st : St} (hok : st.Ok) (o N : Nat) (hN : o + N <= st.sure.length) : (walOpen st o N).1.2.2.length <= N * 255 := by
 have h1 := streamOf_size (reads st o N) (fun b hb => by
   obtain ⟨i,hi,rfl⟩ := List.getElem_of_mem hb
   rw [reads_at]
   exact at_size hok _ (by rw [reads_length] at hi; omega))
 rw [reads_length] at h1
 have h2 := (scn_bound _ (streamOf (reads st o N)) (Nat.le_refl _)).2
 unfold walOpen
 split
 · exact Nat.zero_le _
 · split
   · exact Nat.zero_le _
   · split
     · exact Nat.zero_le _
     · split
       · exact Nat.zero_le _
       · exact Nat.le_trans h2 h1
theorem stoOpen_recs {st : St} {ck lg : Int} (hok : st.Ok) (hl : st.sure.length = 24) : (stoOpen st ck lg).1.2.2.2.2.length <= 3000 := by
 unfold stoOpen
 split
 · exact Nat.zero_le _
 · rename_i hm
   obtain ⟨_,_,hc,h10⟩ := mayS_24 (Decidable.not_not.1 hm) hl
   split
   · exact Nat.zero_le _
   · split
     · exact Nat.zero_le _
     · have h1 := lo_fit hc (st.load 0 (2 * ck)).1.1
       have := open_recs8 hok (lo ck.toNat lg.toNat (st.load 0 (2 * ck)).1.1) lg.toNat (by rw [hl]; exact h1.2)
       show (walOpen st _ _).1.2.2.length <= _
       omega
structure Fit8 (ck lg : Int) (c : Nat) (o : Option Sto) (st : St) : Prop where
 form : Form 24 c st
 gen : ∀ s,o = some s -> s.gen <= 4611686018427387904
 conf : ∀ s,o = some s -> Conf ck.toNat lg.toNat 24
theorem Fit8.more {ck lg : Int} {c c' : Nat} {o : Option Sto} {st : St} (h : Fit8 ck lg c o st) (hc : c <= c') : Fit8 ck lg c' o st := ⟨h.form.more hc,h.gen,h.conf⟩
theorem Fit8.lg10 {ck lg : Int} {c : Nat} {s : Sto} {st : St} (h : Fit8 ck lg c (some s) st) : lg.toNat <= 10 := by
 have := h.conf s rfl
 have h1 := this.ck2; have h2 := this.fit
 omega
theorem Fit8.append {ck lg : Int} {c : Nat} {s : Sto} {st : St} (h : Fit8 ck lg c (some s) st) (t : ByteArray) : Fit8 ck lg (c + 70) (some (stoAppend st ck.toNat lg.toNat s t).2.1) (stoAppend st ck.toNat lg.toNat s t).2.2 := by
 have h10 := h.lg10
 unfold stoAppend
 split
 · exact h.more (by omega)
 · exact ⟨(h.form.append _ _ _ _).more (by omega),fun x e => by cases e; exact h.gen s rfl,fun x e => h.conf s rfl⟩
theorem Fit8.sync {ck lg : Int} {c : Nat} {s : Sto} {st : St} (h : Fit8 ck lg c (some s) st) : Fit8 ck lg (c + 70) (some (stoSync st s).2.1) (stoSync st s).2.2 := by
 unfold stoSync
 split
 · exact h.more (by omega)
 · exact ⟨h.form.sync.more (by omega),fun x e => by cases e; exact h.gen s rfl,fun x e => h.conf s rfl⟩
theorem Fit8.trim {ck lg : Int} {c : Nat} {s : Sto} {st : St} (h : Fit8 ck lg c (some s) st) (t : ByteArray) (ht : t.size <= 8192) : Fit8 ck lg (c + 70) (some (stoTrim st ck.toNat lg.toNat s t).2.1) (stoTrim st ck.toNat lg.toNat s t).2.2 := by
 have h10 := h.lg10
 have hnb : nb t.size <= 32 := by unfold nb; omega
 have hg := h.gen s rfl
 have f1 := h.form.clear (lo ck.toNat lg.toNat (s.gen + 1)) lg.toNat
 have f2 := f1.save 0 (2 * (ck.toNat : Int)) (s.gen + 1) t
 have f3 := f2.open (lo ck.toNat lg.toNat (s.gen + 1)) lg.toNat
 unfold stoTrim
 split
 · exact h.more (by omega)
 · split
   · exact h.more (by omega)
   · split
     · exact h.more (by omega)
     · split
       · exact ⟨f1.more (by omega),fun x e => by cases e; exact hg,fun x e => h.conf s rfl⟩
       · split
         · exact ⟨f2.more (by omega),fun x e => by cases e; exact hg,fun x e => h.conf s rfl⟩
         · split
           · exact ⟨f3.more (by omega),fun x e => by cases e; exact hg,fun x e => h.conf s rfl⟩
           · exact ⟨f3.more (by omega),fun x e => by cases e; show s.gen + 1 <= _; omega,fun x e => h.conf s rfl⟩
theorem Fit8.none {ck lg : Int} {c : Nat} {st : St} (h : Form 24 c st) : Fit8 ck lg c none st := ⟨h,fun s e => (by cases e),fun s e => (by cases e)⟩
theorem Fit8.disk {ck lg : Int} {c c' : Nat} {o : Option Sto} {st st' : St} (h : Fit8 ck lg c o st) (hf : Form 24 c' st') : Fit8 ck lg c' o st' := ⟨hf,h.gen,h.conf⟩
theorem Fit8.opened {ck lg : Int} {c : Nat} {st : St} (h : Form 24 c st) (h0 : (stoOpen st ck lg).1.1 = 0) : Fit8 ck lg (c + 30) (some ⟨(stoOpen st ck lg).1.2.1,(stoOpen st ck lg).1.2.2.2.1,false⟩) (stoOpen st ck lg).2 :=
 ⟨h.opened8 ck lg,fun s e => by cases e; exact stoOpen_gen,fun s e => (mayS_24 (stoOpen_may h0) h.len).2.2.1⟩
structure Core (w : World) (B : Nat) (A C : Nat -> Prop) (u : World) : Prop where
 below : Below w.heap.size w u
 aC : ∀ k,A k -> ¬ C k
 aB : ¬ A B
 cB : ¬ C B
 aNew : ∀ k,A k -> w.heap.size <= k
 cNew : ∀ k,C k -> w.heap.size <= k
 aLt : ∀ k,A k -> k < u.heap.size
 cLt : ∀ k,C k -> k < u.heap.size
 bNew : w.heap.size <= B
 bLt : B < u.heap.size
theorem Core.keep {w : World} {B : Nat} {A C : Nat -> Prop} {u v : World} (h : Core w B A C u) (hb : Below u.heap.size u v) : Core w B A C v :=
 ⟨bnext h.below hb,h.aC,h.aB,h.cB,h.aNew,h.cNew,fun k hk => Nat.lt_of_lt_of_le (h.aLt k hk) hb.size,fun k hk => Nat.lt_of_lt_of_le (h.cLt k hk) hb.size,h.bNew,Nat.lt_of_lt_of_le h.bLt hb.size⟩
theorem Core.less {w : World} {B : Nat} {A C A' C' : Nat -> Prop} {u : World} (h : Core w B A C u) (ha : ∀ k,A' k -> A k) (hc : ∀ k,C' k -> C k) : Core w B A' C' u :=
 ⟨h.below,fun k h1 h2 => h.aC k (ha k h1) (hc k h2),fun h1 => h.aB (ha _ h1),fun h1 => h.cB (hc _ h1),fun k hk => h.aNew k (ha k hk),fun k hk => h.cNew k (hc k hk),fun k hk => h.aLt k (ha k hk),fun k hk => h.cLt k (hc k hk),h.bNew,h.bLt⟩
theorem Core.stepA {w : World} {B : Nat} {A A' C : Nat -> Prop} {u v : World} (h : Core w B A C u) (hl : Loc A A' u v) (hlt : ∀ k,A' k -> k < v.heap.size) : Core w B A' C v := by
 have hs := h.below.size
 refine ⟨h.below.trans (hl.below h.aNew hs),hl.apart h.aC h.cLt,fun hf => ?_,h.cB,hl.beyond h.aNew hs,h.cNew,hlt,fun k hk => Nat.lt_of_lt_of_le (h.cLt k hk) hl.size,h.bNew,Nat.lt_of_lt_of_le h.bLt hl.size⟩
 rcases hl.own B hf with h1 | h1
 · exact h.aB h1
 · have := h.bLt; omega
theorem Core.flip {w : World} {B : Nat} {A C : Nat -> Prop} {u : World} (h : Core w B A C u) : Core w B C A u := ⟨h.below,fun k h1 h2 => h.aC k h2 h1,h.cB,h.aB,h.cNew,h.aNew,h.cLt,h.aLt,h.bNew,h.bLt⟩
theorem Core.stepC {w : World} {B : Nat} {A C C' : Nat -> Prop} {u v : World} (h : Core w B A C u) (hl : Loc C C' u v) (hlt : ∀ k,C' k -> k < v.heap.size) : Core w B A C' v := (h.flip.stepA hl hlt).flip
theorem Core.set {w : World} {B : Nat} {A C : Nat -> Prop} {u : World} (h : Core w B A C u) (i : Nat) (x : Value) : Core w B A C (u.setCell ⟨B,i,none⟩ x) := by
 have hsz : (u.setCell ⟨B,i,none⟩ x).heap.size = u.heap.size := by simp [World.setCell]
 exact ⟨h.below.setCell (p := ⟨B,i,none⟩) h.bNew x,h.aC,h.aB,h.cB,h.aNew,h.cNew,fun k hk => by rw [hsz]; exact h.aLt k hk,fun k hk => by rw [hsz]; exact h.cLt k hk,h.bNew,by rw [hsz]; exact h.bLt⟩
def BAt (u : World) (B pd pr : Nat) (lv xv : Value) (o n : Int) : Prop := u.heap[B]? = some (.cells #[.pointer (some ⟨pd,0,none⟩),.pointer (some ⟨pr,0,none⟩),lv,xv,.int .i64 o,.int .i64 n] 39 (0,0))
theorem BAt.same {u v : World} {B pd pr : Nat} {lv xv : Value} {o n : Int} (h : BAt u B pd pr lv xv o n) (hv : v.heap[B]? = u.heap[B]?) : BAt v B pd pr lv xv o n := hv.trans h
theorem BAt.lt {u : World} {B pd pr : Nat} {lv xv : Value} {o n : Int} (h : BAt u B pd pr lv xv o n) : B < u.heap.size := (Array.getElem?_eq_some_iff.1 h).1
theorem BAt.cells {u : World} {B pd pr : Nat} {lv xv : Value} {o n : Int} (h : BAt u B pd pr lv xv o n) : u.cell? ⟨B,0,none⟩ = some (.pointer (some ⟨pd,0,none⟩)) /\ u.cell? ⟨B,1,none⟩ = some (.pointer (some ⟨pr,0,none⟩)) /\ u.cell? ⟨B,2,none⟩ = some lv /\ u.cell? ⟨B,3,none⟩ = some xv /\ u.cell? ⟨B,4,none⟩ = some (.int .i64 o) /\ u.cell? ⟨B,5,none⟩ = some (.int .i64 n) := by
 have e : u.heap[B]? = _ := h
 refine ⟨?_,?_,?_,?_,?_,?_⟩ <;> simp [World.cell?,e]
theorem BAt.free {u : World} {B pd pr : Nat} {lv xv : Value} {o n : Int} (h : BAt u B pd pr lv xv o n) (i : Nat) : u.frozen? ⟨B,i,none⟩ = false := by simp [World.frozen?,show u.heap[B]? = _ from h]
theorem BAt.setL {u : World} {B pd pr : Nat} {lv xv : Value} {o n : Int} (h : BAt u B pd pr lv xv o n) (v : Value) : BAt (u.setCell ⟨B,2,none⟩ v) B pd pr v xv o n := heap_set3 (i := 2) h v
theorem BAt.setX {u : World} {B pd pr : Nat} {lv xv : Value} {o n : Int} (h : BAt u B pd pr lv xv o n) (v : Value) : BAt (u.setCell ⟨B,3,none⟩ v) B pd pr lv v o n := heap_set3 (i := 3) h v
def PSide (u : World) (pd : Nat) (ck lg : Int) (o : Option Sto) (st : St) (sv : Value) (A : Nat -> Prop) : Prop :=
 (o = none /\ sv = .pointer none /\ DAt u pd st A) \/ ∃ s p k l,o = some s /\ sv = .pointer (some ⟨p,0,none⟩) /\ ck = ((k : Nat) : Int) /\ lg = ((l : Nat) : Int) /\ PSt u p pd k l s st A
def DSide (u : World) (pr : Nat) (ck lg : Int) (o : Option Sto) (st : St) (xv : Value) (C : Nat -> Prop) : Prop :=
 (o = none /\ xv = .pointer none /\ RD u pr st C) \/ ∃ s x k l,o = some s /\ xv = .pointer (some ⟨x,0,none⟩) /\ ck = ((k : Nat) : Int) /\ lg = ((l : Nat) : Int) /\ RS u x pr k l s st C
section
variable {u v : World} {pd pr : Nat} {ck lg : Int} {o : Option Sto} {st : St} {sv xv : Value} {A C : Nat -> Prop}
theorem PSide.lt (h : PSide u pd ck lg o st sv A) : ∀ k,A k -> k < u.heap.size := by
 rcases h with ⟨_,_,h⟩ | ⟨s,p,k,l,_,_,_,_,h⟩
 · exact con.lt h
 · exact con8.lt h
theorem DSide.lt (h : DSide u pr ck lg o st xv C) : ∀ k,C k -> k < u.heap.size := by
 rcases h with ⟨_,_,h⟩ | ⟨s,p,k,l,_,_,_,_,h⟩
 · exact h.lt
 · exact h.lt
theorem PSide.same (h : PSide u pd ck lg o st sv A) (hs : ∀ k,A k -> v.heap[k]? = u.heap[k]?) : PSide v pd ck lg o st sv A := by
 rcases h with ⟨h1,h2,h⟩ | ⟨s,p,k,l,h1,h2,h3,h4,h⟩
 · exact Or.inl ⟨h1,h2,con.same h hs⟩
 · exact Or.inr ⟨s,p,k,l,h1,h2,h3,h4,con8.same h hs⟩
theorem DSide.same (h : DSide u pr ck lg o st xv C) (hs : ∀ k,C k -> v.heap[k]? = u.heap[k]?) : DSide v pr ck lg o st xv C := by
 rcases h with ⟨h1,h2,h⟩ | ⟨s,p,k,l,h1,h2,h3,h4,h⟩
 · exact Or.inl ⟨h1,h2,h.same hs⟩
 · exact Or.inr ⟨s,p,k,l,h1,h2,h3,h4,h.same hs⟩
theorem PSide.disk (h : PSide u pd ck lg o st sv A) : ∃ G,DAt u pd st G /\ (∀ k,G k -> A k) /\ ∀ v st2 G2,DAt v pd st2 G2 -> Loc G G2 u v -> ∃ A2,PSide v pd ck lg o st2 sv A2 /\ Loc A A2 u v := by
 rcases h with ⟨h1,h2,h⟩ | ⟨s,p,k,l,h1,h2,h3,h4,h⟩
 · exact ⟨A,h,fun _ hk => hk,fun v st2 G2 hd hl => ⟨G2,Or.inl ⟨h1,h2,hd⟩,hl⟩⟩
 · obtain ⟨G,hd,hG,hon⟩ := con8.disk h
   refine ⟨G,hd,hG,fun v st2 G2 hd2 hl => ?_⟩
   obtain ⟨A2,hs,hl2⟩ := hon v st2 G2 hd2 hl
   exact ⟨A2,Or.inr ⟨s,p,k,l,h1,h2,h3,h4,hs⟩,hl2⟩
theorem DSide.disk (h : DSide u pr ck lg o st xv C) : ∃ G,RD u pr st G /\ (∀ k,G k -> C k) /\ ∀ v st2 G2,RD v pr st2 G2 -> Loc G G2 u v -> ∃ C2,DSide v pr ck lg o st2 xv C2 /\ Loc C C2 u v := by
 rcases h with ⟨h1,h2,h⟩ | ⟨s,p,k,l,h1,h2,h3,h4,h⟩
 · exact ⟨C,h,fun _ hk => hk,fun v st2 G2 hd hl => ⟨G2,Or.inl ⟨h1,h2,hd⟩,hl⟩⟩
 · obtain ⟨z,b,G,h0,hb,rfl⟩ := h
   refine ⟨G,h0.d,fun k hk => Or.inl hk,fun v st2 G2 hd2 hl => ?_⟩
   exact ⟨_,Or.inr ⟨s,p,k,l,h1,h2,h3,h4,z,b,G2,h0.disk hd2 hl,hb,rfl⟩,hl.wide⟩
end
structure Sides (w : World) (B pd pr : Nat) (ck lg : Int) (o1 : Option Sto) (st1 : St) (sv : Value) (A : Nat -> Prop) (o2 : Option Sto) (st2 : St) (xv : Value) (C : Nat -> Prop) (bs bx : Value) (u : World) : Prop where
 p : PSide u pd ck lg o1 st1 sv A
 d : DSide u pr ck lg o2 st2 xv C
 core : Core w B A C u
 box : BAt u B pd pr bs bx ck lg
section
variable {w u v : World} {B pd pr : Nat} {ck lg : Int} {o1 o2 o' : Option Sto} {st1 st2 st' : St} {sv xv sv' xv' bs bx : Value} {A A' C C' : Nat -> Prop}
theorem Sides.keep (h : Sides w B pd pr ck lg o1 st1 sv A o2 st2 xv C bs bx u) (hb : Below u.heap.size u v) : Sides w B pd pr ck lg o1 st1 sv A o2 st2 xv C bs bx v :=
 ⟨h.p.same (fun k hk => hb.block k (h.core.aLt k hk)),h.d.same (fun k hk => hb.block k (h.core.cLt k hk)),h.core.keep hb,h.box.same (hb.block B h.core.bLt)⟩
theorem Sides.stepP (h : Sides w B pd pr ck lg o1 st1 sv A o2 st2 xv C bs bx u) (hp : PSide v pd ck lg o' st' sv' A') (hl : Loc A A' u v) : Sides w B pd pr ck lg o' st' sv' A' o2 st2 xv C bs bx v :=
 ⟨hp,h.d.same (hl.other h.core.aC h.core.cLt),h.core.stepA hl hp.lt,h.box.same (hl.block B h.core.bLt h.core.aB)⟩
theorem Sides.stepD (h : Sides w B pd pr ck lg o1 st1 sv A o2 st2 xv C bs bx u) (hd : DSide v pr ck lg o' st' xv' C') (hl : Loc C C' u v) : Sides w B pd pr ck lg o1 st1 sv A o' st' xv' C' bs bx v :=
 ⟨h.p.same (hl.other h.core.flip.aC h.core.aLt),hd,h.core.stepC hl hd.lt,h.box.same (hl.block B h.core.bLt h.core.cB)⟩
theorem Sides.setS (h : Sides w B pd pr ck lg o1 st1 sv A o2 st2 xv C bs bx u) (x : Value) : Sides w B pd pr ck lg o1 st1 sv A o2 st2 xv C x bx (u.setCell ⟨B,2,none⟩ x) :=
 ⟨h.p.same (fun k hk => Below.heap_setCell u _ _ k (fun e => h.core.aB (by rw [show k = B from e] at hk; exact hk))),h.d.same (fun k hk => Below.heap_setCell u _ _ k (fun e => h.core.cB (by rw [show k = B from e] at hk; exact hk))),h.core.set 2 x,h.box.setL x⟩
theorem Sides.setX (h : Sides w B pd pr ck lg o1 st1 sv A o2 st2 xv C bs bx u) (x : Value) : Sides w B pd pr ck lg o1 st1 sv A o2 st2 xv C bs x (u.setCell ⟨B,3,none⟩ x) :=
 ⟨h.p.same (fun k hk => Below.heap_setCell u _ _ k (fun e => h.core.aB (by rw [show k = B from e] at hk; exact hk))),h.d.same (fun k hk => Below.heap_setCell u _ _ k (fun e => h.core.cB (by rw [show k = B from e] at hk; exact hk))),h.core.set 3 x,h.box.setX x⟩
theorem Sides.bareP (h : Sides w B pd pr ck lg o1 st1 sv A o2 st2 xv C bs bx u) : ∃ G,Sides w B pd pr ck lg none st1 (.pointer none) G o2 st2 xv C bs bx u := by
 obtain ⟨G,hd,hG,_⟩ := h.p.disk
 exact ⟨G,Or.inl ⟨rfl,rfl,hd⟩,h.d,h.core.less hG (fun _ hk => hk),h.box⟩
theorem Sides.bareD (h : Sides w B pd pr ck lg o1 st1 sv A o2 st2 xv C bs bx u) : ∃ G,Sides w B pd pr ck lg o1 st1 sv A none st2 (.pointer none) G bs bx u := by
 obtain ⟨G,hd,hG,_⟩ := h.d.disk
 exact ⟨G,h.p,Or.inl ⟨rfl,rfl,hd⟩,h.core.less (fun _ hk => hk) hG,h.box⟩
theorem Sides.c045 (h : Sides w B pd pr ck lg o1 st1 sv A o2 st2 xv C bs bx u) : u.cell? ⟨B,0,none⟩ = some (.pointer (some ⟨pd,0,none⟩)) /\ u.cell? ⟨B,4,none⟩ = some (.int .i64 ck) /\ u.cell? ⟨B,5,none⟩ = some (.int .i64 lg) := ⟨h.box.cells.1,h.box.cells.2.2.2.2.1,h.box.cells.2.2.2.2.2⟩
theorem Sides.c145 (h : Sides w B pd pr ck lg o1 st1 sv A o2 st2 xv C bs bx u) : u.cell? ⟨B,1,none⟩ = some (.pointer (some ⟨pr,0,none⟩)) /\ u.cell? ⟨B,4,none⟩ = some (.int .i64 ck) /\ u.cell? ⟨B,5,none⟩ = some (.int .i64 lg) := ⟨h.box.cells.2.1,h.box.cells.2.2.2.2.1,h.box.cells.2.2.2.2.2⟩
end
def All8 (w : World) (B pd pr : Nat) (ck lg : Int) (c : Nat) (u : World) : Prop :=
 ∃ o st sv A xv C,Fit8 ck lg c o st /\ Sides w B pd pr ck lg o st sv A o st xv C sv xv u
structure KBy (B : Nat) (x0 x1 x2 : Value) (v : World) : Prop where
 row : v.heap[B]? = some (.cells #[x0,x1,x2] 61 (0,0))
theorem KBy.all {B : Nat} {x0 x1 x2 : Value} {v : World} (h : KBy B x0 x1 x2 v) : v.cell? ⟨B,0,none⟩ = some x0 /\ v.cell? ⟨B,1,none⟩ = some x1 /\ v.cell? ⟨B,2,none⟩ = some x2 := (row_cells3 h.row).1
theorem KBy.below {B : Nat} {x0 x1 x2 : Value} {u v : World} (h : KBy B x0 x1 x2 u) (hb : Below u.heap.size u v) : KBy B x0 x1 x2 v := ⟨(hb.block _ (Array.getElem?_eq_some_iff.1 h.row).1).trans h.row⟩
theorem KBy.set {B B' : Nat} {x0 x1 x2 : Value} {u : World} (h : KBy B x0 x1 x2 u) (hB : B ≠ B') (i : Nat) (x : Value) : KBy B x0 x1 x2 (u.setCell ⟨B',i,none⟩ x) := ⟨(Below.heap_setCell u ⟨B',i,none⟩ x B hB).trans h.row⟩
def PYes (pd : Nat) (ck lg : Int) (s : Sto) (st' : St) (g : Nat) (t : ByteArray) (rs : List ByteArray) (F : Nat -> Prop) (v : World) (e : Ending) (v' : World) : Prop :=
 ∃ p a c A,e = .returned (.tuple #[.pointer (some ⟨p,0,none⟩),.agg #[.int .u64 (g : Int),.string t,.slice a rs.length c],.int .i64 0]) /\ PSide v' pd ck lg (some s) st' (.pointer (some ⟨p,0,none⟩)) A /\ Loc F A v v' /\ StrsAt v' a rs /\ ∀ b off,a = some ⟨b,off,none⟩ -> v.heap.size <= b
def DYes (pr : Nat) (ck lg : Int) (s : Sto) (st' : St) (g : Nat) (t : ByteArray) (rs : List ByteArray) (F : Nat -> Prop) (v : World) (e : Ending) (v' : World) : Prop :=
 ∃ p a c A,e = .returned (.tuple #[.pointer (some ⟨p,0,none⟩),.agg #[.int .u64 (g : Int),.string t,.slice a rs.length c],.int .i64 0]) /\ DSide v' pr ck lg (some s) st' (.pointer (some ⟨p,0,none⟩)) A /\ Loc F A v v' /\ StrsAt v' a rs /\ ∀ b off,a = some ⟨b,off,none⟩ -> v.heap.size <= b
structure Op1 (w : World) (B pd pr : Nat) (ck lg : Int) (o1 : Option Sto) (st1 : St) (sv : Value) (A : Nat -> Prop) (o2 : Option Sto) (st2 : St) (xv : Value) (C : Nat -> Prop) (bs bx : Value) (a : Option Addr) (rs : List ByteArray) (u : World) : Prop where
 s : Sides w B pd pr ck lg o1 st1 sv A o2 st2 xv C bs bx u
 l : StrsAt u a rs
 cl : Clear C a
 nb : ∀ b off,a = some ⟨b,off,none⟩ -> b ≠ B
structure Op1k (w : World) (B pd pr : Nat) (ck lg : Int) (o1 : Option Sto) (st1 : St) (sv : Value) (A : Nat -> Prop) (o2 : Option Sto) (st2 : St) (xv : Value) (C : Nat -> Prop) (bs bx : Value) (a : Option Addr) (rs : List ByteArray) (Bk : Nat) (x0 x1 x2 : Value) (u : World) : Prop where
 o : Op1 w B pd pr ck lg o1 st1 sv A o2 st2 xv C bs bx a rs u
 k : KBy Bk x0 x1 x2 u
 nA : ¬ A Bk
 nC : ¬ C Bk
 nB : Bk ≠ B
section
variable {w u v : World} {B pd pr : Nat} {ck lg : Int} {o1 o2 o' : Option Sto} {st1 st2 st' : St} {sv xv sv' xv' bs bx : Value} {A A' C C' : Nat -> Prop} {a : Option Addr} {rs : List ByteArray} {Bk : Nat} {x0 x1 x2 : Value}
theorem Sides.first (h : Sides w B pd pr ck lg o1 st1 sv A o2 st2 xv C bs bx u) (hp : PSide v pd ck lg o' st' sv' A') (hl : Loc A A' u v) (hst : StrsAt v a rs) (hge : ∀ b off,a = some ⟨b,off,none⟩ -> u.heap.size <= b) : Op1 w B pd pr ck lg o' st' sv' A' o2 st2 xv C bs bx a rs v :=
 ⟨h.stepP hp hl,hst,fun b off e hc => by have := hge b off e; have := h.core.cLt b hc; omega,fun b off e hb => by have := hge b off e; have := h.core.bLt; omega⟩
theorem Op1.keep (h : Op1 w B pd pr ck lg o1 st1 sv A o2 st2 xv C bs bx a rs u) (hb : Below u.heap.size u v) : Op1 w B pd pr ck lg o1 st1 sv A o2 st2 xv C bs bx a rs v := ⟨h.s.keep hb,h.l.below hb,h.cl,h.nb⟩
theorem Op1k.keep (h : Op1k w B pd pr ck lg o1 st1 sv A o2 st2 xv C bs bx a rs Bk x0 x1 x2 u) (hb : Below u.heap.size u v) : Op1k w B pd pr ck lg o1 st1 sv A o2 st2 xv C bs bx a rs Bk x0 x1 x2 v := ⟨h.o.keep hb,h.k.below hb,h.nA,h.nC,h.nB⟩
theorem Op1.boxed (h : Op1 w B pd pr ck lg o1 st1 sv A o2 st2 xv C bs bx a rs u) : Op1k w B pd pr ck lg o1 st1 sv A o2 st2 xv C bs bx a rs u.heap.size x0 x1 x2 (u.alloc (.cells #[x0,x1,x2] 61)) :=
 ⟨h.keep (one_below _ _),⟨heap_alloc_last u _⟩,fun hc => by have := h.s.core.aLt _ hc; omega,fun hc => by have := h.s.core.cLt _ hc; omega,fun e => by have := h.s.core.bLt; omega⟩
theorem Sides.set (h : Sides w B pd pr ck lg o1 st1 sv A o2 st2 xv C bs bx u) (hA : ¬ A Bk) (hC : ¬ C Bk) (hB : Bk ≠ B) (hw : w.heap.size <= Bk) (i : Nat) (x : Value) : Sides w B pd pr ck lg o1 st1 sv A o2 st2 xv C bs bx (u.setCell ⟨Bk,i,none⟩ x) := by
 have oth : ∀ k,k ≠ Bk -> (u.setCell ⟨Bk,i,none⟩ x).heap[k]? = u.heap[k]? := fun k hk => Below.heap_setCell u ⟨Bk,i,none⟩ x k hk
 have hsz : (u.setCell ⟨Bk,i,none⟩ x).heap.size = u.heap.size := by simp [World.setCell]
 have hc := h.core
 exact ⟨h.p.same (fun k hk => oth k (fun e => hA (e ▸ hk))),h.d.same (fun k hk => oth k (fun e => hC (e ▸ hk))),⟨hc.below.setCell (p := ⟨Bk,i,none⟩) hw x,hc.aC,hc.aB,hc.cB,hc.aNew,hc.cNew,fun k hk => by rw [hsz]; exact hc.aLt k hk,fun k hk => by rw [hsz]; exact hc.cLt k hk,hc.bNew,by rw [hsz]; exact hc.bLt⟩,h.box.same (oth B hB.symm)⟩
theorem Op1k.set (h : Op1k w B pd pr ck lg o1 st1 sv A o2 st2 xv C bs bx a rs Bk x0 x1 x2 u) (hw : w.heap.size <= Bk) (hnl : ∀ b off,a = some ⟨b,off,none⟩ -> b ≠ Bk) (y0 y1 y2 : Value) : Op1k w B pd pr ck lg o1 st1 sv A o2 st2 xv C bs bx a rs Bk y0 y1 y2 (((u.setCell ⟨Bk,0,none⟩ y0).setCell ⟨Bk,1,none⟩ y1).setCell ⟨Bk,2,none⟩ y2) :=
 ⟨⟨((h.o.s.set h.nA h.nC h.nB hw 0 y0).set h.nA h.nC h.nB hw 1 y1).set h.nA h.nC h.nB hw 2 y2,strs_set8 (strs_set8 (strs_set8 h.o.l hnl) hnl) hnl,h.o.cl,h.o.nb⟩,⟨heap_set3 (i := 2) (heap_set3 (i := 1) (heap_set3 (i := 0) h.k.row y0) y1) y2⟩,h.nA,h.nC,h.nB⟩
theorem Sides.firstZ (h : Sides w B pd pr ck lg o1 st1 sv A o2 st2 xv C bs bx u) (hp : PSide v pd ck lg o' st' sv' A') (hl : Loc A A' (u.alloc (.cells #[x0,x1,x2] 61)).drew v) (hst : StrsAt v a rs) (hge : ∀ b off,a = some ⟨b,off,none⟩ -> (u.alloc (.cells #[x0,x1,x2] 61)).drew.heap.size <= b) : Op1k w B pd pr ck lg o' st' sv' A' o2 st2 xv C bs bx a rs u.heap.size x0 x1 x2 v /\ ∀ b off,a = some ⟨b,off,none⟩ -> b ≠ u.heap.size := by
 have hsz : (u.alloc (.cells #[x0,x1,x2] 61)).drew.heap.size = u.heap.size + 1 := by show (u.alloc (.cells #[x0,x1,x2] 61)).heap.size = _; simp
 have hb := (one_below u (.cells #[x0,x1,x2] 61)).drew
 have hrow : (u.alloc (.cells #[x0,x1,x2] 61)).drew.heap[u.heap.size]? = some (.cells #[x0,x1,x2] 61 (0,0)) := heap_alloc_last u _
 have hnA : ¬ A u.heap.size := fun hk => by have := h.core.aLt _ hk; omega
 refine ⟨⟨(h.keep hb).first hp hl hst hge,⟨(hl.block _ (by omega) hnA).trans hrow⟩,fun hk => ?_,fun hk => by have := h.core.cLt _ hk; omega,fun e => by have := h.core.bLt; omega⟩,fun b off e => by have := hge b off e; omega⟩
 rcases hl.own _ hk with h1 | h1
 · exact hnA h1
 · omega
theorem strs_set9 {u : World} {B i : Nat} {v : Value} {a : Option Addr} {l : List ByteArray} (h : StrsAt u a l) (hn : l ≠ [] -> ∀ b off,a = some ⟨b,off,none⟩ -> b ≠ B) : StrsAt (u.setCell ⟨B,i,none⟩ v) a l := by
 by_cases h0 : l = []
 · exact Or.inl h0
 · exact strs_set8 h (hn h0)
structure Op2 (w : World) (B pd pr : Nat) (ck lg : Int) (o1 : Option Sto) (st1 : St) (sv : Value) (A : Nat -> Prop) (o2 : Option Sto) (st2 : St) (xv : Value) (C : Nat -> Prop) (bs bx : Value) (a a2 : Option Addr) (rs : List ByteArray) (Bk : Nat) (x0 x1 x2 : Value) (u : World) : Prop where
 s : Sides w B pd pr ck lg o1 st1 sv A o2 st2 xv C bs bx u
 l : StrsAt u a rs
 nb : ∀ b off,a = some ⟨b,off,none⟩ -> b ≠ B
 k : KBy Bk x0 x1 x2 u
 nB : Bk ≠ B
 l2 : StrsAt u a2 rs
 nb2 : ∀ b off,a2 = some ⟨b,off,none⟩ -> b ≠ B
structure Op2k (w : World) (B pd pr : Nat) (ck lg : Int) (o1 : Option Sto) (st1 : St) (sv : Value) (A : Nat -> Prop) (o2 : Option Sto) (st2 : St) (xv : Value) (C : Nat -> Prop) (bs bx : Value) (a a2 : Option Addr) (rs : List ByteArray) (Bk : Nat) (x0 x1 x2 : Value) (Bm : Nat) (y0 y1 y2 : Value) (u : World) : Prop where
 o : Op2 w B pd pr ck lg o1 st1 sv A o2 st2 xv C bs bx a a2 rs Bk x0 x1 x2 u
 k2 : KBy Bm y0 y1 y2 u
 nB2 : Bm ≠ B
structure Bes (w : World) (A C : Nat -> Prop) (Bk Bm : Nat) (a a2 : Option Addr) (rs : List ByteArray) : Prop where
 nA : ¬ A Bm
 nC : ¬ C Bm
 nK : Bk ≠ Bm
 w : w.heap.size <= Bm
 nl : rs ≠ [] -> ∀ b off,a = some ⟨b,off,none⟩ -> b ≠ Bm
 nl2 : ∀ b off,a2 = some ⟨b,off,none⟩ -> b ≠ Bm
theorem Op1k.then {a2 : Option Addr} (h : Op1k w B pd pr ck lg o1 st1 sv A o2 st2 xv C bs bx a rs Bk x0 x1 x2 u) (hd : DSide v pr ck lg o' st' xv' C') (hl : Loc C C' u v) (hst : StrsAt v a2 rs) (hge : ∀ b off,a2 = some ⟨b,off,none⟩ -> u.heap.size <= b) : Op2 w B pd pr ck lg o1 st1 sv A o' st' xv' C' bs bx a a2 rs Bk x0 x1 x2 v :=
 ⟨h.o.s.stepD hd hl,strs_loc h.o.l hl h.o.cl,h.o.nb,⟨(hl.block _ (Array.getElem?_eq_some_iff.1 h.k.row).1 h.nC).trans h.k.row⟩,h.nB,hst,fun b off e hb => by have := hge b off e; have := h.o.s.core.bLt; omega⟩
theorem Op2.keep {a2 : Option Addr} (h : Op2 w B pd pr ck lg o1 st1 sv A o2 st2 xv C bs bx a a2 rs Bk x0 x1 x2 u) (hb : Below u.heap.size u v) : Op2 w B pd pr ck lg o1 st1 sv A o2 st2 xv C bs bx a a2 rs Bk x0 x1 x2 v :=
 ⟨h.s.keep hb,h.l.below hb,h.nb,h.k.below hb,h.nB,h.l2.below hb,h.nb2⟩
theorem Op2.boxed {a2 : Option Addr} {y0 y1 y2 : Value} (h : Op2 w B pd pr ck lg o1 st1 sv A o2 st2 xv C bs bx a a2 rs Bk x0 x1 x2 u) : Op2k w B pd pr ck lg o1 st1 sv A o2 st2 xv C bs bx a a2 rs Bk x0 x1 x2 u.heap.size y0 y1 y2 (u.alloc (.cells #[y0,y1,y2] 61)) :=
 ⟨h.keep (one_below _ _),⟨heap_alloc_last u _⟩,fun e => by have := h.s.core.bLt; omega⟩
theorem Op1k.thenZ {a2 : Option Addr} {y0 y1 y2 : Value} (h : Op1k w B pd pr ck lg o1 st1 sv A o2 st2 xv C bs bx a rs Bk x0 x1 x2 u) (hd : DSide v pr ck lg o' st' xv' C') (hl : Loc C C' (u.alloc (.cells #[y0,y1,y2] 61)).drew v) (hst : StrsAt v a2 rs) (hge : ∀ b off,a2 = some ⟨b,off,none⟩ -> (u.alloc (.cells #[y0,y1,y2] 61)).drew.heap.size <= b) :
   Op2k w B pd pr ck lg o1 st1 sv A o' st' xv' C' bs bx a a2 rs Bk x0 x1 x2 u.heap.size y0 y1 y2 v /\ Bes w A C' Bk u.heap.size a a2 rs := by
 have hsz : (u.alloc (.cells #[y0,y1,y2] 61)).drew.heap.size = u.heap.size + 1 := by show (u.alloc (.cells #[y0,y1,y2] 61)).heap.size = _; simp
 have hb := (one_below u (.cells #[y0,y1,y2] 61)).drew
 have hrow : (u.alloc (.cells #[y0,y1,y2] 61)).drew.heap[u.heap.size]? = some (.cells #[y0,y1,y2] 61 (0,0)) := heap_alloc_last u _
 have hnC : ¬ C u.heap.size := fun hk => by have := h.o.s.core.cLt _ hk; omega
 refine ⟨⟨(h.keep hb).then hd hl hst hge,⟨(hl.block _ (by omega) hnC).trans hrow⟩,fun e => by have := h.o.s.core.bLt; omega⟩,fun hk => by have := h.o.s.core.aLt _ hk; omega,fun hk => ?_,fun e => by have := (Array.getElem?_eq_some_iff.1 h.k.row).1; omega,h.o.s.core.below.size,fun hne b off e hb => ?_,fun b off e => by have := hge b off e; omega⟩
 · rcases hl.own _ hk with h1 | h1
   · exact hnC h1
   · omega
 · rcases h.o.l with h1 | ⟨b',off',h1,hx⟩
   · exact hne h1
   · rw [e] at h1
     cases h1
     have := World.block_lt_of_cell? u _ (hx 0 (List.length_pos_iff.2 hne))
     have : b < u.heap.size := this
     omega
theorem Op2k.set {a2 : Option Addr} {Bm : Nat} {y0 y1 y2 : Value} (h : Op2k w B pd pr ck lg o1 st1 sv A o2 st2 xv C bs bx a a2 rs Bk x0 x1 x2 Bm y0 y1 y2 u) (hs : Bes w A C Bk Bm a a2 rs) (z0 z1 z2 : Value) :
   Op2k w B pd pr ck lg o1 st1 sv A o2 st2 xv C bs bx a a2 rs Bk x0 x1 x2 Bm z0 z1 z2 (((u.setCell ⟨Bm,0,none⟩ z0).setCell ⟨Bm,1,none⟩ z1).setCell ⟨Bm,2,none⟩ z2) :=
 ⟨⟨((h.o.s.set hs.nA hs.nC h.nB2 hs.w 0 z0).set hs.nA hs.nC h.nB2 hs.w 1 z1).set hs.nA hs.nC h.nB2 hs.w 2 z2,strs_set9 (strs_set9 (strs_set9 h.o.l hs.nl) hs.nl) hs.nl,h.o.nb,((h.o.k.set hs.nK 0 z0).set hs.nK 1 z1).set hs.nK 2 z2,h.o.nB,strs_set8 (strs_set8 (strs_set8 h.o.l2 hs.nl2) hs.nl2) hs.nl2,h.o.nb2⟩,
   ⟨heap_set3 (i := 2) (heap_set3 (i := 1) (heap_set3 (i := 0) h.k2.row z0) z1) z2⟩,h.nB2⟩
theorem Op2k.setB {a2 : Option Addr} {Bm : Nat} {y0 y1 y2 : Value} (h : Op2k w B pd pr ck lg o1 st1 sv A o2 st2 xv C bs bx a a2 rs Bk x0 x1 x2 Bm y0 y1 y2 u) (s x : Value) :
   Op2k w B pd pr ck lg o1 st1 sv A o2 st2 xv C s x a a2 rs Bk x0 x1 x2 Bm y0 y1 y2 ((u.setCell ⟨B,2,none⟩ s).setCell ⟨B,3,none⟩ x) :=
 ⟨⟨(h.o.s.setS s).setX x,strs_set8 (strs_set8 h.o.l h.o.nb) h.o.nb,h.o.nb,(h.o.k.set h.o.nB 2 s).set h.o.nB 3 x,h.o.nB,strs_set8 (strs_set8 h.o.l2 h.o.nb2) h.o.nb2,h.o.nb2⟩,(h.k2.set h.nB2 2 s).set h.nB2 3 x,h.nB2⟩
end
set_option maxRecDepth 10000 in
set_option maxHeartbeats 4000000 in
theorem bothOpen_yes (w u : World) (B pd pr : Nat) (ck lg : Int) (st st' : St) (c g : Nat) (t : ByteArray) (rs : List ByteArray) (s : Sto) (F G : Nat -> Prop) (bs bx : Value) (h : Sides w B pd pr ck lg none st (.pointer none) F none st (.pointer none) G bs bx u) (hrl : rs.length <= 3000)
   (KP : ∀ v,DAt v pd st F -> Calls Tryz.prog 20 #[.pointer (some ⟨pd,0,none⟩),confV ck lg] v (PYes pd ck lg s st' g t rs F v)) (KR : ∀ v,RD v pr st G -> Calls Tryz.prog 29 #[.pointer (some ⟨pr,0,none⟩),confV ck lg] v (DYes pr ck lg s st' g t rs G v))
   (hf : Fit8 ck lg c (some s) st') :
   Calls Tryz.prog 12 #[.pointer (some ⟨B,0,none⟩)] u fun e v => e = .returned (.bool true) /\ All8 w B pd pr ck lg c v := by
 have K1 := hide (fun v (h : PSide v pd ck lg none st (.pointer none) F) => KP v (by rcases h with ⟨_,_,h⟩ | ⟨s,p,k,l,h,_⟩; exact h; exact absurd h (by simp)))
 have K2 := hide (fun v (h : DSide v pr ck lg none st (.pointer none) G) => KR v (by rcases h with ⟨_,_,h⟩ | ⟨s,p,k,l,h,_⟩; exact h; exact absurd h (by simp)))
 have H := hide h
 have HF := hide hf
 have HW : Hid (w.heap.size <= u.heap.size) := h.core.below.size
 have HRl : Hid (rs.length <= 140737488351232) := by show _ <= _; omega
 obtain ⟨b0,b1,b2,b3,b4,b5⟩ := h.box.cells
 unfold confV at K1 K2
 clear KP KR h hf hrl
 go_enter Tryz.func12,Tryz.ntmps12
 go_wp2_with fail
 have K := H.out.keep ((Below.refl _ _).drew)
 clear b0 b1 b2 b3 b4 b5
 go_region_held3 (fun z => z.cell? ⟨B,0,none⟩ = some (.pointer (some ⟨pd,0,none⟩)) /\ z.cell? ⟨B,4,none⟩ = some (.int .i64 ck) /\ z.cell? ⟨B,5,none⟩ = some (.int .i64 lg))
   ((first | (with_reducible exact Sides.c045 K) | (with_reducible exact Sides.c045 (Op1.s K)) | (with_reducible exact Sides.c045 (H.out.keep ((one_below _ _).drew))) | (with_reducible exact Sides.c045 (Op1.s (Op1.keep K (one_below _ _)))) | (with_reducible exact Sides.c045 (Op1.s (Op1k.o K))) | (with_reducible exact Sides.c045 (Op1.s (Op1k.o (Op1k.set K HW.out hnl _ _ _))))))
   (first
     | (go_at_call 20; refine (K1.out _ (H.out.keep ((one_below _ _).drew)).p).mono ?_; rintro e z1 ⟨p1,a1,c1,A1,rfl,hs1,hl1,hst1,hge1⟩; obtain ⟨K,hnl⟩ := Sides.firstZ H.out hs1 hl1 hst1 hge1; obtain ⟨⟨r0,r1,r2⟩,fr⟩ := row_cells3 K.k.row; have fr0 := fr 0; have fr1 := fr 1; have fr2 := fr 2; clear hs1 hl1 hst1 hge1 fr)
     | (go_at_call 20; refine (K1.out _ K.p).mono ?_; rintro e z1 ⟨p1,a1,c1,A1,rfl,hs1,hl1,hst1,hge1⟩; have K := Sides.first K hs1 hl1 hst1 hge1; clear hs1 hl1 hst1 hge1))
 all_goals
   first
     | (have HK := hide (Op1.boxed (x0 := .int .u64 (g : Int)) (x1 := .string t) (x2 := .slice a1 rs.length c1) K); clear K; generalize z1.alloc (.cells #[.int .u64 (g : Int),.string t,.slice a1 rs.length c1] 61) = W1 at *; generalize z1.heap.size = Bk at *)
     | (have HK := hide (Op1k.set K HW.out hnl (.int .u64 (g : Int)) (.string t) (.slice a1 rs.length c1)); clear K r0 r1 r2 fr0 fr1 fr2 hnl; generalize ((z1.setCell ⟨u.heap.size,0,none⟩ (.int .u64 (g : Int))).setCell ⟨u.heap.size,1,none⟩ (.string t)).setCell ⟨u.heap.size,2,none⟩ (.slice a1 rs.length c1) = W1 at *; generalize u.heap.size = Bk at *)
   clear H HW
   go_wp2_with fail
   have K := HK.out.keep ((Below.refl _ _).drew)
   go_region_held3 (fun z => z.cell? ⟨B,1,none⟩ = some (.pointer (some ⟨pr,0,none⟩)) /\ z.cell? ⟨B,4,none⟩ = some (.int .i64 ck) /\ z.cell? ⟨B,5,none⟩ = some (.int .i64 lg))
     ((first | (with_reducible exact Sides.c145 (Op1.s (Op1k.o K))) | (with_reducible exact Sides.c145 (Op2.s K)) | (with_reducible exact Sides.c145 (Op1.s (Op1k.o (HK.out.keep ((one_below _ _).drew))))) | (with_reducible exact Sides.c145 (Op2.s (Op2.keep K (one_below _ _)))) | (with_reducible exact Sides.c145 (Op2.s (Op2k.o K))) | (with_reducible exact Sides.c145 (Op2.s (Op2k.o (Op2k.set K hbs _ _ _))))))
     (first
       | (go_at_call 29; refine (K2.out _ (HK.out.keep ((one_below _ _).drew)).o.s.d).mono ?_; rintro e z2 ⟨p2,a2,c2,C2,rfl,hs2,hl2,hst2,hge2⟩; obtain ⟨K,hbs⟩ := Op1k.thenZ HK.out hs2 hl2 hst2 hge2; obtain ⟨⟨q0,q1,q2⟩,gr⟩ := row_cells3 K.k2.row; have gr0 := gr 0; have gr1 := gr 1; have gr2 := gr 2; clear hs2 hl2 hst2 hge2 gr)
       | (go_at_call 29; refine (K2.out _ K.o.s.d).mono ?_; rintro e z2 ⟨p2,a2,c2,C2,rfl,hs2,hl2,hst2,hge2⟩; have K := Op1k.then K hs2 hl2 hst2 hge2; clear hs2 hl2 hst2 hge2))
   all_goals
     first
       | (have HM := hide (Op2.boxed (y0 := .int .u64 (g : Int)) (y1 := .string t) (y2 := .slice a2 rs.length c2) K); clear K; generalize z2.alloc (.cells #[.int .u64 (g : Int),.string t,.slice a2 rs.length c2] 61) = W2 at *; generalize z2.heap.size = Bm at *)
       | (have HM := hide (Op2k.set K hbs (.int .u64 (g : Int)) (.string t) (.slice a2 rs.length c2)); clear K q0 q1 q2 gr0 gr1 gr2 hbs; generalize ((z2.setCell ⟨W1.heap.size,0,none⟩ (.int .u64 (g : Int))).setCell ⟨W1.heap.size,1,none⟩ (.string t)).setCell ⟨W1.heap.size,2,none⟩ (.slice a2 rs.length c2) = W2 at *; generalize W1.heap.size = Bm at *)
     have HN := hide (HM.out.setB (.pointer (some ⟨p1,0,none⟩)) (.pointer (some ⟨p2,0,none⟩)))
     obtain ⟨b0,b1,b2,b3,b4,b5⟩ := HM.out.o.s.box.cells
     have f2 := HM.out.o.s.box.free 2
     have f3 := HM.out.o.s.box.free 3
     obtain ⟨k0,k1,k2⟩ := HN.out.o.k.all
     obtain ⟨m0,m1,m2⟩ := HN.out.k2.all
     clear HK HM
     go_wp2_with fail
     refine (same_any a1 a2 c1 c2 rs _ HN.out.o.l HN.out.o.l2 HRl.out).mono ?_
     rintro e z3 ⟨rfl,n3,rfl⟩
     have HE : Hid (All8 w B pd pr ck lg c (((W2.setCell ⟨B,2,none⟩ (.pointer (some ⟨p1,0,none⟩))).setCell ⟨B,3,none⟩ (.pointer (some ⟨p2,0,none⟩))).drewN n3)) := ⟨_,_,_,_,_,_,HF.out,HN.out.o.s.keep (below_drewN (Below.refl _ _) n3)⟩
     generalize ((W2.setCell ⟨B,2,none⟩ (.pointer (some ⟨p1,0,none⟩))).setCell ⟨B,3,none⟩ (.pointer (some ⟨p2,0,none⟩))).drewN n3 = z4 at *
     clear HN b0 b1 b2 b3 b4 b5 f2 f3 k0 k1 k2 m0 m1 m2
     go_wp2
     go_ret
     exact ⟨rfl,HE.out⟩
def PNo (pd : Nat) (ck lg : Int) (st' : St) (y : Int) (F : Nat -> Prop) (v : World) (e : Ending) (v' : World) : Prop :=
 ∃ A,e = .returned (.tuple #[.pointer none,.agg #[.int .u64 0,.string ⟨#[]⟩,.slice none 0 0],.int .i64 y]) /\ PSide v' pd ck lg none st' (.pointer none) A /\ Loc F A v v'
def DNo (pr : Nat) (ck lg : Int) (st' : St) (y : Int) (F : Nat -> Prop) (v : World) (e : Ending) (v' : World) : Prop :=
 ∃ A,e = .returned (.tuple #[.pointer none,.agg #[.int .u64 0,.string ⟨#[]⟩,.slice none 0 0],.int .i64 y]) /\ DSide v' pr ck lg none st' (.pointer none) A /\ Loc F A v v'
theorem strs_none (v : World) : StrsAt v none [] := Or.inl rfl
theorem none_ge {n : Nat} : ∀ b off,(none : Option Addr) = some ⟨b,off,none⟩ -> n <= b := fun b off e => by cases e
set_option maxRecDepth 10000 in
set_option maxHeartbeats 4000000 in
theorem bothOpen_no (w u : World) (B pd pr : Nat) (ck lg : Int) (st st' : St) (c : Nat) (y : Int) (F G : Nat -> Prop) (bs bx : Value) (h : Sides w B pd pr ck lg none st (.pointer none) F none st (.pointer none) G bs bx u)
   (KP : ∀ v,DAt v pd st F -> Calls Tryz.prog 20 #[.pointer (some ⟨pd,0,none⟩),confV ck lg] v (PNo pd ck lg st' y F v)) (KR : ∀ v,RD v pr st G -> Calls Tryz.prog 29 #[.pointer (some ⟨pr,0,none⟩),confV ck lg] v (DNo pr ck lg st' y G v))
   (hf : Fit8 ck lg c none st') :
   Calls Tryz.prog 12 #[.pointer (some ⟨B,0,none⟩)] u fun e v => e = .returned (.bool true) /\ All8 w B pd pr ck lg c v := by
 have K1 := hide (fun v (h : PSide v pd ck lg none st (.pointer none) F) => KP v (by rcases h with ⟨_,_,h⟩ | ⟨s,p,k,l,h,_⟩; exact h; exact absurd h (by simp)))
 have K2 := hide (fun v (h : DSide v pr ck lg none st (.pointer none) G) => KR v (by rcases h with ⟨_,_,h⟩ | ⟨s,p,k,l,h,_⟩; exact h; exact absurd h (by simp)))
 have H := hide h
 have HF := hide hf
 have HW : Hid (w.heap.size <= u.heap.size) := h.core.below.size
 obtain ⟨b0,b1,b2,b3,b4,b5⟩ := h.box.cells
 unfold confV at K1 K2
 clear KP KR h hf
 go_enter Tryz.func12,Tryz.ntmps12
 go_wp2_with fail
 have K := H.out.keep ((Below.refl _ _).drew)
 clear b0 b1 b2 b3 b4 b5
 go_region_held3 (fun z => z.cell? ⟨B,0,none⟩ = some (.pointer (some ⟨pd,0,none⟩)) /\ z.cell? ⟨B,4,none⟩ = some (.int .i64 ck) /\ z.cell? ⟨B,5,none⟩ = some (.int .i64 lg))
   ((first | (with_reducible exact Sides.c045 K) | (with_reducible exact Sides.c045 (Op1.s K)) | (with_reducible exact Sides.c045 (H.out.keep ((one_below _ _).drew))) | (with_reducible exact Sides.c045 (Op1.s (Op1.keep K (one_below _ _)))) | (with_reducible exact Sides.c045 (Op1.s (Op1k.o K))) | (with_reducible exact Sides.c045 (Op1.s (Op1k.o (Op1k.set K HW.out hnl _ _ _))))))
   (first
     | (go_at_call 20; refine (K1.out _ (H.out.keep ((one_below _ _).drew)).p).mono ?_; rintro e z1 ⟨A1,rfl,hs1,hl1⟩; obtain ⟨K,hnl⟩ := Sides.firstZ H.out hs1 hl1 (strs_none _) none_ge; obtain ⟨⟨r0,r1,r2⟩,fr⟩ := row_cells3 K.k.row; have fr0 := fr 0; have fr1 := fr 1; have fr2 := fr 2; clear hs1 hl1 fr)
     | (go_at_call 20; refine (K1.out _ K.p).mono ?_; rintro e z1 ⟨A1,rfl,hs1,hl1⟩; have K := Sides.first K hs1 hl1 (strs_none _) none_ge; clear hs1 hl1))
 all_goals
   first
     | (have HK := hide (Op1.boxed (x0 := .int .u64 0) (x1 := .string ⟨#[]⟩) (x2 := .slice none 0 0) K); clear K; generalize z1.alloc (.cells #[.int .u64 0,.string ⟨#[]⟩,.slice none 0 0] 61) = W1 at *; generalize z1.heap.size = Bk at *)
     | (have HK := hide (Op1k.set K HW.out hnl (.int .u64 0) (.string ⟨#[]⟩) (.slice none 0 0)); clear K r0 r1 r2 fr0 fr1 fr2 hnl; generalize ((z1.setCell ⟨u.heap.size,0,none⟩ (.int .u64 0)).setCell ⟨u.heap.size,1,none⟩ (.string ⟨#[]⟩)).setCell ⟨u.heap.size,2,none⟩ (.slice none 0 0) = W1 at *; generalize u.heap.size = Bk at *)
   clear H HW
   go_wp2_with fail
   have K := HK.out.keep ((Below.refl _ _).drew)
   go_region_held3 (fun z => z.cell? ⟨B,1,none⟩ = some (.pointer (some ⟨pr,0,none⟩)) /\ z.cell? ⟨B,4,none⟩ = some (.int .i64 ck) /\ z.cell? ⟨B,5,none⟩ = some (.int .i64 lg))
     ((first | (with_reducible exact Sides.c145 (Op1.s (Op1k.o K))) | (with_reducible exact Sides.c145 (Op2.s K)) | (with_reducible exact Sides.c145 (Op1.s (Op1k.o (HK.out.keep ((one_below _ _).drew))))) | (with_reducible exact Sides.c145 (Op2.s (Op2.keep K (one_below _ _)))) | (with_reducible exact Sides.c145 (Op2.s (Op2k.o K))) | (with_reducible exact Sides.c145 (Op2.s (Op2k.o (Op2k.set K hbs _ _ _))))))
     (first
       | (go_at_call 29; refine (K2.out _ (HK.out.keep ((one_below _ _).drew)).o.s.d).mono ?_; rintro e z2 ⟨C2,rfl,hs2,hl2⟩; obtain ⟨K,hbs⟩ := Op1k.thenZ HK.out hs2 hl2 (strs_none _) none_ge; obtain ⟨⟨q0,q1,q2⟩,gr⟩ := row_cells3 K.k2.row; have gr0 := gr 0; have gr1 := gr 1; have gr2 := gr 2; clear hs2 hl2 gr)
       | (go_at_call 29; refine (K2.out _ K.o.s.d).mono ?_; rintro e z2 ⟨C2,rfl,hs2,hl2⟩; have K := Op1k.then K hs2 hl2 (strs_none _) none_ge; clear hs2 hl2))
   all_goals
     first
       | (have HM := hide (Op2.boxed (y0 := .int .u64 0) (y1 := .string ⟨#[]⟩) (y2 := .slice none 0 0) K); clear K; generalize z2.alloc (.cells #[.int .u64 0,.string ⟨#[]⟩,.slice none 0 0] 61) = W2 at *; generalize z2.heap.size = Bm at *)
       | (have HM := hide (Op2k.set K hbs (.int .u64 0) (.string ⟨#[]⟩) (.slice none 0 0)); clear K q0 q1 q2 gr0 gr1 gr2 hbs; generalize ((z2.setCell ⟨W1.heap.size,0,none⟩ (.int .u64 0)).setCell ⟨W1.heap.size,1,none⟩ (.string ⟨#[]⟩)).setCell ⟨W1.heap.size,2,none⟩ (.slice none 0 0) = W2 at *; generalize W1.heap.size = Bm at *)
     have HN := hide (HM.out.setB (.pointer none) (.pointer none))
     obtain ⟨b0,b1,b2,b3,b4,b5⟩ := HM.out.o.s.box.cells
     have f2 := HM.out.o.s.box.free 2
     have f3 := HM.out.o.s.box.free 3
     obtain ⟨k0,k1,k2⟩ := HN.out.o.k.all
     obtain ⟨m0,m1,m2⟩ := HN.out.k2.all
     clear HK HM
     go_wp2_with fail
     refine (same_any none none 0 0 [] _ (Or.inl rfl) (Or.inl rfl) (by decide)).mono ?_
     rintro e z3 ⟨rfl,n3,rfl⟩
     have HE : Hid (All8 w B pd pr ck lg c (((W2.setCell ⟨B,2,none⟩ (.pointer none)).setCell ⟨B,3,none⟩ (.pointer none)).drewN n3)) := ⟨_,_,_,_,_,_,HF.out,HN.out.o.s.keep (below_drewN (Below.refl _ _) n3)⟩
     generalize ((W2.setCell ⟨B,2,none⟩ (.pointer none)).setCell ⟨B,3,none⟩ (.pointer none)).drewN n3 = z4 at *
     clear HN b0 b1 b2 b3 b4 b5 f2 f3 k0 k1 k2 m0 m1 m2
     go_wp2
     go_ret
     exact ⟨rfl,HE.out⟩
theorem both_open8 (w u : World) (B pd pr : Nat) (ck lg : Int) (st : St) (c : Nat) (o1 o2 : Option Sto) (sv xv : Value) (A C : Nat -> Prop) (bs bx : Value) (h : Sides w B pd pr ck lg o1 st sv A o2 st xv C bs bx u) (hf : Form 24 c st) (hc : c <= 4900) (hk : I64 ck) (hg : I64 lg) :
   Calls Tryz.prog 12 #[.pointer (some ⟨B,0,none⟩)] u fun e v => e = .returned (.bool true) /\ All8 w B pd pr ck lg (c + 30) v := by
 obtain ⟨F,h1⟩ := h.bareP
 obtain ⟨G,h2⟩ := h1.bareD
 have hfew := hf.few
 have hlen := hf.len
 have kp := fun v (hd : DAt v pd st F) => con8.opens pd st F ck lg v hd hf.ok (by omega) (by omega) hk hg
 have kr := fun v (hd : RD v pr st G) => rOpen8 pr st G ck lg v hd hf.ok (by omega) (by omega)
 by_cases h0 : (stoOpen st ck lg).1.1 = 0
 · obtain ⟨e1,e2,_,_⟩ := mayS_24 (stoOpen_may h0) hlen
   refine bothOpen_yes w u B pd pr ck lg st (stoOpen st ck lg).2 (c + 30) (stoOpen st ck lg).1.2.1 (stoOpen st ck lg).1.2.2.1 (stoOpen st ck lg).1.2.2.2.2 ⟨(stoOpen st ck lg).1.2.1,(stoOpen st ck lg).1.2.2.2.1,false⟩ F G bs bx h2 (stoOpen_recs hf.ok hlen) (fun v hd => (kp v hd).mono ?_) (fun v hd => (kr v hd).mono ?_) (Fit8.opened hf h0)
   · rintro e v' (⟨_,p,a,cc,A',rfl,hs,hl,hst,hge⟩ | ⟨hh,_⟩)
     · exact ⟨p,a,cc,A',rfl,Or.inr ⟨_,p,_,_,rfl,rfl,e1,e2,hs⟩,hl,hst,hge⟩
     · exact absurd h0 hh
   · rintro e v' (⟨_,p,a,cc,A',rfl,hs,hl,hst,hge⟩ | ⟨hh,_⟩)
     · exact ⟨p,a,cc,A',rfl,Or.inr ⟨_,p,_,_,rfl,rfl,e1,e2,hs⟩,hl,hst,hge⟩
     · exact absurd h0 hh
 · refine bothOpen_no w u B pd pr ck lg st (stoOpen st ck lg).2 (c + 30) (((stoOpen st ck lg).1.1 : Nat) : Int) F G bs bx h2 (fun v hd => (kp v hd).mono ?_) (fun v hd => (kr v hd).mono ?_) (Fit8.none (hf.opened8 ck lg))
   · rintro e v' (⟨hh,_⟩ | ⟨_,rfl,F',hd,hl⟩)
     · exact absurd hh h0
     · exact ⟨F',rfl,Or.inl ⟨rfl,rfl,hd⟩,hl⟩
   · rintro e v' (⟨hh,_⟩ | ⟨_,rfl,F',hd,hl⟩)
     · exact absurd hh h0
     · exact ⟨F',rfl,Or.inl ⟨rfl,rfl,hd⟩,hl⟩
section
variable {w u : World} {B pd pr : Nat} {ck lg : Int} {c : Nat} {o1 o2 : Option Sto} {s : Sto} {st st1 st2 : St} {sv xv bs bx : Value} {A C : Nat -> Prop} {p x : Nat}
def PCall (w : World) (B pd pr : Nat) (ck lg : Int) (sv : Value) (o2 : Option Sto) (st2 : St) (xv : Value) (C : Nat -> Prop) (bs bx : Value) (r : Nat × Sto × St) (e : Ending) (v : World) : Prop :=
 e = .returned (.int .i64 ((r.1 : Nat) : Int)) /\ ∃ A',Sides w B pd pr ck lg (some r.2.1) r.2.2 sv A' o2 st2 xv C bs bx v
def DCall (w : World) (B pd pr : Nat) (ck lg : Int) (o1 : Option Sto) (st1 : St) (sv : Value) (A : Nat -> Prop) (xv : Value) (bs bx : Value) (r : Nat × Sto × St) (e : Ending) (v : World) : Prop :=
 e = .returned (.int .i64 ((r.1 : Nat) : Int)) /\ ∃ C',Sides w B pd pr ck lg o1 st1 sv A (some r.2.1) r.2.2 xv C' bs bx v
theorem PSide.there (h : PSide u pd ck lg (some s) st (.pointer (some ⟨p,0,none⟩)) A) : ∃ k l,ck = ((k : Nat) : Int) /\ lg = ((l : Nat) : Int) /\ PSt u p pd k l s st A := by
 rcases h with ⟨h0,_⟩ | ⟨s',p',k,l,e1,e2,e3,e4,hs⟩
 · cases h0
 · cases e1
   cases e2
   exact ⟨k,l,e3,e4,hs⟩
theorem DSide.there (h : DSide u pr ck lg (some s) st (.pointer (some ⟨x,0,none⟩)) C) : ∃ k l,ck = ((k : Nat) : Int) /\ lg = ((l : Nat) : Int) /\ RS u x pr k l s st C := by
 rcases h with ⟨h0,_⟩ | ⟨s',p',k,l,e1,e2,e3,e4,hs⟩
 · cases h0
 · cases e1
   cases e2
   exact ⟨k,l,e3,e4,hs⟩
theorem Sides.pAppend (h : Sides w B pd pr ck lg (some s) st (.pointer (some ⟨p,0,none⟩)) A o2 st2 xv C bs bx u) (hf : Fit8 ck lg c (some s) st) (hc : c <= 4900) (t : ByteArray) (ht : t.size <= 65536) :
   Calls Tryz.prog 22 #[.pointer (some ⟨p,0,none⟩),.string t] u (PCall w B pd pr ck lg (.pointer (some ⟨p,0,none⟩)) o2 st2 xv C bs bx (stoAppend st ck.toNat lg.toNat s t)) := by
 obtain ⟨k,l,rfl,rfl,hs⟩ := h.p.there
 have hcf := hf.conf s rfl
 have h10 := hf.lg10
 have hfw := hf.form.few
 rw [Int.toNat_natCast,Int.toNat_natCast] at *
 refine (con8.append p pd k l s t st A u hs hf.form.ok (by omega) (by rw [hf.form.len]; exact hcf) (by omega) ht).mono ?_
 rintro e v ⟨rfl,A',hs2,hl⟩
 exact ⟨rfl,A',h.stepP (Or.inr ⟨_,p,k,l,rfl,rfl,rfl,rfl,hs2⟩) hl⟩
theorem Sides.pTrim (h : Sides w B pd pr ck lg (some s) st (.pointer (some ⟨p,0,none⟩)) A o2 st2 xv C bs bx u) (hf : Fit8 ck lg c (some s) st) (hc : c <= 4900) (t : ByteArray) (ht : t.size <= 65536) :
   Calls Tryz.prog 24 #[.pointer (some ⟨p,0,none⟩),.string t] u (PCall w B pd pr ck lg (.pointer (some ⟨p,0,none⟩)) o2 st2 xv C bs bx (stoTrim st ck.toNat lg.toNat s t)) := by
 obtain ⟨k,l,rfl,rfl,hs⟩ := h.p.there
 have hcf := hf.conf s rfl
 have h10 := hf.lg10
 have hfw := hf.form.few
 have hg := hf.gen s rfl
 rw [Int.toNat_natCast,Int.toNat_natCast] at *
 refine (con8.trim p pd k l s t st A u hs hf.form.ok (by omega) (by rw [hf.form.len]; exact hcf) (by omega) ht (by omega)).mono ?_
 rintro e v ⟨rfl,A',hs2,hl⟩
 exact ⟨rfl,A',h.stepP (Or.inr ⟨_,p,k,l,rfl,rfl,rfl,rfl,hs2⟩) hl⟩
theorem Sides.pSync (h : Sides w B pd pr ck lg (some s) st (.pointer (some ⟨p,0,none⟩)) A o2 st2 xv C bs bx u) (hf : Fit8 ck lg c (some s) st) (hc : c <= 4900) :
   Calls Tryz.prog 23 #[.pointer (some ⟨p,0,none⟩)] u (PCall w B pd pr ck lg (.pointer (some ⟨p,0,none⟩)) o2 st2 xv C bs bx (stoSync st s)) := by
 obtain ⟨k,l,rfl,rfl,hs⟩ := h.p.there
 have hfw := hf.form.few
 refine (con8.sync p pd k l s st A u hs hf.form.ok (by omega)).mono ?_
 rintro e v ⟨rfl,A',hs2,hl⟩
 exact ⟨rfl,A',h.stepP (Or.inr ⟨_,p,k,l,rfl,rfl,rfl,rfl,hs2⟩) hl⟩
theorem Sides.dAppend (h : Sides w B pd pr ck lg o1 st1 sv A (some s) st (.pointer (some ⟨x,0,none⟩)) C bs bx u) (hf : Fit8 ck lg c (some s) st) (hc : c <= 4900) (t : ByteArray) (ht : t.size <= 65536) :
   Calls Tryz.prog 71 #[.pointer (some ⟨x,0,none⟩),.string t] u (DCall w B pd pr ck lg o1 st1 sv A (.pointer (some ⟨x,0,none⟩)) bs bx (stoAppend st ck.toNat lg.toNat s t)) := by
 obtain ⟨k,l,rfl,rfl,hs⟩ := h.d.there
 have hcf := hf.conf s rfl
 have h10 := hf.lg10
 have hfw := hf.form.few
 rw [Int.toNat_natCast,Int.toNat_natCast] at *
 refine (rsAppend x pr k l s t st C u hs hf.form.ok (by omega) (by rw [hf.form.len]; exact hcf) (by omega) ht).mono ?_
 rintro e v ⟨rfl,C',hs2,hl⟩
 exact ⟨rfl,C',h.stepD (Or.inr ⟨_,x,k,l,rfl,rfl,rfl,rfl,hs2⟩) hl⟩
theorem Sides.dTrim (h : Sides w B pd pr ck lg o1 st1 sv A (some s) st (.pointer (some ⟨x,0,none⟩)) C bs bx u) (hf : Fit8 ck lg c (some s) st) (hc : c <= 4900) (t : ByteArray) (ht : t.size <= 65536) :
   Calls Tryz.prog 73 #[.pointer (some ⟨x,0,none⟩),.string t] u (DCall w B pd pr ck lg o1 st1 sv A (.pointer (some ⟨x,0,none⟩)) bs bx (stoTrim st ck.toNat lg.toNat s t)) := by
 obtain ⟨k,l,rfl,rfl,hs⟩ := h.d.there
 have hcf := hf.conf s rfl
 have h10 := hf.lg10
 have hfw := hf.form.few
 have hg := hf.gen s rfl
 rw [Int.toNat_natCast,Int.toNat_natCast] at *
 refine (rsTrim x pr k l s t st C u hs hf.form.ok (by omega) (by rw [hf.form.len]; exact hcf) (by omega) (by omega) (by omega)).mono ?_
 rintro e v ⟨rfl,C',hs2,hl⟩
 exact ⟨rfl,C',h.stepD (Or.inr ⟨_,x,k,l,rfl,rfl,rfl,rfl,hs2⟩) hl⟩
theorem Sides.dSync (h : Sides w B pd pr ck lg o1 st1 sv A (some s) st (.pointer (some ⟨x,0,none⟩)) C bs bx u) (hf : Fit8 ck lg c (some s) st) (hc : c <= 4900) :
   Calls Tryz.prog 72 #[.pointer (some ⟨x,0,none⟩)] u (DCall w B pd pr ck lg o1 st1 sv A (.pointer (some ⟨x,0,none⟩)) bs bx (stoSync st s)) := by
 obtain ⟨k,l,rfl,rfl,hs⟩ := h.d.there
 have hfw := hf.form.few
 refine (rsSync x pr k l s st C u hs hf.form.ok (by omega)).mono ?_
 rintro e v ⟨rfl,C',hs2,hl⟩
 exact ⟨rfl,C',h.stepD (Or.inr ⟨_,x,k,l,rfl,rfl,rfl,rfl,hs2⟩) hl⟩
theorem Sides.c23 (h : Sides w B pd pr ck lg o1 st1 sv A o2 st2 xv C bs bx u) : u.cell? ⟨B,2,none⟩ = Option.some bs /\ u.cell? ⟨B,3,none⟩ = Option.some bx := ⟨h.box.cells.2.2.1,h.box.cells.2.2.2.1⟩
end
end Go.Proofs.YtchhojkhfdkhfaaGreatDoor
