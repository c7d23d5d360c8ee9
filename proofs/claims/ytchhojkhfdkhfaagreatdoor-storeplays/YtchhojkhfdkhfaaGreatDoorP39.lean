/- Joined texts. -/
import Derived.Test.YtchhojkhfdkhfaaGreatDoorP38
import Derived.Test.YtchhojkhfdkhfaaGreatDoorP34
namespace Go.Proofs.YtchhojkhfdkhfaaGreatDoor
open Go Go.RowKit Frm
set_option maxRecDepth 10000 in
set_option maxHeartbeats 4000000 in
theorem trim_long (B1 B2 p pl q ck lg g : Nat) (bb : Bool) (t : ByteArray) (r : Int) (u : World) (h1 : u.cell? ⟨B1,0,none⟩ = some (.pointer (some ⟨p,0,none⟩))) (h2 : u.cell? ⟨B2,0,none⟩ = some (.string t)) (hs : StAt u p pl q ck lg g bb) (hg : g ≠ 4611686018427387904)
   (hR : ∀ v,Calls Tryz.prog 56 #[areaV (some ⟨q,0,none⟩) (ck : Int) (lg : Int)] v fun e w' => e = .returned (.int .i64 r) /\ Below v.heap.size v w') (hr : r < (t.size : Int)) :
   Calls Tryz.prog 55 #[.pointer (some ⟨B1,0,none⟩),.pointer (some ⟨B2,0,none⟩)] u fun e v => e = .returned (.int .i64 4) /\ Below u.heap.size u v := by
 have HC : Hid (∀ v,Below u.heap.size u v -> v.cell? ⟨B1,0,none⟩ = some (.pointer (some ⟨p,0,none⟩)) /\ v.cell? ⟨B2,0,none⟩ = some (.string t) /\ v.cell? ⟨p,2,none⟩ = some (.pointer (some ⟨q,0,none⟩)) /\ v.cell? ⟨p,3,none⟩ = some (.int .i64 (ck : Int)) /\ v.cell? ⟨p,4,none⟩ = some (.int .i64 (lg : Int))) := fun v hb => ⟨cellB9 hb h1,cellB9 hb h2,cellB9 hb hs.c.2.2.1,cellB9 hb hs.c.2.2.2.1,cellB9 hb hs.c.2.2.2.2.1⟩
 obtain ⟨-,c1, -, -, -, -⟩ := hs.c
 have HR := hide hR
 have hgz : ¬ ((g : Int) = 4611686018427387904) := by omega
 have HT := hide hr
 have K : Below u.heap.size u u.drew := (Below.refl _ u).drew
 unfold areaV at HR
 clear h2 hs hR hg hr
 go_enter Tryz.func55,Tryz.ntmps55
 go_wp2_with fail
 clear h1 c1 hgz
 go_region_held3 (fun z => z.cell? ⟨B1,0,none⟩ = some (.pointer (some ⟨p,0,none⟩)) /\ z.cell? ⟨B2,0,none⟩ = some (.string t) /\ z.cell? ⟨p,2,none⟩ = some (.pointer (some ⟨q,0,none⟩)) /\ z.cell? ⟨p,3,none⟩ = some (.int .i64 (ck : Int)) /\ z.cell? ⟨p,4,none⟩ = some (.int .i64 (lg : Int)))
   ((with_reducible exact HC.out _ K))
   (first
     | (go_at_call 56; refine (HR.out _).mono ?_; rintro e z0 ⟨rfl,hb0⟩; have K := bnext K hb0))
 all_goals
   have HE := hide K
   have hr := HT.out
   clear K
   go_wp2
   go_ret
   exact ⟨rfl,HE.out⟩
set_option maxRecDepth 10000 in
set_option maxHeartbeats 4000000 in
theorem trim_go (B1 B2 p pl q ck lg g : Nat) (bb : Bool) (t : ByteArray) (r : Int) (u : World) (P : Ending -> World -> Prop) (h1 : u.cell? ⟨B1,0,none⟩ = some (.pointer (some ⟨p,0,none⟩))) (h2 : u.cell? ⟨B2,0,none⟩ = some (.string t)) (hs : StAt u p pl q ck lg g bb) (hg : g < 4611686018427387904)
   (hR : ∀ v,Calls Tryz.prog 56 #[areaV (some ⟨q,0,none⟩) (ck : Int) (lg : Int)] v fun e w' => e = .returned (.int .i64 r) /\ Below v.heap.size v w') (hr : ¬ r < (t.size : Int))
   (hP : ∀ e w',P e w' -> ∃ x,e = .returned x) (hA : ∀ v,Below u.heap.size u v -> Calls Tryz.prog 57 #[.pointer (some ⟨p,0,none⟩),.int .u64 ((g + 1 : Nat) : Int),.string t] v P) :
   Calls Tryz.prog 55 #[.pointer (some ⟨B1,0,none⟩),.pointer (some ⟨B2,0,none⟩)] u P := by
 have HC : Hid (∀ v,Below u.heap.size u v -> v.cell? ⟨B1,0,none⟩ = some (.pointer (some ⟨p,0,none⟩)) /\ v.cell? ⟨B2,0,none⟩ = some (.string t) /\ v.cell? ⟨p,2,none⟩ = some (.pointer (some ⟨q,0,none⟩)) /\ v.cell? ⟨p,3,none⟩ = some (.int .i64 (ck : Int)) /\ v.cell? ⟨p,4,none⟩ = some (.int .i64 (lg : Int))) := fun v hb => ⟨cellB9 hb h1,cellB9 hb h2,cellB9 hb hs.c.2.2.1,cellB9 hb hs.c.2.2.2.1,cellB9 hb hs.c.2.2.2.2.1⟩
 have HC1 : Hid (∀ v,Below u.heap.size u v -> v.cell? ⟨p,1,none⟩ = some (.int .u64 (g : Int))) := fun v hb => cellB9 hb hs.c.2.1
 obtain ⟨-,c1, -, -, -, -⟩ := hs.c
 have HR := hide hR
 have HA := hide hA
 have HP := hide hP
 have hgz : ¬ ((g : Int) = 4611686018427387904) := by omega
 have HG : Hid (IntKind.u64.wrap ((g : Int) + 1) = ((g + 1 : Nat) : Int)) := by show _ = _; rw [IntKind.wrap_u64]; omega
 have HT := hide hr
 have K : Below u.heap.size u u.drew := (Below.refl _ u).drew
 unfold areaV at HR
 clear h2 hs hR hg hr hA hP
 go_enter Tryz.func55,Tryz.ntmps55
 go_wp2_with fail
 clear h1 c1 hgz
 go_region_held3 (fun z => z.cell? ⟨B1,0,none⟩ = some (.pointer (some ⟨p,0,none⟩)) /\ z.cell? ⟨B2,0,none⟩ = some (.string t) /\ z.cell? ⟨p,2,none⟩ = some (.pointer (some ⟨q,0,none⟩)) /\ z.cell? ⟨p,3,none⟩ = some (.int .i64 (ck : Int)) /\ z.cell? ⟨p,4,none⟩ = some (.int .i64 (lg : Int)))
   ((with_reducible exact HC.out _ K))
   (first
     | (go_at_call 56; refine (HR.out _).mono ?_; rintro e z0 ⟨rfl,hb0⟩; have K := bnext K hb0))
 all_goals
   have HK := hide K
   have hr := HT.out
   have hgw := HG.out
   obtain ⟨b1,b2, -, -, -⟩ := HC.out _ K
   have b3 := HC1.out _ K
   clear K
   go_wp2_with fail
   go_region_with (go_at_call 57; refine (HA.out _ HK.out.drew).mono ?_; rintro e z2 hz2; obtain ⟨x,rfl⟩ := HP.out _ _ hz2)
   all_goals
     have HZ := hide hz2
     clear hz2
     go_wp2
     refine bodyPost_ret (v := x) ?_ ?_ HZ.out
     · exact (results_tmp (t := 2) rfl _ _ _).trans rfl
     · rfl
set_option maxHeartbeats 400000 in
theorem append_wrap (pp : Option Addr) (t : ByteArray) (w : World) (P : Ending -> World -> Prop) (hP : ∀ e w',P e w' -> ∃ x,e = .returned x)
   (hG : Calls Tryz.prog 51 #[.pointer pp,.func (.func 52) #[] #[.pointer (some ⟨w.heap.size,0,none⟩),.pointer (some ⟨w.heap.size + 1,0,none⟩)]] ((w.alloc (.cells #[.pointer pp] 36)).alloc (.cells #[.string t] 9)) P) :
   Calls Tryz.prog 22 #[.pointer pp,.string t] w P := by
 have HP := hide hP
 have HG := hide hG
 clear hP hG
 go_enter Tryz.func22,Tryz.ntmps22
 go_wp2_with fail
 refine HG.out.mono ?_
 rintro e z hz
 obtain ⟨x,rfl⟩ := HP.out _ _ hz
 have HZ := hide hz
 clear hz
 go_wp2
 exact HZ.out
set_option maxHeartbeats 400000 in
theorem trim_wrap (pp : Option Addr) (t : ByteArray) (w : World) (P : Ending -> World -> Prop) (hP : ∀ e w',P e w' -> ∃ x,e = .returned x)
   (hG : Calls Tryz.prog 51 #[.pointer pp,.func (.func 55) #[] #[.pointer (some ⟨w.heap.size,0,none⟩),.pointer (some ⟨w.heap.size + 1,0,none⟩)]] ((w.alloc (.cells #[.pointer pp] 36)).alloc (.cells #[.string t] 9)) P) :
   Calls Tryz.prog 24 #[.pointer pp,.string t] w P := by
 have HP := hide hP
 have HG := hide hG
 clear hP hG
 go_enter Tryz.func24,Tryz.ntmps24
 go_wp2_with fail
 refine HG.out.mono ?_
 rintro e z hz
 obtain ⟨x,rfl⟩ := HP.out _ _ hz
 have HZ := hide hz
 clear hz
 go_wp2
 exact HZ.out
set_option maxHeartbeats 400000 in
theorem sync_wrap (pp : Option Addr) (w : World) (P : Ending -> World -> Prop) (hP : ∀ e w',P e w' -> ∃ x,e = .returned x)
   (hG : Calls Tryz.prog 51 #[.pointer pp,.func (.func 53) #[] #[.pointer (some ⟨w.heap.size,0,none⟩)]] (w.alloc (.cells #[.pointer pp] 36)) P) :
   Calls Tryz.prog 23 #[.pointer pp] w P := by
 have HP := hide hP
 have HG := hide hG
 clear hP hG
 go_enter Tryz.func23,Tryz.ntmps23
 go_wp2_with fail
 refine HG.out.mono ?_
 rintro e z hz
 obtain ⟨x,rfl⟩ := HP.out _ _ hz
 have HZ := hide hz
 clear hz
 go_wp2
 exact HZ.out
structure RP0 (u : World) (p q l : Nat) (b : Bool) (ck lg : Nat) (s : Sto) (st : St) (G : Nat -> Prop) : Prop where
 d : DAt u q st G
 c : StAt u p l q ck lg s.gen s.broken
 log : LAt u l q (lo ck lg s.gen) lg s.str b
 np : ¬ G p
 nl : ¬ G l
 pl : p ≠ l
 sz : s.str.size <= lg * 255
 bb : b = true -> s.broken = true
 gen : 1 <= s.gen /\ s.gen <= 4611686018427387904
 conf : (2 <= ck /\ ck <= 256) /\ 1 <= lg /\ lg <= 1024
def PSt (u : World) (p q ck lg : Nat) (s : Sto) (st : St) (A : Nat -> Prop) : Prop := ∃ l b G,RP0 u p q l b ck lg s st G /\ A = fun k => G k \/ k = l \/ k = p
theorem RP0.same {u v : World} {p q l : Nat} {b : Bool} {ck lg : Nat} {s : Sto} {st : St} {G : Nat -> Prop} (h : RP0 u p q l b ck lg s st G) (hs : ∀ k,(G k \/ k = l \/ k = p) -> v.heap[k]? = u.heap[k]?) : RP0 v p q l b ck lg s st G :=
 ⟨con.same h.d (fun k hk => hs k (Or.inl hk)),h.c.same (hs p (Or.inr (Or.inr rfl))),h.log.same (hs l (Or.inr (Or.inl rfl))),h.np,h.nl,h.pl,h.sz,h.bb,h.gen,h.conf⟩
theorem RP0.below {u v : World} {p q l : Nat} {b : Bool} {ck lg : Nat} {s : Sto} {st : St} {G : Nat -> Prop} (h : RP0 u p q l b ck lg s st G) (hb : Below u.heap.size u v) : RP0 v p q l b ck lg s st G :=
 ⟨con.below h.d hb,h.c.below hb,h.log.same (hb.block l h.log.lt),h.np,h.nl,h.pl,h.sz,h.bb,h.gen,h.conf⟩
theorem RP0.disk {u v : World} {p q l : Nat} {b : Bool} {ck lg : Nat} {s : Sto} {st st2 : St} {G G2 : Nat -> Prop} (h : RP0 u p q l b ck lg s st G) (hr : DAt v q st2 G2) (hl : Loc G G2 u v) : RP0 v p q l b ck lg s st2 G2 :=
 ⟨hr,h.c.same (hl.block p h.c.lt h.np),h.log.same (hl.block l h.log.lt h.nl),own_new hl h.np h.c.lt,own_new hl h.nl h.log.lt,h.pl,h.sz,h.bb,h.gen,h.conf⟩
theorem Loc.pair {G G2 : Nat -> Prop} {l p : Nat} {u v : World} (h : Loc G G2 u v) : Loc (fun k => G k \/ k = l \/ k = p) (fun k => G2 k \/ k = l \/ k = p) u v := h.wide (X := fun k => k = l \/ k = p)
theorem code_eq (c : Nat) : ((c : Int) == 50) = (c == 50) := by
 by_cases h : c = 50
 · subst h; rfl
 · rw [beq_eq_false_iff_ne.2 h,beq_eq_false_iff_ne.2 (by omega)]
theorem under {w u : World} {p q l ck lg g : Nat} {str : ByteArray} {st : St} {G : Nat -> Prop} {v : Value} (h : RP0 w p q l false ck lg ⟨g,str,false⟩ st G) (hb : Below w.heap.size w u) (hv : GForm v) (c : Nat) (s2 : Sto) (st2 : St) (hs2 : s2.broken = false)
   (hdo : Does8 v u fun e z => e = .returned (.int .i64 (c : Int)) /\ ∃ l2 b2 G2,StAt z p l2 q ck lg s2.gen false /\ LAt z l2 q (lo ck lg s2.gen) lg s2.str b2 /\ DAt z q st2 G2 /\ ¬ G2 p /\ ¬ G2 l2 /\ p ≠ l2 /\ (b2 = true -> c = 50) /\ Loc (fun k => G k \/ k = l \/ k = p) (fun k => G2 k \/ k = l2 \/ k = p) w z)
   (hsz : s2.str.size <= lg * 255) (hg : 1 <= s2.gen /\ s2.gen <= 4611686018427387904) :
   Calls Tryz.prog 51 #[.pointer (some ⟨p,0,none⟩),v] u (PSSays PSt p q ck lg (fun k => G k \/ k = l \/ k = p) w (c,s2.told c,st2)) := by
 have hu := h.below hb
 refine (guarded_any p v u (fun x z => x = (c : Int) /\ ∃ l2 b2 G2,StAt z p l2 q ck lg s2.gen false /\ LAt z l2 q (lo ck lg s2.gen) lg s2.str b2 /\ DAt z q st2 G2 /\ ¬ G2 p /\ ¬ G2 l2 /\ p ≠ l2 /\ (b2 = true -> c = 50) /\ Loc (fun k => G k \/ k = l \/ k = p) (fun k => G2 k \/ k = l2 \/ k = p) w z) hv ?_ ?_ ?_).mono ?_
 · exact (sfault_any p l q ck lg g false u hu.c).mono (fun e z hz => hz)
 · intro n a he
   refine (hdo n a he).mono ?_
   rintro e z ⟨rfl,hz⟩
   exact ⟨_,rfl,rfl,hz⟩
 · rintro x z ⟨_,l2,b2,G2,k1,_⟩
   exact ⟨⟨_,k1.c.2.2.2.2.2⟩,k1.free 5⟩
 · rintro e z ⟨x,z0,rfl,⟨rfl,l2,b2,G2,k1,k2,k3,k4,k5,k6,k7,k8⟩,rfl⟩
   have h0 : RP0 z0 p q l2 b2 ck lg ⟨s2.gen,s2.str,b2⟩ st2 G2 -> True := fun _ => trivial
   refine ⟨rfl,fun k => G2 k \/ k = l2 \/ k = p,⟨l2,b2,G2,?_,rfl⟩,k8.trans (Loc.setCell z0 _ _ (Or.inr (Or.inr rfl)))⟩
   have hc : (s2.told c).broken = (c == 50) := by unfold Sto.told; rw [hs2]; rfl
   refine ⟨con.same k3 (fun k hk => Below.heap_setCell z0 ⟨p,5,none⟩ _ k (fun e => k4 (by rw [show k = p from e] at hk; exact hk))),?_,k2.same (Below.heap_setCell z0 ⟨p,5,none⟩ _ l2 (fun e => k6 (show l2 = p from e).symm)),k4,k5,k6,hsz,fun e => ?_,hg,h.conf⟩
   · show StAt _ p l2 q ck lg (s2.told c).gen (s2.told c).broken
     rw [hc, <- code_eq]
     exact heap_set3 (i := 5) k1 _
   · show (s2.told c).broken = true
     rw [hc,k7 e]
     rfl
theorem below_box2 (w : World) (o1 o2 : Obj) : Below w.heap.size w ((w.alloc o1).alloc o2) := grow2 w o1 o2
theorem boxes2 (w : World) (x y : Value) (T1 T2 : TypeId) : ((w.alloc (.cells #[x] T1)).alloc (.cells #[y] T2)).cell? ⟨w.heap.size,0,none⟩ = some x /\ ((w.alloc (.cells #[x] T1)).alloc (.cells #[y] T2)).cell? ⟨w.heap.size + 1,0,none⟩ = some y := by
 refine ⟨cellB9 (one_below _ _) ((cell_of_row _ _ 0 _ _ _ (heap_alloc_last w _)).trans rfl),?_⟩
 have := heap_alloc_last (w.alloc (.cells #[x] T1)) (.cells #[y] T2)
 rw [show (w.alloc (.cells #[x] T1)).heap.size = w.heap.size + 1 from by simp] at this
 exact (cell_of_row _ _ 0 _ _ _ this).trans rfl
theorem pSays_ret {PS : World -> Nat -> Nat -> Nat -> Nat -> Sto -> St -> (Nat -> Prop) -> Prop} {p q ck lg : Nat} {A : Nat -> Prop} {u : World} {r : Nat × Sto × St} : ∀ e w',PSSays PS p q ck lg A u r e w' -> ∃ x,e = .returned x := fun _ _ h => ⟨_,h.1⟩
theorem wal_append_size (st : St) (o n : Nat) (s t : ByteArray) (hs : s.size <= n * 255) : (walAppend st o n s t).2.1.size <= n * 255 := by
 unfold walAppend
 split
 · exact hs
 · split
   · exact hs
   · rename_i h2
     split
     · exact hs
     · show (s ++ frm t).size <= _
       rw [ByteArray.size_append,frm_size]
       omega
theorem pAppend8 (p q ck lg : Nat) (s : Sto) (t : ByteArray) (st : St) (A : Nat -> Prop) (u : World) (h : PSt u p q ck lg s st A) (_ : st.Ok) (hl : st.loose.length + 3000 <= 8000) (hc : Conf ck lg st.sure.length) (hn : lg <= 200) (ht : t.size <= 65536) (hok : st.Ok) :
   Calls Tryz.prog 22 #[.pointer (some ⟨p,0,none⟩),.string t] u (PSSays PSt p q ck lg A u (stoAppend st ck lg s t)) := by
 obtain ⟨l,b,G,h,rfl⟩ := h
 obtain ⟨g,str,br⟩ := s
 have hbx := below_box2 u (.cells #[.pointer (some ⟨p,0,none⟩)] 36) (.cells #[.string t] 9)
 have hu := h.below hbx
 obtain ⟨hb1,hb2⟩ := boxes2 u (.pointer (some ⟨p,0,none⟩)) (.string t) 36 9
 refine append_wrap _ t u _ pSays_ret ?_
 cases br with
 | true =>
   have e : stoAppend st ck lg ⟨g,str,true⟩ t = (3,⟨g,str,true⟩,st) := by unfold stoAppend; rw [if_pos rfl]
   rw [e]
   refine (guarded_down p _ _ (sfault_any p l q ck lg g true _ hu.c)).mono ?_
   rintro e v ⟨rfl,rfl⟩
   exact ⟨rfl,_,⟨l,b,G,hu,rfl⟩,Loc.of_below _ hbx⟩
 | false =>
   have hb : b = false := by
     cases b with
     | true => exact absurd (h.bb rfl) (by simp)
     | false => rfl
   subst hb
   have hlf := lo_fit hc g
   have hcode := append_code st (lo ck lg g) lg str t (by omega)
   have hsz := wal_append_size st (lo ck lg g) lg str t h.sz
   have hlt := h.log.lt
   have hplt := h.c.lt
   have e : stoAppend st ck lg ⟨g,str,false⟩ t = ((walAppend st (lo ck lg g) lg str t).1,Sto.told ⟨g,(walAppend st (lo ck lg g) lg str t).2.1,false⟩ (walAppend st (lo ck lg g) lg str t).1,(walAppend st (lo ck lg g) lg str t).2.2) := by
     unfold stoAppend
     rw [if_neg (by simp)]
   rw [e]
   have hGl : ∀ k,G k -> k < u.heap.size := con.lt h.d
   refine under h hbx (Or.inl ⟨_,_,rfl⟩) _ ⟨g,(walAppend st (lo ck lg g) lg str t).2.1,false⟩ _ rfl ?_ hsz h.gen
   intro n a he
   cases he
   refine calls_eq (a := #[.pointer (some ⟨u.heap.size,0,none⟩),.pointer (some ⟨u.heap.size + 1,0,none⟩)]) rfl ((append1_any u.heap.size (u.heap.size + 1) p l q ck lg g false t _ (fun e z => e = .returned (.int .i64 (((walAppend st (lo ck lg g) lg str t).1 : Nat) : Int)) /\ LAt z l q (lo ck lg g) lg (walAppend st (lo ck lg g) lg str t).2.1 (brk st (lo ck lg g) lg str t) /\ ∃ G2,DAt z q (walAppend st (lo ck lg g) lg str t).2.2 G2 /\ Loc (fun k => G k \/ k = l) (fun k => G2 k \/ k = l) ((u.alloc (.cells #[.pointer (some ⟨p,0,none⟩)] 36)).alloc (.cells #[.string t] 9)) z /\ ¬ G2 l) hb1 hb2 hu.c ?_ ?_).mono ?_)
   · rintro e z ⟨rfl,_,G2,_,k3,_⟩
     have hs : ∀ k,k < ((u.alloc (.cells #[.pointer (some ⟨p,0,none⟩)] 36)).alloc (.cells #[.string t] 9)).heap.size -> ¬ (G k \/ k = l) -> z.heap[k]? = ((u.alloc (.cells #[.pointer (some ⟨p,0,none⟩)] 36)).alloc (.cells #[.string t] 9)).heap[k]? := k3.block
     have hsz2 : ((u.alloc (.cells #[.pointer (some ⟨p,0,none⟩)] 36)).alloc (.cells #[.string t] 9)).heap.size = u.heap.size + 2 := by simp
     refine ⟨_,rfl,(cell_same8 (hs _ (by omega) ?_) 0).trans hb1,(cell_same8 (hs _ (by omega) ?_) 0).trans hb2,(cell_same8 (hs p (by omega) ?_) 0).trans hu.c.c.1⟩
     · rintro (k | k)
       · have := hGl _ k; omega
       · omega
     · rintro (k | k)
       · have := hGl _ k; omega
       · omega
     · rintro (k | k)
       · exact h.np k
       · exact h.pl k
   · intro v hv
     have hv2 := hu.below hv
     refine (pAppend l q (lo ck lg g) lg str t st G v hv2.log hv2.d h.nl hok (by omega) (by have := hc.few; omega) hn h.sz (by unfold maxLen; omega)).mono ?_
     rintro e z ⟨rfl,k1,G2,k2,k3,k4⟩
     exact ⟨rfl,k1,G2,k2,(Loc.of_below _ hv).trans k3,k4⟩
   · rintro e z ⟨rfl,k1,G2,k2,k3,k4⟩
     have hl2 : Loc (fun k => G k \/ k = l) (fun k => G2 k \/ k = l) u z := (Loc.of_below _ hbx).trans k3
     have hnp : ¬ (G p \/ p = l) := fun hh => hh.elim h.np h.pl
     have hnp2 : ¬ G2 p := fun hf => by
       rcases hl2.own p (Or.inl hf) with h1 | h1
       · exact hnp h1
       · omega
     exact ⟨rfl,l,_,G2,h.c.same (hl2.block p hplt hnp),k1,k2,hnp2,k4,h.pl,hcode.2,hl2.three⟩
theorem pSync8 (p q ck lg : Nat) (s : Sto) (st : St) (A : Nat -> Prop) (u : World) (h : PSt u p q ck lg s st A) (hok : st.Ok) (hl : st.loose.length + 3000 <= 8000) :
   Calls Tryz.prog 23 #[.pointer (some ⟨p,0,none⟩)] u (PSSays PSt p q ck lg A u (stoSync st s)) := by
 obtain ⟨l,b,G,h,rfl⟩ := h
 obtain ⟨g,str,br⟩ := s
 have hbx := one_below u (.cells #[.pointer (some ⟨p,0,none⟩)] 36)
 have hu := h.below hbx
 have hb1 : (u.alloc (.cells #[.pointer (some ⟨p,0,none⟩)] 36)).cell? ⟨u.heap.size,0,none⟩ = some (.pointer (some ⟨p,0,none⟩)) := (cell_of_row _ _ 0 _ _ _ (heap_alloc_last u _)).trans rfl
 refine sync_wrap _ u _ pSays_ret ?_
 cases br with
 | true =>
   have e : stoSync st ⟨g,str,true⟩ = (3,⟨g,str,true⟩,st) := by unfold stoSync; rw [if_pos rfl]
   rw [e]
   refine (guarded_down p _ _ (sfault_any p l q ck lg g true _ hu.c)).mono ?_
   rintro e v ⟨rfl,rfl⟩
   exact ⟨rfl,_,⟨l,b,G,hu,rfl⟩,Loc.of_below _ hbx⟩
 | false =>
   have hb : b = false := by
     cases b with
     | true => exact absurd (h.bb rfl) (by simp)
     | false => rfl
   subst hb
   have hplt := h.c.lt
   have e : stoSync st ⟨g,str,false⟩ = (st.sync.1,Sto.told ⟨g,str,false⟩ st.sync.1,st.sync.2) := by
     unfold stoSync
     rw [if_neg (by simp)]
   rw [e]
   refine under h hbx (Or.inr (Or.inl ⟨_,rfl⟩)) _ ⟨g,str,false⟩ _ rfl ?_ h.sz h.gen
   intro n a he
   cases he
   refine calls_eq (a := #[.pointer (some ⟨u.heap.size,0,none⟩)]) rfl ((sync1_any u.heap.size p l q ck lg g false _ (fun e z => e = .returned (.int .i64 ((st.sync.1 : Nat) : Int)) /\ ∃ G2,DAt z q st.sync.2 G2 /\ Loc G G2 (u.alloc (.cells #[.pointer (some ⟨p,0,none⟩)] 36)) z) hb1 hu.c ?_ ?_).mono ?_)
   · rintro e z ⟨rfl,_⟩
     exact ⟨_,rfl⟩
   · refine (con.sync q st G _ hu.d hok (by omega)).mono ?_
     rintro e z ⟨rfl,G2,k2,k3⟩
     exact ⟨rfl,G2,k2,k3⟩
   · rintro e z ⟨rfl,G2,k2,k3⟩
     have hd := h.disk k2 ((Loc.of_below _ hbx).trans k3)
     exact ⟨rfl,l,false,G2,hd.c,hd.log,k2,hd.np,hd.nl,h.pl,(fun x => by simp at x),((Loc.of_below _ hbx).trans k3).pair⟩
theorem sto_trim_go (st : St) (ck lg g : Nat) (str t : ByteArray) (hg : g < 4611686018427387904) (hr : ¬ room (2 * (ck : Int)) < (t.size : Int)) :
   stoTrim st ck lg ⟨g,str,false⟩ t = ((goR st ck lg (g + 1) t).1,(if (goR st ck lg (g + 1) t).1 = 0 then ⟨g + 1,goS st ck lg (g + 1) t,false⟩ else Sto.told ⟨g,str,false⟩ (goR st ck lg (g + 1) t).1),(goR st ck lg (g + 1) t).2) := by
 unfold stoTrim goR goS
 rw [if_neg (by simp),if_neg (show ¬ 4611686018427387904 <= g by omega),if_neg hr]
 by_cases h1 : (walClear st (lo ck lg (g + 1)) lg).1 ≠ 0
 · rw [if_pos h1,if_pos h1,if_neg h1]
 · rw [if_neg h1,if_neg h1]
   by_cases h2 : ((walClear st (lo ck lg (g + 1)) lg).2.save 0 (2 * (ck : Int)) (g + 1) t).1 ≠ 0
   · rw [if_pos h2,if_pos h2,if_neg h2]
   · rw [if_neg h2,if_neg h2]
     by_cases h3 : (walOpen ((walClear st (lo ck lg (g + 1)) lg).2.save 0 (2 * (ck : Int)) (g + 1) t).2 (lo ck lg (g + 1)) lg).1.1 ≠ 0
     · rw [if_pos h3,if_neg h3]
     · have h3 : (walOpen ((walClear st (lo ck lg (g + 1)) lg).2.save 0 (2 * (ck : Int)) (g + 1) t).2 (lo ck lg (g + 1)) lg).1.1 = 0 := by omega
       rw [if_neg (fun x => x h3),if_pos h3,h3]
theorem pTrim8 (p q ck lg : Nat) (s : Sto) (t : ByteArray) (st : St) (A : Nat -> Prop) (u : World) (h : PSt u p q ck lg s st A) (hok : st.Ok) (hl : st.loose.length + 3000 <= 8000) (hc : Conf ck lg st.sure.length) (hn : lg <= 200) (ht : t.size <= 65536) :
   Calls Tryz.prog 24 #[.pointer (some ⟨p,0,none⟩),.string t] u (PSSays PSt p q ck lg A u (stoTrim st ck lg s t)) := by
 obtain ⟨l,b,G,h,rfl⟩ := h
 obtain ⟨g,str,br⟩ := s
 have hbx := below_box2 u (.cells #[.pointer (some ⟨p,0,none⟩)] 36) (.cells #[.string t] 9)
 have hu := h.below hbx
 obtain ⟨hb1,hb2⟩ := boxes2 u (.pointer (some ⟨p,0,none⟩)) (.string t) 36 9
 have hg1 : 1 <= g /\ g <= 4611686018427387904 := h.gen
 have hck := hc.ck256
 refine trim_wrap _ t u _ pSays_ret ?_
 cases br with
 | true =>
   have e : stoTrim st ck lg ⟨g,str,true⟩ t = (3,⟨g,str,true⟩,st) := by unfold stoTrim; rw [if_pos rfl]
   rw [e]
   refine (guarded_down p _ _ (sfault_any p l q ck lg g true _ hu.c)).mono ?_
   rintro e v ⟨rfl,rfl⟩
   exact ⟨rfl,_,⟨l,b,G,hu,rfl⟩,Loc.of_below _ hbx⟩
 | false =>
   have hb : b = false := by
     cases b with
     | true => exact absurd (h.bb rfl) (by simp)
     | false => rfl
   subst hb
   have hplt := h.c.lt
   have hltl := h.log.lt
   by_cases hm : g = 4611686018427387904
   · have e : stoTrim st ck lg ⟨g,str,false⟩ t = (2,Sto.told ⟨g,str,false⟩ 2,st) := by unfold stoTrim; rw [if_neg (by simp),if_pos (show 4611686018427387904 <= g by omega)]; rfl
     rw [e]
     refine under h hbx (Or.inr (Or.inr ⟨_,_,rfl⟩)) _ ⟨g,str,false⟩ _ rfl ?_ h.sz h.gen
     intro n a he
     cases he
     refine calls_eq (a := #[.pointer (some ⟨u.heap.size,0,none⟩),.pointer (some ⟨u.heap.size + 1,0,none⟩)]) rfl ((trim_gen u.heap.size (u.heap.size + 1) p l q ck lg g false _ hb1 hu.c hm).mono ?_)
     rintro e z ⟨rfl,rfl⟩
     exact ⟨rfl,l,false,G,hu.c,hu.log,hu.d,h.np,h.nl,h.pl,(fun x => by simp at x),Loc.of_below _ hbx⟩
   · have hR : ∀ v,Calls Tryz.prog 56 #[areaV (some ⟨q,0,none⟩) (ck : Int) (lg : Int)] v fun e w' => e = .returned (.int .i64 (room (2 * (ck : Int)))) /\ Below v.heap.size v w' := fun v =>
       aroom_any (some ⟨q,0,none⟩) (ck : Int) (lg : Int) (room (2 * (ck : Int))) v (fun y => ckb_any _ _ _ y (by omega)) (fun y => room_any7 (2 * (ck : Int)) y (by omega))
     by_cases hr : room (2 * (ck : Int)) < (t.size : Int)
     · have e : stoTrim st ck lg ⟨g,str,false⟩ t = (4,Sto.told ⟨g,str,false⟩ 4,st) := by unfold stoTrim; rw [if_neg (by simp),if_neg (show ¬ 4611686018427387904 <= g by omega),if_pos hr]; rfl
       rw [e]
       refine under h hbx (Or.inr (Or.inr ⟨_,_,rfl⟩)) _ ⟨g,str,false⟩ _ rfl ?_ h.sz h.gen
       intro n a he
       cases he
       refine calls_eq (a := #[.pointer (some ⟨u.heap.size,0,none⟩),.pointer (some ⟨u.heap.size + 1,0,none⟩)]) rfl ((trim_long u.heap.size (u.heap.size + 1) p l q ck lg g false t _ _ hb1 hb2 hu.c hm hR hr).mono ?_)
       rintro e z ⟨rfl,hz⟩
       have hz2 := hu.below hz
       exact ⟨rfl,l,false,G,hz2.c,hz2.log,hz2.d,h.np,h.nl,h.pl,(fun x => by simp at x),Loc.of_below _ (bnext hbx hz)⟩
     · rw [sto_trim_go st ck lg g str t (by omega) hr]
       have hgo : ∀ v,Below ((u.alloc (.cells #[.pointer (some ⟨p,0,none⟩)] 36)).alloc (.cells #[.string t] 9)).heap.size ((u.alloc (.cells #[.pointer (some ⟨p,0,none⟩)] 36)).alloc (.cells #[.string t] 9)) v -> Calls Tryz.prog 57 #[.pointer (some ⟨p,0,none⟩),.int .u64 ((g + 1 : Nat) : Int),.string t] v (PGo p q ck lg (g + 1) t st G u) := fun v hv => by
         have hv2 := hu.below hv
         have hbv := bnext hbx hv
         refine (goOn_any p l q ck lg g (g + 1) t st G v hv2.c hv2.d h.np hok hl hc hn ht).mono ?_
         rintro e z ⟨rfl,hz⟩
         refine ⟨rfl,?_⟩
         rcases hz with ⟨h0,pl2,F',k1,k2,k3,k4,k5,k6,k7⟩ | ⟨h0,F',k1,k2⟩
         · exact Or.inl ⟨h0,pl2,F',k1,k2,k3,(Loc.of_below _ hbv).trans k4,k5,k6,by have := hbv.size; omega⟩
         · exact Or.inr ⟨h0,F',k1,(Loc.of_below _ hbv).trans k2⟩
       have hsz : (goS st ck lg (g + 1) t).size <= lg * 255 := by
         have hlf := lo_fit hc (g + 1)
         have hcl := clear_long (lo ck lg (g + 1)) lg st (by omega)
         have hokC := clear_ok hok (lo ck lg (g + 1)) lg
         have hsl := save_long (walClear st (lo ck lg (g + 1)) lg).2 0 (2 * (ck : Int)) (g + 1) t
         exact open_size (save_ok8 hokC 0 (2 * (ck : Int)) (g + 1) t) _ _ (by omega)
       have hc2 : ∀ e z,PGo p q ck lg (g + 1) t st G u e z -> ∃ x,e = .returned x := fun e z hz => ⟨_,hz.1⟩
       have hdo : ∀ n a,fnOf8 (.func (.func 55) #[] #[.pointer (some ⟨u.heap.size,0,none⟩),.pointer (some ⟨u.heap.size + 1,0,none⟩)]) = some (n,a) -> Calls Tryz.prog n a ((u.alloc (.cells #[.pointer (some ⟨p,0,none⟩)] 36)).alloc (.cells #[.string t] 9)) (PGo p q ck lg (g + 1) t st G u) := fun n a he => by
         cases he
         exact calls_eq (a := #[.pointer (some ⟨u.heap.size,0,none⟩),.pointer (some ⟨u.heap.size + 1,0,none⟩)]) rfl (trim_go u.heap.size (u.heap.size + 1) p l q ck lg g false t _ _ _ hb1 hb2 hu.c (by omega) hR hr hc2 hgo)
       have hnl2 : ∀ {F' : Nat -> Prop} {z : World},Loc G F' u z -> ¬ F' p /\ ¬ F' l := fun hl => ⟨own_new hl h.np hplt,own_new hl h.nl hltl⟩
       by_cases h0 : (goR st ck lg (g + 1) t).1 = 0
       · rw [if_pos h0,h0]
         have e2 : (⟨g + 1,goS st ck lg (g + 1) t,false⟩ : Sto) = Sto.told ⟨g + 1,goS st ck lg (g + 1) t,false⟩ 0 := rfl
         rw [e2]
         refine under h hbx (Or.inr (Or.inr ⟨_,_,rfl⟩)) _ ⟨g + 1,goS st ck lg (g + 1) t,false⟩ _ rfl ?_ hsz ⟨by show 1 <= g + 1; omega,by show g + 1 <= _; omega⟩
         intro n a he
         refine (hdo n a he).mono ?_
         rintro e z ⟨rfl,⟨_,pl2,F',k1,k2,k3,k4,k5,k6,k7⟩ | ⟨h1,_⟩⟩
         · refine ⟨by rw [h0],pl2,false,F',k1,k2,k3,k5,k6,by omega,(fun x => by simp at x),?_⟩
           refine ⟨k4.os,k4.tape,k4.output,k4.size,fun k hk hf => k4.block k hk (fun hh => hf (hh.elim Or.inl (fun e => Or.inr (Or.inr e)))),fun k hk => ?_⟩
           rcases hk with hk | hk | hk
           · rcases k4.own k (Or.inl hk) with (h1 | h1) | h1
             · exact Or.inl (Or.inl h1)
             · exact Or.inl (Or.inr (Or.inr h1))
             · exact Or.inr h1
           · exact Or.inr (by omega)
           · exact Or.inl (Or.inr (Or.inr hk))
         · exact absurd h0 h1
       · rw [if_neg h0]
         refine under h hbx (Or.inr (Or.inr ⟨_,_,rfl⟩)) _ ⟨g,str,false⟩ _ rfl ?_ h.sz h.gen
         intro n a he
         refine (hdo n a he).mono ?_
         rintro e z ⟨rfl,⟨h1,_⟩ | ⟨_,F',k1,k2⟩⟩
         · exact absurd h1 h0
         · have hd := h.disk k1 k2
           exact ⟨rfl,l,false,F',hd.c,hd.log,k1,hd.np,hd.nl,h.pl,(fun x => by simp at x),k2.pair⟩
set_option maxRecDepth 10000 in
set_option maxHeartbeats 2000000 in
theorem unused_any (pd : Option Addr) (ck lg n : Int) (x : Nat) (y : ByteArray) (c : Nat) (w : World) (hK : ∀ u,Calls Tryz.prog 48 #[areaV pd ck lg] u fun e w' => e = .returned (.int .i64 n) /\ Below u.heap.size u w')
   (hL : ∀ u,Below w.heap.size w u -> Calls Tryz.prog 47 #[.pointer pd,.int .i64 0,.int .i64 n] u fun e v => e = .returned (.tuple #[.int .u64 (x : Int),.string y,.int .i64 (c : Int)]) /\ Below u.heap.size u v) (r : Int) (hr : r = if c = 0 then 7 else if c = 5 then 0 else (c : Int)) :
   Calls Tryz.prog 43 #[areaV pd ck lg] w fun e w' => e = .returned (.int .i64 r) /\ Below w.heap.size w w' := by
 have HB := hide (one_below w (.cells #[.pointer pd,.int .i64 ck,.int .i64 lg] 102))
 have HC : Hid (∀ z,Below (w.alloc (.cells #[.pointer pd,.int .i64 ck,.int .i64 lg] 102)).heap.size (w.alloc (.cells #[.pointer pd,.int .i64 ck,.int .i64 lg] 102)) z -> _) := area_cells w pd ck lg
 have HK := hide hK
 have HL := hide hL
 have HB1 := hide (Below.refl (w.alloc (.cells #[.pointer pd,.int .i64 ck,.int .i64 lg] 102)).heap.size (w.alloc (.cells #[.pointer pd,.int .i64 ck,.int .i64 lg] 102))).drew
 have HR := hide hr
 unfold areaV at *
 clear hK hL hr
 go_enter Tryz.func43,Tryz.ntmps43
 go_wp2_with fail
 generalize w.alloc (.cells #[.pointer pd,.int .i64 ck,.int .i64 lg] 102) = W at *
 have K := HB1.out
 go_region_held3 (fun z => z.cell? ⟨w.heap.size,0,none⟩ = some (.pointer pd) /\ z.cell? ⟨w.heap.size,1,none⟩ = some (.int .i64 ck) /\ z.cell? ⟨w.heap.size,2,none⟩ = some (.int .i64 lg))
   ((with_reducible exact HC.out _ K))
   (first
     | (go_at_call 48; refine (HK.out _).mono ?_; rintro e z0 ⟨rfl,hb0⟩; have K := bnext K hb0)
     | (go_at_call 47; refine (HL.out _ (HB.out.trans (K.mono HB.out.size))).mono ?_; rintro e z0 ⟨rfl,hb0⟩; have K := bnext K hb0))
 all_goals
   have HE := hide (HB.out.trans (K.mono HB.out.size))
   clear K
   by_cases h1 : c = 0
   · have hr : r = 7 := by rw [HR.out,if_pos h1]
     subst h1 hr
     go_wp2
     go_ret
     exact ⟨rfl,HE.out⟩
   · by_cases h2 : c = 5
     · have hr : r = 0 := by rw [HR.out,if_neg h1,if_pos h2]
       subst h2 hr
       go_wp2
       go_ret
       exact ⟨rfl,HE.out⟩
     · have z1 : ¬ ((c : Int) = 0) := by omega
       have z2 : ¬ ((c : Int) = 5) := by omega
       have hr : r = (c : Int) := by rw [HR.out,if_neg h1,if_neg h2]
       subst hr
       clear h1 h2
       go_wp2
       go_ret
       exact ⟨rfl,HE.out⟩
def ACell (B : Nat) (pd : Option Addr) (ck lg : Int) (u : World) : Prop := u.cell? ⟨B,0,none⟩ = some (.pointer pd) /\ u.cell? ⟨B,1,none⟩ = some (.int .i64 ck) /\ u.cell? ⟨B,2,none⟩ = some (.int .i64 lg)
theorem ACell.below {B : Nat} {pd : Option Addr} {ck lg : Int} {u v : World} (h : ACell B pd ck lg u) (hb : Below u.heap.size u v) : ACell B pd ck lg v := ⟨cellB9 hb h.1,cellB9 hb h.2.1,cellB9 hb h.2.2⟩
theorem ACell.all {B : Nat} {pd : Option Addr} {ck lg : Int} {u : World} (h : ACell B pd ck lg u) : u.cell? ⟨B,0,none⟩ = some (.pointer pd) /\ u.cell? ⟨B,1,none⟩ = some (.int .i64 ck) /\ u.cell? ⟨B,2,none⟩ = some (.int .i64 lg) := h
theorem ACell.lt {B : Nat} {pd : Option Addr} {ck lg : Int} {u : World} (h : ACell B pd ck lg u) : B < u.heap.size := World.block_lt_of_cell? u _ h.1
theorem ACell.same {B : Nat} {pd : Option Addr} {ck lg : Int} {u v : World} (h : ACell B pd ck lg u) (hs : v.heap[B]? = u.heap[B]?) : ACell B pd ck lg v := ⟨(cell_same8 hs 0).trans h.1,(cell_same8 hs 1).trans h.2.1,(cell_same8 hs 2).trans h.2.2⟩
structure MIn (w : World) (pd : Option Addr) (ck lg : Int) (z : World) : Prop where
 below : Below w.heap.size w z
 a : ACell (w.heap.size + 1) pd ck lg z
def MA (w : World) (pd : Option Addr) (ck lg : Int) (B1 B2 : Nat) (z : World) : Prop := (ACell B1 pd ck lg z /\ z.cell? ⟨B2,0,none⟩ = some (.int .u64 1)) /\ w.heap.size + 2 <= B1 /\ w.heap.size + 2 <= B2
def MT (w : World) (B : Nat) (z : World) : Prop := z.cell? ⟨B,0,none⟩ = some (.string ⟨#[]⟩) /\ w.heap.size + 2 <= B
theorem MIn.keep {w z v : World} {pd : Option Addr} {ck lg : Int} (h : MIn w pd ck lg z) (hb : Below z.heap.size z v) : MIn w pd ck lg v := ⟨bnext h.below hb,h.a.below hb⟩
theorem MA.keep {w z v : World} {pd : Option Addr} {ck lg : Int} {B1 B2 : Nat} (h : MA w pd ck lg B1 B2 z) (hb : Below z.heap.size z v) : MA w pd ck lg B1 B2 v := ⟨⟨h.1.1.below hb,cellB9 hb h.1.2⟩,h.2⟩
theorem MT.keep {w z v : World} {B : Nat} (h : MT w B z) (hb : Below z.heap.size z v) : MT w B v := ⟨cellB9 hb h.1,h.2⟩
theorem MA.new {w z : World} {pd : Option Addr} {ck lg : Int} (hz : w.heap.size + 2 <= z.heap.size) : MA w pd ck lg z.heap.size (z.heap.size + 1) ((z.alloc (.cells #[.pointer pd,.int .i64 ck,.int .i64 lg] 102)).alloc (.cells #[.int .u64 1] 50)) := by
 obtain ⟨c0,c1,c2⟩ := area_cells z pd ck lg _ (one_below (z.alloc (.cells #[.pointer pd,.int .i64 ck,.int .i64 lg] 102)) (.cells #[.int .u64 1] 50))
 refine ⟨⟨⟨c0,c1,c2⟩,?_⟩,hz,by omega⟩
 have := heap_alloc_last (z.alloc (.cells #[.pointer pd,.int .i64 ck,.int .i64 lg] 102)) (.cells #[.int .u64 1] 50)
 rw [show (z.alloc (.cells #[.pointer pd,.int .i64 ck,.int .i64 lg] 102)).heap.size = z.heap.size + 1 from by simp] at this
 exact (cell_of_row _ _ 0 _ _ _ this).trans rfl
theorem MT.new {w z : World} {pd : Option Addr} {ck lg : Int} (hz : w.heap.size + 2 <= z.heap.size) : MT w (z.heap.size + 1 + 1) (((z.alloc (.cells #[.pointer pd,.int .i64 ck,.int .i64 lg] 102)).alloc (.cells #[.int .u64 1] 50)).alloc (.cells #[.string ⟨#[]⟩] 9)) := by
 refine ⟨?_,by omega⟩
 have := heap_alloc_last ((z.alloc (.cells #[.pointer pd,.int .i64 ck,.int .i64 lg] 102)).alloc (.cells #[.int .u64 1] 50)) (.cells #[.string ⟨#[]⟩] 9)
 rw [show ((z.alloc (.cells #[.pointer pd,.int .i64 ck,.int .i64 lg] 102)).alloc (.cells #[.int .u64 1] 50)).heap.size = z.heap.size + 1 + 1 from by simp] at this
 exact (cell_of_row _ _ 0 _ _ _ this).trans rfl
theorem MIn.start (w : World) (pd : Option Addr) (ck lg : Int) : MIn w pd ck lg ((w.alloc (.cells #[.int .i64 ck,.int .i64 lg] 23)).alloc (.cells #[.pointer pd,.int .i64 ck,.int .i64 lg] 102)) := by
 refine ⟨grow2 w _ _,?_⟩
 obtain ⟨c0,c1,c2⟩ := area_cells (w.alloc (.cells #[.int .i64 ck,.int .i64 lg] 23)) pd ck lg _ (Below.refl _ _)
 rw [show (w.alloc (.cells #[.int .i64 ck,.int .i64 lg] 23)).heap.size = w.heap.size + 1 from by simp] at c0 c1 c2
 exact ⟨c0,c1,c2⟩
theorem conf_cells (w : World) (ck lg : Int) (z : World) (hb : Below (w.alloc (.cells #[.int .i64 ck,.int .i64 lg] 23)).heap.size (w.alloc (.cells #[.int .i64 ck,.int .i64 lg] 23)) z) : z.cell? ⟨w.heap.size,0,none⟩ = some (.int .i64 ck) /\ z.cell? ⟨w.heap.size,1,none⟩ = some (.int .i64 lg) := by
 have hz := (hb.block w.heap.size (by simp)).trans (heap_alloc_last w (.cells #[.int .i64 ck,.int .i64 lg] 23))
 exact ⟨(cell_of_row _ _ 0 _ _ _ hz).trans rfl,(cell_of_row _ _ 1 _ _ _ hz).trans rfl⟩
def mSteps (pd : Option Addr) (ck lg : Int) (B1 B2 B3 B4 B5 : Nat) : List Value := [.func (.func 42) #[areaV pd ck lg] #[],.func (.func 43) #[areaV pd ck lg] #[],.func (.func 76) #[] #[.pointer (some ⟨B1,0,none⟩),.pointer (some ⟨B2,0,none⟩)],.func (.func 79) #[] #[.pointer (some ⟨B3,0,none⟩),.pointer (some ⟨B4,0,none⟩),.pointer (some ⟨B5,0,none⟩)]]
set_option maxRecDepth 10000 in
set_option maxHeartbeats 2000000 in
theorem make_wrap (pd : Option Addr) (ck lg : Int) (w : World) (P : Ending -> World -> Prop) (hP : ∀ e w',P e w' -> ∃ x,e = .returned x)
   (hG : ∀ z B1 B2 B3 B4 B5 c T,MIn w pd ck lg z -> MA w pd ck lg B1 B2 z -> MA w pd ck lg B3 B4 z -> MT w B5 z -> Calls Tryz.prog 41 #[.slice (some ⟨z.heap.size,0,none⟩) 4 c] (z.alloc (.cells #[.func (.func 42) #[areaV pd ck lg] #[],.func (.func 43) #[areaV pd ck lg] #[],.func (.func 76) #[] #[.pointer (some ⟨B1,0,none⟩),.pointer (some ⟨B2,0,none⟩)],.func (.func 79) #[] #[.pointer (some ⟨B3,0,none⟩),.pointer (some ⟨B4,0,none⟩),.pointer (some ⟨B5,0,none⟩)]] T)) fun e v => P e v /\ ACell (w.heap.size + 1) pd ck lg v) :
   Calls Tryz.prog 19 #[.pointer pd,confV ck lg] w P := by
 have HG := hide hG
 have HP := hide hP
 obtain ⟨c0,c1⟩ := conf_cells w ck lg _ (Below.refl _ _)
 have K := (MIn.start w pd ck lg).keep ((Below.refl _ _).drew)
 have HK1 : Hid (∀ z,MIn w pd ck lg z -> Calls Tryz.prog 44 #[areaV pd ck lg,.int .u64 1] z fun e v => e = .returned (.func (.func 76) #[] #[.pointer (some ⟨z.heap.size,0,none⟩),.pointer (some ⟨z.heap.size + 1,0,none⟩)]) /\ MIn w pd ck lg v /\ MA w pd ck lg z.heap.size (z.heap.size + 1) v) := fun z hK => by
   refine (clearing_any pd ck lg 1 z).mono ?_
   rintro e v ⟨rfl,rfl⟩
   exact ⟨rfl,hK.keep (grow2 z _ _),MA.new (by have := hK.a.lt; omega)⟩
 have HK2 : Hid (∀ z B1 B2,MIn w pd ck lg z -> MA w pd ck lg B1 B2 z -> Calls Tryz.prog 45 #[areaV pd ck lg,.int .u64 1,.string ⟨#[]⟩] z fun e v => e = .returned (.func (.func 79) #[] #[.pointer (some ⟨z.heap.size,0,none⟩),.pointer (some ⟨z.heap.size + 1,0,none⟩),.pointer (some ⟨z.heap.size + 1 + 1,0,none⟩)]) /\ MIn w pd ck lg v /\ MA w pd ck lg B1 B2 v /\ MA w pd ck lg z.heap.size (z.heap.size + 1) v /\ MT w (z.heap.size + 1 + 1) v) := fun z B1 B2 hK hA => by
   refine (saving_any pd ck lg 1 ⟨#[]⟩ z).mono ?_
   rintro e v ⟨rfl,rfl⟩
   exact ⟨rfl,hK.keep (grow3 z _ _ _),hA.keep (grow3 z _ _ _),(MA.new (by have := hK.a.lt; omega)).keep (grow1 _ _),MT.new (by have := hK.a.lt; omega)⟩
 unfold areaV at HK1 HK2 HG
 unfold confV
 clear hG hP
 go_enter Tryz.func19,Tryz.ntmps19
 go_wp2_with fail
 generalize (w.alloc (.cells #[.int .i64 ck,.int .i64 lg] 23)).alloc (.cells #[.pointer pd,.int .i64 ck,.int .i64 lg] 102) = W at *
 clear c0 c1
 go_region_held3 (fun z => z.cell? ⟨w.heap.size + 1,0,none⟩ = some (.pointer pd) /\ z.cell? ⟨w.heap.size + 1,1,none⟩ = some (.int .i64 ck) /\ z.cell? ⟨w.heap.size + 1,2,none⟩ = some (.int .i64 lg))
   ((first | (with_reducible exact (MIn.a K).all) | (with_reducible exact (MIn.a K.1).all) | (with_reducible exact ((MIn.a K.1).below (one_below _ _)).all) | (with_reducible exact ACell.all K.2)))
   (first
     | (go_at_call 44; refine (HK1.out _ K).mono ?_; rintro e z1 ⟨rfl,hk1⟩; have K := hk1)
     | (go_at_call 45; refine (HK2.out _ _ _ K.1 K.2).mono ?_; rintro e z2 ⟨rfl,hk2⟩; have K := hk2)
     | (go_at_call 41; refine (HG.out _ _ _ _ _ _ _ _ K.1 K.2.1 K.2.2.1 K.2.2.2).mono ?_; rintro e z3 ⟨hz3,ha3⟩; obtain ⟨x,rfl⟩ := HP.out _ _ hz3; have K := And.intro hz3 ha3))
 all_goals
   have HZ := hide K.1
   clear K
   go_wp2
   exact HZ.out
def Bq (q : Nat) (F : Nat -> Prop) (u0 : World) (st : St) (v : World) : Prop := ∃ F',DAt v q st F' /\ Loc F F' u0 v
theorem Bq.step {q : Nat} {F F1 F2 : Nat -> Prop} {u0 v z : World} {st2 : St} (hl : Loc F F1 u0 v) (h1 : DAt z q st2 F2) (h2 : Loc F1 F2 v z) : Bq q F u0 st2 z := ⟨F2,h1,hl.trans h2⟩
theorem m_boxes {w u0 v : World} {q : Nat} {F : Nat -> Prop} {st : St} {ck lg : Int} {B1 B2 : Nat} (h : MA w (some ⟨q,0,none⟩) ck lg B1 B2 u0) (hF : ∀ k,F k -> k < w.heap.size) (hb : Bq q F u0 st v) : ABox B1 B2 q ck lg 1 v := by
 obtain ⟨F',_,hl⟩ := hb
 have hx : ABox B1 B2 q ck lg 1 u0 := ⟨h.1.1.1,h.1.1.2.1,h.1.1.2.2,h.1.2⟩
 exact hx.same (hl.block B1 hx.lt.1 (fun hf => by have := hF _ hf; have := h.2.1; omega)) (hl.block B2 hx.lt.2 (fun hf => by have := hF _ hf; have := h.2.2; omega))
set_option maxRecDepth 10000 in
set_option maxHeartbeats 1000000 in
theorem pMake8 (q : Nat) (st : St) (F : Nat -> Prop) (ck lg : Int) (w : World) (hD : DAt w q st F) (hok : st.Ok) (hl : st.loose.length + 3000 <= 8000) (_ : st.sure.length <= 400) (_ : I64 ck) (_ : I64 lg) :
   Calls Tryz.prog 19 #[.pointer (some ⟨q,0,none⟩),confV ck lg] w fun e v => e = .returned (.int .i64 (((stoMake st ck lg).1 : Nat) : Int)) /\ ∃ F',DAt v q (stoMake st ck lg).2 F' /\ Loc F F' w v := by
 have hF := con.lt hD
 refine make_wrap (some ⟨q,0,none⟩) ck lg w _ (fun e v h => ⟨_,h.1⟩) ?_
 intro z B1 B2 B3 B4 B5 c T hz h1 h2 h3
 generalize hu0 : (z.alloc (.cells #[.func (.func 42) #[areaV (some ⟨q,0,none⟩) ck lg] #[],.func (.func 43) #[areaV (some ⟨q,0,none⟩) ck lg] #[],.func (.func 76) #[] #[.pointer (some ⟨B1,0,none⟩),.pointer (some ⟨B2,0,none⟩)],.func (.func 79) #[] #[.pointer (some ⟨B3,0,none⟩),.pointer (some ⟨B4,0,none⟩),.pointer (some ⟨B5,0,none⟩)]] T)) = u0
 have hbu : Below z.heap.size z u0 := by rw [<- hu0]; exact one_below z _
 have hbw := bnext hz.below hbu
 have hzs := hz.a.lt
 have hrow : ∀ k (hk : k < 4),u0.cell? ⟨z.heap.size,0 + k,none⟩ = some (mSteps (some ⟨q,0,none⟩) ck lg B1 B2 B3 B4 B5)[k] := fun k hk => by
   rw [<- hu0]
   match k,hk with
   | 0,_ => exact (cell_of_row _ _ 0 _ _ _ (heap_alloc_last z _)).trans rfl
   | 1,_ => exact (cell_of_row _ _ 1 _ _ _ (heap_alloc_last z _)).trans rfl
   | 2,_ => exact (cell_of_row _ _ 2 _ _ _ (heap_alloc_last z _)).trans rfl
   | 3,_ => exact (cell_of_row _ _ 3 _ _ _ (heap_alloc_last z _)).trans rfl
 have k1 := h1.keep hbu
 have k2 := h2.keep hbu
 have k3 := h3.keep hbu
 have ka := hz.a.below hbu
 have hD0 : DAt u0 q st F := con.below hD hbw
 have hsame : ∀ {s : St} {v : World} (B : Nat),Bq q F u0 s v -> w.heap.size <= B -> B < u0.heap.size -> v.heap[B]? = u0.heap[B]? := fun B hb hB hlt => by
   obtain ⟨F',_,hl⟩ := hb
   exact hl.block B hlt (fun hf => by have := hF _ hf; omega)
 have hz0 : z.heap.size < u0.heap.size := World.block_lt_of_cell? u0 _ (hrow 0 (by decide))
 have hfin : ∀ {s : St} {v : World},Bq q F u0 s v -> (∃ F',DAt v q s F' /\ Loc F F' w v) /\ ACell (w.heap.size + 1) (some ⟨q,0,none⟩) ck lg v := fun hb => by
   have hs := hsame (w.heap.size + 1) hb (by omega) (by omega)
   obtain ⟨F',d1,d2⟩ := hb
   exact ⟨⟨F',d1,(Loc.of_below F hbw).trans d2⟩,ka.same hs⟩
 clear hu0
 have hl1 := hok.some
 have hl2 := hok.few
 have key := inOrder8 z.heap.size 0 c (mSteps (some ⟨q,0,none⟩) ck lg B1 B2 B3 B4 B5)
   (fun k v => (k = 0 /\ Bq q F u0 st v) \/ (k = 1 /\ st.mayS ck lg /\ Bq q F u0 st v) \/ (k = 2 /\ st.mayS ck lg /\ (st.load 0 (2 * ck)).2 = 5 /\ Bq q F u0 st v) \/
     (k = 3 /\ st.mayS ck lg /\ (st.load 0 (2 * ck)).2 = 5 /\ (walClear st (lo ck.toNat lg.toNat 1) lg.toNat).1 = 0 /\ Bq q F u0 (walClear st (lo ck.toNat lg.toNat 1) lg.toNat).2 v) \/ (k = 4 /\ (stoMake st ck lg).1 = 0 /\ Bq q F u0 (stoMake st ck lg).2 v))
   (fun x v => x = (((stoMake st ck lg).1 : Nat) : Int) /\ (stoMake st ck lg).1 ≠ 0 /\ Bq q F u0 (stoMake st ck lg).2 v) u0 (show (4 : Nat) <= 5000 by decide) ?_ ?_ ?_ ?_
 · refine key.mono ?_
   rintro e v ⟨x,rfl,⟨rfl,hr⟩ | ⟨hx,rfl,h0,hb⟩⟩
   · rcases hr with ⟨hk,_⟩ | ⟨hk,_⟩ | ⟨hk,_⟩ | ⟨hk,_⟩ | ⟨_,h0,hb⟩
     · exact absurd (show (4 : Nat) = 0 from hk) (by decide)
     · exact absurd (show (4 : Nat) = 1 from hk) (by decide)
     · exact absurd (show (4 : Nat) = 2 from hk) (by decide)
     · exact absurd (show (4 : Nat) = 3 from hk) (by decide)
     · exact ⟨⟨by rw [h0]; rfl,(hfin hb).1⟩,(hfin hb).2⟩
   · exact ⟨⟨rfl,(hfin hb).1⟩,(hfin hb).2⟩
 · intro k hk v hr
   have hb : ∃ s,Bq q F u0 s v := by
     rcases hr with ⟨_,hb⟩ | ⟨_,_,hb⟩ | ⟨_,_,_,hb⟩ | ⟨_,_,_,_,hb⟩ | ⟨_,_,hb⟩ <;> exact ⟨_,hb⟩
   obtain ⟨s,hb⟩ := hb
   exact (cell_same8 (hsame z.heap.size hb (by have := hz.below.size; omega) hz0) _).trans (hrow k hk)
 · intro k hk
   match k,hk with
   | 0,_ => exact Or.inl ⟨_,rfl⟩
   | 1,_ => exact Or.inr (Or.inl ⟨_,rfl⟩)
   | 2,_ => exact Or.inr (Or.inr (Or.inl ⟨_,_,rfl⟩))
   | 3,_ => exact Or.inr (Or.inr (Or.inr (Or.inl ⟨_,_,_,rfl⟩)))
 · intro k hk v hr
   rcases hr with ⟨rfl,hb⟩ | ⟨rfl,hm,hb⟩ | ⟨rfl,hm,hld,hb⟩ | ⟨rfl,hm,hld,hcl0,hb⟩ | ⟨rfl,_⟩
   · obtain ⟨F1,hd,hlc⟩ := hb
     intro n a he
     cases he
     by_cases hm : st.mayS ck lg
     · refine calls_eq (a := #[areaV (some ⟨q,0,none⟩) ck lg]) rfl ((fault8_any (some ⟨q,0,none⟩) ck lg (st.sure.length : Int) (blocksC ck lg) v 0 (fun y hy => con.size q st F1 y (con.below hd hy) hok) (fun y => blocks8_any ck lg y) ?_).mono ?_)
       · rw [if_neg (by omega),if_neg (by have := hm.1; have := hm.2; omega)]
       · rintro e y ⟨rfl,hy⟩
         exact ⟨0,rfl,Or.inl ⟨rfl,Or.inr (Or.inl ⟨rfl,hm,F1,con.below hd hy,hlc.trans (Loc.of_below F1 hy)⟩)⟩⟩
     · have e2 : stoMake st ck lg = (2,st) := by unfold stoMake; rw [if_pos hm]
       refine calls_eq (a := #[areaV (some ⟨q,0,none⟩) ck lg]) rfl ((fault8_any (some ⟨q,0,none⟩) ck lg (st.sure.length : Int) (blocksC ck lg) v 2 (fun y hy => con.size q st F1 y (con.below hd hy) hok) (fun y => blocks8_any ck lg y) ?_).mono ?_)
       · rw [if_neg (by omega),if_pos (by
           by_cases h0 : blocksC ck lg = 0
           · exact Or.inl h0
           · refine Or.inr ?_
             have : ¬ blocksC ck lg <= (st.sure.length : Int) := fun hh => hm ⟨h0,hh⟩
             omega)]
       · rintro e y ⟨rfl,hy⟩
         refine ⟨2,rfl,Or.inr ⟨by decide,?_⟩⟩
         rw [e2]
         exact ⟨rfl,(show ¬ (2 : Nat) = 0 by decide),F1,con.below hd hy,hlc.trans (Loc.of_below F1 hy)⟩
   · obtain ⟨F1,hd,hlc⟩ := hb
     obtain ⟨kk,ll,rfl,rfl,q1,q2,q3,q4,q5,q6⟩ := mayS_nat hm
     intro n a he
     cases he
     have hld := fun y (hy : Below v.heap.size v y) => pLoad q 0 (2 * (kk : Int)) st F1 y (con.below hd hy) hok (by omega) (by omega)
     refine calls_eq (a := #[areaV (some ⟨q,0,none⟩) (kk : Int) (ll : Int)]) rfl ((unused_any (some ⟨q,0,none⟩) (kk : Int) (ll : Int) (2 * (kk : Int)) (st.load 0 (2 * (kk : Int))).1.1 (st.load 0 (2 * (kk : Int))).1.2 (st.load 0 (2 * (kk : Int))).2 v (fun y => ckb_any _ _ _ y (by omega)) hld _ rfl).mono ?_)
     rintro e y ⟨rfl,hy⟩
     have hb2 : Bq q F u0 st y := ⟨F1,con.below hd hy,hlc.trans (Loc.of_below F1 hy)⟩
     refine ⟨_,rfl,?_⟩
     by_cases c0 : (st.load 0 (2 * (kk : Int))).2 = 0
     · have e2 : stoMake st (kk : Int) (ll : Int) = (7,st) := by unfold stoMake; rw [if_neg (fun x => x hm),if_pos c0]
       rw [if_pos c0,e2]
       exact Or.inr ⟨by decide,rfl,(show ¬ (7 : Nat) = 0 by decide),hb2⟩
     · by_cases c5 : (st.load 0 (2 * (kk : Int))).2 = 5
       · rw [if_neg c0,if_pos c5]
         exact Or.inl ⟨rfl,Or.inr (Or.inr (Or.inl ⟨rfl,hm,c5,hb2⟩))⟩
       · have e2 : stoMake st (kk : Int) (ll : Int) = ((st.load 0 (2 * (kk : Int))).2,st) := by unfold stoMake; rw [if_neg (fun x => x hm),if_neg c0,if_pos c5]
         rw [if_neg c0,if_neg c5,e2]
         exact Or.inr ⟨by omega,rfl,c0,hb2⟩
   · have ha := m_boxes k1 hF hb
     have hbx : ∀ {s : St} {y : World},Bq q F u0 s y -> ABox B1 B2 q ck lg 1 y := fun hy => m_boxes k1 hF hy
     obtain ⟨F1,hd,hlc⟩ := hb
     obtain ⟨kk,ll,rfl,rfl,q1,q2,q3,q4,q5,q6⟩ := mayS_nat hm
     have em : stoMake st (kk : Int) (ll : Int) = andT (walClear st (lo kk ll 1) ll) (fun s => s.save 0 (2 * (kk : Int)) 1 noText) := by
       unfold stoMake
       rw [if_neg (fun x => x hm),if_neg (by rw [hld]; decide),if_neg (fun x => x hld),Int.toNat_natCast,Int.toNat_natCast]
     intro n a he
     cases he
     rw [Int.toNat_natCast,Int.toNat_natCast]
     refine calls_eq (a := #[.pointer (some ⟨B1,0,none⟩),.pointer (some ⟨B2,0,none⟩)]) rfl (((clear1_any B1 B2 q (kk : Int) (ll : Int) 1 ((lo kk ll 1 : Nat) : Int) v (fun e z => e = .returned (.int .i64 (((walClear st (lo kk ll 1) ll).1 : Nat) : Int)) /\ Bq q F u0 (walClear st (lo kk ll 1) ll).2 z) ha ?_ ?_ ?_)).mono ?_)
     · rintro e y ⟨rfl,hy⟩
       exact ⟨_,rfl,hbx hy⟩
     · exact fun y => logOf_any (some ⟨q,0,none⟩) kk ll 1 y q2 q4
     · intro y hy
       refine (clear_any q (lo kk ll 1) ll st F1 y (con.below hd hy) hok (by omega) (by unfold lo; omega) q3).mono ?_
       rintro e z2 ⟨rfl,F2,hd2,hl2⟩
       exact ⟨rfl,Bq.step hlc hd2 ((Loc.of_below F1 hy).trans hl2)⟩
     · rintro e y ⟨rfl,hy⟩
       refine ⟨_,rfl,?_⟩
       by_cases h0 : (walClear st (lo kk ll 1) ll).1 = 0
       · exact Or.inl ⟨by rw [h0]; rfl,Or.inr (Or.inr (Or.inr (Or.inl ⟨rfl,hm,hld,h0,hy⟩)))⟩
       · rw [em,andT_stop _ h0]
         exact Or.inr ⟨by omega,rfl,h0,hy⟩
   · have ha := m_boxes k2 hF hb
     have hbx : ∀ {s : St} {y : World},Bq q F u0 s y -> ABox B3 B4 q ck lg 1 y /\ y.cell? ⟨B5,0,none⟩ = some (.string ⟨#[]⟩) := fun hy =>
       ⟨m_boxes k2 hF hy,(cell_same8 (hsame B5 hy (by have := k3.2; omega) (World.block_lt_of_cell? u0 _ k3.1)) 0).trans k3.1⟩
     have h5 := (hbx hb).2
     obtain ⟨F1,hd,hlc⟩ := hb
     obtain ⟨kk,ll,rfl,rfl,q1,q2,q3,q4,q5,q6⟩ := mayS_nat hm
     have em : stoMake st (kk : Int) (ll : Int) = andT (walClear st (lo kk ll 1) ll) (fun s => s.save 0 (2 * (kk : Int)) 1 noText) := by
       unfold stoMake
       rw [if_neg (fun x => x hm),if_neg (by rw [hld]; decide),if_neg (fun x => x hld),Int.toNat_natCast,Int.toNat_natCast]
     rw [Int.toNat_natCast,Int.toNat_natCast] at hcl0 hd
     rw [andT_go _ hcl0] at em
     have hokC := clear_ok hok (lo kk ll 1) ll
     have hclf := clear_few st (lo kk ll 1) ll
     have hlng := clear_long (lo kk ll 1) ll st (by unfold lo; omega)
     intro n a he
     cases he
     rw [em]
     refine calls_eq (a := #[.pointer (some ⟨B3,0,none⟩),.pointer (some ⟨B4,0,none⟩),.pointer (some ⟨B5,0,none⟩)]) rfl (((save1_any B3 B4 B5 q (kk : Int) (ll : Int) 1 (2 * (kk : Int)) ⟨#[]⟩ v (fun e z => e = .returned (.int .i64 ((((walClear st (lo kk ll 1) ll).2.save 0 (2 * (kk : Int)) 1 noText).1 : Nat) : Int)) /\ Bq q F u0 ((walClear st (lo kk ll 1) ll).2.save 0 (2 * (kk : Int)) 1 noText).2 z) ha h5 ?_ ?_ ?_)).mono ?_)
     · rintro e y ⟨rfl,hy⟩
       exact ⟨_,rfl,hbx hy⟩
     · exact fun y => ckb_any (some ⟨q,0,none⟩) (kk : Int) (ll : Int) y (by omega)
     · intro y hy
       refine (pSave q 0 (2 * (kk : Int)) 1 noText (walClear st (lo kk ll 1) ll).2 F1 y (con.below hd hy) hokC (by have := hlng.2 hcl0; rw [this]; decide) (by omega) (by decide)).mono ?_
       rintro e z2 ⟨rfl,F2,hd2,hl2⟩
       exact ⟨rfl,Bq.step hlc hd2 ((Loc.of_below F1 hy).trans hl2)⟩
     · rintro e y ⟨rfl,hy⟩
       refine ⟨_,rfl,?_⟩
       by_cases h0 : ((walClear st (lo kk ll 1) ll).2.save 0 (2 * (kk : Int)) 1 noText).1 = 0
       · exact Or.inl ⟨by rw [h0]; rfl,Or.inr (Or.inr (Or.inr (Or.inr ⟨rfl,h0,hy⟩)))⟩
       · exact Or.inr ⟨by omega,rfl,h0,hy⟩
   · exact absurd (show (4 : Nat) < 4 from hk) (by decide)
 · exact Or.inl ⟨rfl,F,hD0,Loc.refl _ _⟩
theorem Loc.two {F F' : Nat -> Prop} {w u v : World} {N : Nat -> Prop} (hb : Below w.heap.size w u) (hN : ∀ k,N k -> w.heap.size <= k) (hl : Loc (fun k => F k \/ N k) (fun k => F' k \/ N k) u v) : Loc F F' w v :=
 ⟨hl.os.trans hb.os,hl.tape.trans hb.tape,hl.output.trans hb.output,Nat.le_trans hb.size hl.size,fun k hk hf => (hl.block k (Nat.lt_of_lt_of_le hk hb.size) (fun hh => hh.elim hf (fun e => by have := hN k e; omega))).trans (hb.block k hk),fun k hk => by
   rcases hl.own k (Or.inl hk) with (h | h) | h
   · exact Or.inl h
   · exact Or.inr (hN k h)
   · have := hb.size; exact Or.inr (by omega)⟩
structure OBx (pd : Option Addr) (p Bd Bs : Nat) (x2 : Value) (ck lg : Int) (u : World) : Prop where
 d : u.cell? ⟨Bd,0,none⟩ = some (.pointer pd)
 s : u.cell? ⟨Bs,0,none⟩ = some (.pointer (some ⟨p,0,none⟩))
 c2 : u.cell? ⟨p,2,none⟩ = some x2
 c3 : u.cell? ⟨p,3,none⟩ = some (.int .i64 ck)
 c4 : u.cell? ⟨p,4,none⟩ = some (.int .i64 lg)
theorem OBx.all {pd : Option Addr} {p Bd Bs : Nat} {x2 : Value} {ck lg : Int} {u : World} (h : OBx pd p Bd Bs x2 ck lg u) : u.cell? ⟨Bd,0,none⟩ = some (.pointer pd) /\ u.cell? ⟨Bs,0,none⟩ = some (.pointer (some ⟨p,0,none⟩)) /\ u.cell? ⟨p,2,none⟩ = some x2 /\ u.cell? ⟨p,3,none⟩ = some (.int .i64 ck) /\ u.cell? ⟨p,4,none⟩ = some (.int .i64 lg) := ⟨h.d,h.s,h.c2,h.c3,h.c4⟩
theorem OBx.same {pd : Option Addr} {p Bd Bs : Nat} {x2 : Value} {ck lg : Int} {u v : World} (h : OBx pd p Bd Bs x2 ck lg u) (h1 : v.heap[Bd]? = u.heap[Bd]?) (h2 : v.heap[Bs]? = u.heap[Bs]?) (h3 : v.heap[p]? = u.heap[p]?) : OBx pd p Bd Bs x2 ck lg v :=
 ⟨(cell_same8 h1 0).trans h.d,(cell_same8 h2 0).trans h.s,(cell_same8 h3 2).trans h.c2,(cell_same8 h3 3).trans h.c3,(cell_same8 h3 4).trans h.c4⟩
theorem OBx.lt {pd : Option Addr} {p Bd Bs : Nat} {x2 : Value} {ck lg : Int} {u : World} (h : OBx pd p Bd Bs x2 ck lg u) : Bd < u.heap.size /\ Bs < u.heap.size /\ p < u.heap.size := ⟨World.block_lt_of_cell? u _ h.d,World.block_lt_of_cell? u _ h.s,World.block_lt_of_cell? u _ h.c2⟩
theorem OBx.below {pd : Option Addr} {p Bd Bs : Nat} {x2 : Value} {ck lg : Int} {u v : World} (h : OBx pd p Bd Bs x2 ck lg u) (hb : Below u.heap.size u v) : OBx pd p Bd Bs x2 ck lg v := h.same (hb.block _ h.lt.1) (hb.block _ h.lt.2.1) (hb.block _ h.lt.2.2)
theorem OBx.set {pd : Option Addr} {p Bd Bs B : Nat} {x2 : Value} {ck lg : Int} {u : World} (h : OBx pd p Bd Bs x2 ck lg u) (hB : B ≠ Bd /\ B ≠ Bs /\ B ≠ p) (i : Nat) (a : Value) : OBx pd p Bd Bs x2 ck lg (u.setCell ⟨B,i,none⟩ a) :=
 h.same (Below.heap_setCell u ⟨B,i,none⟩ a Bd (fun e => hB.1 e.symm)) (Below.heap_setCell u ⟨B,i,none⟩ a Bs (fun e => hB.2.1 e.symm)) (Below.heap_setCell u ⟨B,i,none⟩ a p (fun e => hB.2.2 e.symm))
theorem row_cells3 {u : World} {B : Nat} {x y z : Value} {T : TypeId} (h : u.heap[B]? = some (.cells #[x,y,z] T (0,0))) : (u.cell? ⟨B,0,none⟩ = some x /\ u.cell? ⟨B,1,none⟩ = some y /\ u.cell? ⟨B,2,none⟩ = some z) /\ ∀ i,u.frozen? ⟨B,i,none⟩ = false := by
 refine ⟨⟨?_,?_,?_⟩,fun i => ?_⟩ <;> simp [World.cell?,World.frozen?,h]
set_option maxRecDepth 10000 in
set_option maxHeartbeats 2000000 in
theorem open1_any (pd : Option Addr) (p Bd Bs Bk : Nat) (x2 : Value) (ck lg n : Int) (g : Nat) (t : ByteArray) (c : Int) (u : World) (y0 y1 y2 : Value) (hx : x2 = .pointer pd) (h : OBx pd p Bd Bs x2 ck lg u) (hk : u.heap[Bk]? = some (.cells #[y0,y1,y2] 61 (0,0))) (hB : Bk ≠ Bd /\ Bk ≠ Bs /\ Bk ≠ p)
   (hK : ∀ v,Calls Tryz.prog 48 #[areaV pd ck lg] v fun e w' => e = .returned (.int .i64 n) /\ Below v.heap.size v w')
   (hL : ∀ v,Below u.heap.size u v -> Calls Tryz.prog 47 #[.pointer pd,.int .i64 0,.int .i64 n] v fun e w' => e = .returned (.tuple #[.int .u64 (g : Int),.string t,.int .i64 c]) /\ Below v.heap.size v w') :
   Calls Tryz.prog 46 #[.pointer (some ⟨Bd,0,none⟩),.pointer (some ⟨Bs,0,none⟩),.pointer (some ⟨Bk,0,none⟩)] u fun e v => e = .returned (.int .i64 c) /\ ∃ z,Below u.heap.size u z /\ v = (z.setCell ⟨Bk,0,none⟩ (.int .u64 (g : Int))).setCell ⟨Bk,1,none⟩ (.string t) := by
 subst hx
 have HL := hide hL
 have HK := hide hK
 have HB := hide hB
 have HC : Hid (∀ v,Below u.heap.size u v -> OBx pd p Bd Bs (.pointer pd) ck lg v) := fun v hb => h.below hb
 have HN : Hid (∀ v,Below u.heap.size u v -> v.heap[Bk]? = some (.cells #[y0,y1,y2] 61 (0,0))) := fun v hb => (hb.block _ (Array.getElem?_eq_some_iff.1 hk).1).trans hk
 have K : Below u.heap.size u u.drew := (Below.refl _ u).drew
 unfold areaV at *
 clear h hk hL hK hB
 go_enter Tryz.func46,Tryz.ntmps46
 go_wp2_with fail
 go_region_held3 (fun z => z.cell? ⟨Bd,0,none⟩ = some (.pointer pd) /\ z.cell? ⟨Bs,0,none⟩ = some (.pointer (some ⟨p,0,none⟩)) /\ z.cell? ⟨p,2,none⟩ = some (.pointer pd) /\ z.cell? ⟨p,3,none⟩ = some (.int .i64 ck) /\ z.cell? ⟨p,4,none⟩ = some (.int .i64 lg))
   ((first | (with_reducible exact (HC.out _ K).all) | (with_reducible exact ((HC.out _ K).set HB.out _ _).all) | (with_reducible exact (((HC.out _ K).set HB.out _ _).set HB.out _ _).all)))
   (first
     | (go_at_call 48; refine (HK.out _).mono ?_; rintro e z0 ⟨rfl,hb0⟩; have K := bnext K hb0)
     | (go_at_call 47; refine (HL.out _ K).mono ?_; rintro e z0 ⟨rfl,hb0⟩; have K := bnext K hb0; obtain ⟨⟨r0,r1, -⟩,fr⟩ := row_cells3 (HN.out _ K); have f0 := fr 0; have f1 := fr 1; clear fr))
 all_goals
   have HZ := hide K
   clear K
   go_wp2
   go_ret
   exact ⟨rfl,_,HZ.out,rfl⟩
structure OB2 (q p Bs Bk : Nat) (ck lg g : Int) (u : World) : Prop where
 s : u.cell? ⟨Bs,0,none⟩ = some (.pointer (some ⟨p,0,none⟩))
 c2 : u.cell? ⟨p,2,none⟩ = some (.pointer (some ⟨q,0,none⟩))
 c3 : u.cell? ⟨p,3,none⟩ = some (.int .i64 ck)
 c4 : u.cell? ⟨p,4,none⟩ = some (.int .i64 lg)
 g : u.cell? ⟨Bk,0,none⟩ = some (.int .u64 g)
theorem OB2.all {q p Bs Bk : Nat} {ck lg g : Int} {u : World} (h : OB2 q p Bs Bk ck lg g u) : u.cell? ⟨Bs,0,none⟩ = some (.pointer (some ⟨p,0,none⟩)) /\ u.cell? ⟨p,2,none⟩ = some (.pointer (some ⟨q,0,none⟩)) /\ u.cell? ⟨p,3,none⟩ = some (.int .i64 ck) /\ u.cell? ⟨p,4,none⟩ = some (.int .i64 lg) /\ u.cell? ⟨Bk,0,none⟩ = some (.int .u64 g) := ⟨h.s,h.c2,h.c3,h.c4,h.g⟩
theorem OB2.same {q p Bs Bk : Nat} {ck lg g : Int} {u v : World} (h : OB2 q p Bs Bk ck lg g u) (h1 : v.heap[Bs]? = u.heap[Bs]?) (h2 : v.heap[p]? = u.heap[p]?) (h3 : v.heap[Bk]? = u.heap[Bk]?) : OB2 q p Bs Bk ck lg g v :=
 ⟨(cell_same8 h1 0).trans h.s,(cell_same8 h2 2).trans h.c2,(cell_same8 h2 3).trans h.c3,(cell_same8 h2 4).trans h.c4,(cell_same8 h3 0).trans h.g⟩
theorem OB2.lt {q p Bs Bk : Nat} {ck lg g : Int} {u : World} (h : OB2 q p Bs Bk ck lg g u) : Bs < u.heap.size /\ p < u.heap.size /\ Bk < u.heap.size := ⟨World.block_lt_of_cell? u _ h.s,World.block_lt_of_cell? u _ h.c2,World.block_lt_of_cell? u _ h.g⟩
theorem OB2.below {q p Bs Bk : Nat} {ck lg g : Int} {u v : World} (h : OB2 q p Bs Bk ck lg g u) (hb : Below u.heap.size u v) : OB2 q p Bs Bk ck lg g v := h.same (hb.block _ h.lt.1) (hb.block _ h.lt.2.1) (hb.block _ h.lt.2.2)
theorem OB2.loc {q p Bs Bk : Nat} {ck lg g : Int} {F F' : Nat -> Prop} {u v : World} (h : OB2 q p Bs Bk ck lg g u) (hl : Loc F F' u v) (hF : ¬ F Bs /\ ¬ F p /\ ¬ F Bk) : OB2 q p Bs Bk ck lg g v := h.same (hl.block _ h.lt.1 hF.1) (hl.block _ h.lt.2.1 hF.2.1) (hl.block _ h.lt.2.2 hF.2.2)
theorem cell_off (u : World) (B i j : Nat) (a : Value) (h : i ≠ j) : (u.setCell ⟨B,i,none⟩ a).cell? ⟨B,j,none⟩ = u.cell? ⟨B,j,none⟩ := World.cell?_setCell_other u ⟨B,i,none⟩ ⟨B,j,none⟩ a (fun e => h (congrArg Addr.off e))
theorem OB2.setp {q p Bs Bk : Nat} {ck lg g : Int} {u : World} (h : OB2 q p Bs Bk ck lg g u) (hp : p ≠ Bs /\ p ≠ Bk) (i : Nat) (hi : i < 2) (a : Value) : OB2 q p Bs Bk ck lg g (u.setCell ⟨p,i,none⟩ a) :=
 ⟨(cell_same8 (Below.heap_setCell u ⟨p,i,none⟩ a Bs (fun e => hp.1 e.symm)) 0).trans h.s,(cell_off u p i 2 a (by omega)).trans h.c2,(cell_off u p i 3 a (by omega)).trans h.c3,(cell_off u p i 4 a (by omega)).trans h.c4,(cell_same8 (Below.heap_setCell u ⟨p,i,none⟩ a Bk (fun e => hp.2 e.symm)) 0).trans h.g⟩
theorem OB2.setk {q p Bs Bk : Nat} {ck lg g : Int} {u : World} (h : OB2 q p Bs Bk ck lg g u) (hp : Bk ≠ Bs /\ p ≠ Bk) (i : Nat) (hi : 0 < i) (a : Value) : OB2 q p Bs Bk ck lg g (u.setCell ⟨Bk,i,none⟩ a) :=
 ⟨(cell_same8 (Below.heap_setCell u ⟨Bk,i,none⟩ a Bs (fun e => hp.1 e.symm)) 0).trans h.s,(cell_same8 (Below.heap_setCell u ⟨Bk,i,none⟩ a p hp.2) 2).trans h.c2,(cell_same8 (Below.heap_setCell u ⟨Bk,i,none⟩ a p hp.2) 3).trans h.c3,(cell_same8 (Below.heap_setCell u ⟨Bk,i,none⟩ a p hp.2) 4).trans h.c4,(cell_off u Bk i 0 a (by omega)).trans h.g⟩
theorem OB2.sets {q p Bs Bk : Nat} {ck lg g : Int} {u : World} (h : OB2 q p Bs Bk ck lg g u) (h1 : p ≠ Bs) (h2 : p ≠ Bk) (h3 : Bk ≠ Bs) :
   (∀ a b,OB2 q p Bs Bk ck lg g ((u.setCell ⟨p,0,none⟩ a).setCell ⟨p,1,none⟩ b)) /\ (∀ c,OB2 q p Bs Bk ck lg g (u.setCell ⟨Bk,2,none⟩ c)) /\
   (∀ a b c,OB2 q p Bs Bk ck lg g (((u.setCell ⟨p,0,none⟩ a).setCell ⟨p,1,none⟩ b).setCell ⟨Bk,2,none⟩ c)) /\ (∀ a b c,OB2 q p Bs Bk ck lg g (((u.setCell ⟨Bk,2,none⟩ c).setCell ⟨p,0,none⟩ a).setCell ⟨p,1,none⟩ b)) :=
 ⟨fun a b => (h.setp ⟨h1,h2⟩ 0 (by omega) a).setp ⟨h1,h2⟩ 1 (by omega) b,fun c => h.setk ⟨h3,h2⟩ 2 (by omega) c,fun a b c => ((h.setp ⟨h1,h2⟩ 0 (by omega) a).setp ⟨h1,h2⟩ 1 (by omega) b).setk ⟨h3,h2⟩ 2 (by omega) c,fun a b c => ((h.setk ⟨h3,h2⟩ 2 (by omega) c).setp ⟨h1,h2⟩ 0 (by omega) a).setp ⟨h1,h2⟩ 1 (by omega) b⟩
theorem row_cells6 {u : World} {B : Nat} {x y a b c d : Value} {T : TypeId} (h : u.heap[B]? = some (.cells #[x,y,a,b,c,d] T (0,0))) : (u.cell? ⟨B,0,none⟩ = some x /\ u.cell? ⟨B,1,none⟩ = some y) /\ ∀ i,u.frozen? ⟨B,i,none⟩ = false := by
 refine ⟨⟨?_,?_⟩,fun i => ?_⟩ <;> simp [World.cell?,World.frozen?,h]
set_option maxRecDepth 10000 in
set_option maxHeartbeats 4000000 in
theorem open2_ok (p q o Bs Bk : Nat) (ck lg : Int) (G N : Nat) (s : ByteArray) (recs : List ByteArray) (st' : St) (F : Nat -> Prop) (u : World) (x0 x1 x2 x3 x4 x5 y0 y1 y2 : Value) (h : OB2 q p Bs Bk ck lg (G : Int) u)
   (hpr : u.heap[p]? = some (.cells #[x0,x1,x2,x3,x4,x5] 104 (0,0))) (hkr : u.heap[Bk]? = some (.cells #[y0,y1,y2] 61 (0,0))) (hF : ¬ F Bs /\ ¬ F p /\ ¬ F Bk) (h1 : p ≠ Bs) (h2 : p ≠ Bk) (h3 : Bk ≠ Bs)
   (hA : ∀ v,Below u.heap.size u v -> Calls Tryz.prog 50 #[areaV (some ⟨q,0,none⟩) ck lg,.int .u64 (G : Int)] v (AHas q o N G s recs st' F v)) :
   Calls Tryz.prog 49 #[.pointer (some ⟨Bs,0,none⟩),.pointer (some ⟨Bk,0,none⟩)] u fun e v => e = .returned (.int .i64 0) /\ ∃ pl vR F' z,AHas1 q o N s recs st' F u pl vR F' z /\ v = ((z.setCell ⟨p,0,none⟩ (.iface 143 (.pointer (some ⟨pl,0,none⟩)))).setCell ⟨p,1,none⟩ (.int .u64 (G : Int))).setCell ⟨Bk,2,none⟩ vR := by
 have HA := hide hA
 have HF := hide hF
 have HC : Hid (∀ v,Below u.heap.size u v -> OB2 q p Bs Bk ck lg (G : Int) v) := fun v hb => h.below hb
 have HN : Hid (∀ v,Below u.heap.size u v -> v.heap[p]? = some (.cells #[x0,x1,x2,x3,x4,x5] 104 (0,0)) /\ v.heap[Bk]? = some (.cells #[y0,y1,y2] 61 (0,0))) := fun v hb => ⟨(hb.block _ (Array.getElem?_eq_some_iff.1 hpr).1).trans hpr,(hb.block _ (Array.getElem?_eq_some_iff.1 hkr).1).trans hkr⟩
 have HD := hide (And.intro h1 (And.intro h2 h3))
 have K : Below u.heap.size u u.drew := (Below.refl _ u).drew
 unfold areaV at *
 clear h hpr hkr hF hA h1 h2 h3
 go_enter Tryz.func49,Tryz.ntmps49
 go_wp2_with fail
 go_region_held3 (fun z => z.cell? ⟨Bs,0,none⟩ = some (.pointer (some ⟨p,0,none⟩)) /\ z.cell? ⟨p,2,none⟩ = some (.pointer (some ⟨q,0,none⟩)) /\ z.cell? ⟨p,3,none⟩ = some (.int .i64 ck) /\ z.cell? ⟨p,4,none⟩ = some (.int .i64 lg) /\ z.cell? ⟨Bk,0,none⟩ = some (.int .u64 (G : Int)))
   ((first | (with_reducible exact (HC.out _ K).all) | (with_reducible exact K.1.all) | (with_reducible exact (K.2.1.1 _ _).all) | (with_reducible exact (K.2.1.2.1 _).all) | (with_reducible exact (K.2.1.2.2.1 _ _ _).all) | (with_reducible exact (K.2.1.2.2.2 _ _ _).all)))
   (first
     | (go_at_call 50; refine (HA.out _ K).mono ?_; rintro e z0 ⟨pl,vR,F',rfl,hz⟩; obtain ⟨aR,cR,rfl, -, -⟩ := own_form hz.2.2.1; have hlz : Loc F F' _ z0 := hz.2.2.2.2.1; have hr := HN.out _ K; have hrp := (hlz.block p (Array.getElem?_eq_some_iff.1 hr.1).1 HF.out.2.1).trans hr.1; have hrk := (hlz.block Bk (Array.getElem?_eq_some_iff.1 hr.2).1 HF.out.2.2).trans hr.2; obtain ⟨⟨r0,r1⟩,fr⟩ := row_cells6 hrp; have f0 := fr 0; have f1 := fr 1; obtain ⟨⟨-, -,r2⟩,fk⟩ := row_cells3 hrk; have f2 := fk 2; have hgb := (HC.out _ K).loc hlz HF.out; have hst := hgb.sets HD.out.1 HD.out.2.1 HD.out.2.2; have K := And.intro hgb (And.intro hst (AHas1.back K hz)); clear hz hlz hrp hrk hgb hst fr fk hr))
 all_goals
   have HZ := hide K.2.2
   clear K r0 r1 f0 f1 r2 f2
   go_wp2
   go_ret
   exact ⟨rfl,pl,_,F',_,HZ.out,rfl⟩
set_option maxRecDepth 10000 in
set_option maxHeartbeats 4000000 in
theorem open2_no (p q Bs Bk : Nat) (ck lg : Int) (G : Nat) (x : Int) (st' : St) (F : Nat -> Prop) (u : World) (x0 x1 x2 x3 x4 x5 y0 y1 y2 : Value) (h : OB2 q p Bs Bk ck lg (G : Int) u)
   (hpr : u.heap[p]? = some (.cells #[x0,x1,x2,x3,x4,x5] 104 (0,0))) (hkr : u.heap[Bk]? = some (.cells #[y0,y1,y2] 61 (0,0))) (hF : ¬ F Bs /\ ¬ F p /\ ¬ F Bk) (h1 : p ≠ Bs) (h2 : p ≠ Bk) (h3 : Bk ≠ Bs)
   (hA : ∀ v,Below u.heap.size u v -> Calls Tryz.prog 50 #[areaV (some ⟨q,0,none⟩) ck lg,.int .u64 (G : Int)] v (ANo q st' F v x)) :
   Calls Tryz.prog 49 #[.pointer (some ⟨Bs,0,none⟩),.pointer (some ⟨Bk,0,none⟩)] u fun e v => e = .returned (.int .i64 x) /\ ∃ F' z,(DAt z q st' F' /\ Loc F F' u z) /\ v = ((z.setCell ⟨p,0,none⟩ .nilIface).setCell ⟨p,1,none⟩ (.int .u64 0)).setCell ⟨Bk,2,none⟩ (.slice none 0 0) := by
 have HA := hide hA
 have HF := hide hF
 have HC : Hid (∀ v,Below u.heap.size u v -> OB2 q p Bs Bk ck lg (G : Int) v) := fun v hb => h.below hb
 have HN : Hid (∀ v,Below u.heap.size u v -> v.heap[p]? = some (.cells #[x0,x1,x2,x3,x4,x5] 104 (0,0)) /\ v.heap[Bk]? = some (.cells #[y0,y1,y2] 61 (0,0))) := fun v hb => ⟨(hb.block _ (Array.getElem?_eq_some_iff.1 hpr).1).trans hpr,(hb.block _ (Array.getElem?_eq_some_iff.1 hkr).1).trans hkr⟩
 have HD := hide (And.intro h1 (And.intro h2 h3))
 have K : Below u.heap.size u u.drew := (Below.refl _ u).drew
 unfold areaV at *
 clear h hpr hkr hF hA h1 h2 h3
 go_enter Tryz.func49,Tryz.ntmps49
 go_wp2_with fail
 go_region_held3 (fun z => z.cell? ⟨Bs,0,none⟩ = some (.pointer (some ⟨p,0,none⟩)) /\ z.cell? ⟨p,2,none⟩ = some (.pointer (some ⟨q,0,none⟩)) /\ z.cell? ⟨p,3,none⟩ = some (.int .i64 ck) /\ z.cell? ⟨p,4,none⟩ = some (.int .i64 lg) /\ z.cell? ⟨Bk,0,none⟩ = some (.int .u64 (G : Int)))
   ((first | (with_reducible exact (HC.out _ K).all) | (with_reducible exact K.1.all) | (with_reducible exact (K.2.1.1 _ _).all) | (with_reducible exact (K.2.1.2.1 _).all) | (with_reducible exact (K.2.1.2.2.1 _ _ _).all) | (with_reducible exact (K.2.1.2.2.2 _ _ _).all)))
   (first
     | (go_at_call 50; refine (HA.out _ K).mono ?_; rintro e z0 ⟨rfl,F',hz⟩; have hlz : Loc F F' _ z0 := hz.2; have hr := HN.out _ K; have hrp := (hlz.block p (Array.getElem?_eq_some_iff.1 hr.1).1 HF.out.2.1).trans hr.1; have hrk := (hlz.block Bk (Array.getElem?_eq_some_iff.1 hr.2).1 HF.out.2.2).trans hr.2; obtain ⟨⟨r0,r1⟩,fr⟩ := row_cells6 hrp; have f0 := fr 0; have f1 := fr 1; obtain ⟨⟨-, -,r2⟩,fk⟩ := row_cells3 hrk; have f2 := fk 2; have hgb := (HC.out _ K).loc hlz HF.out; have hst := hgb.sets HD.out.1 HD.out.2.1 HD.out.2.2; have K := And.intro hgb (And.intro hst (And.intro hz.1 ((Loc.of_below F K).trans hz.2))); clear hz hlz hrp hrk hgb hst fr fk hr))
 all_goals
   have HZ := hide K.2.2
   clear K r0 r1 f0 f1 r2 f2
   go_wp2
   go_ret
   exact ⟨rfl,F',_,HZ.out,rfl⟩
theorem load_pos (st : St) (o n : Int) (h : (st.load o n).2 = 0) : 1 <= (st.load o n).1.1 := by
 unfold St.load at *
 split at h
 · exact absurd h (show ¬ (2 : Nat) = 0 by decide)
 · rename_i h1
   rw [if_neg h1]
   split at h
   · exact absurd h (show ¬ (50 : Nat) = 0 by decide)
   · rename_i h2
     rw [if_neg h2]
     simp only at h ⊢
     split at h
     · exact absurd h (show ¬ (5 : Nat) = 0 by decide)
     · rename_i h3
       rw [if_neg h3]
       split
       · rename_i h4; exact Nat.lt_of_le_of_lt (Nat.zero_le _) h4
       · rename_i h4
         show 1 <= (wholeT _ _).1
         omega
def ON (p Bk : Nat) (k : Nat) : Prop := k = p \/ k = Bk
structure Bo (q p Bk : Nat) (F : Nat -> Prop) (u0 : World) (st : St) (F' : Nat -> Prop) (v : World) : Prop where
 d : DAt v q st F'
 l : Loc (fun k => F k \/ ON p Bk k) (fun k => F' k \/ ON p Bk k) u0 v
 np : ¬ F' p
 nk : ¬ F' Bk
theorem Bo.keep {q p Bk : Nat} {F F' : Nat -> Prop} {u0 v z : World} {st : St} (h : Bo q p Bk F u0 st F' v) (hb : Below v.heap.size v z) : Bo q p Bk F u0 st F' z := ⟨con.below h.d hb,h.l.trans (Loc.of_below _ hb),h.np,h.nk⟩
theorem Bo.setk {q p Bk : Nat} {F F' : Nat -> Prop} {u0 v : World} {st : St} (h : Bo q p Bk F u0 st F' v) (i : Nat) (a : Value) : Bo q p Bk F u0 st F' (v.setCell ⟨Bk,i,none⟩ a) :=
 ⟨con.same h.d (fun k hk => Below.heap_setCell v ⟨Bk,i,none⟩ a k (fun e => h.nk (by rw [show k = Bk from e] at hk; exact hk))),h.l.trans (Loc.setCell v ⟨Bk,i,none⟩ a (Or.inr (Or.inr rfl))),h.np,h.nk⟩
theorem Bo.setp {q p Bk : Nat} {F F' : Nat -> Prop} {u0 v : World} {st : St} (h : Bo q p Bk F u0 st F' v) (i : Nat) (a : Value) : Bo q p Bk F u0 st F' (v.setCell ⟨p,i,none⟩ a) :=
 ⟨con.same h.d (fun k hk => Below.heap_setCell v ⟨p,i,none⟩ a k (fun e => h.np (by rw [show k = p from e] at hk; exact hk))),h.l.trans (Loc.setCell v ⟨p,i,none⟩ a (Or.inr (Or.inl rfl))),h.np,h.nk⟩
theorem Bo.step {q p Bk : Nat} {F F' F2 : Nat -> Prop} {u0 v z : World} {st st2 : St} (h : Bo q p Bk F u0 st F' v) (hp : p < v.heap.size) (hk : Bk < v.heap.size) (hd : DAt z q st2 F2) (hl : Loc F' F2 v z) : Bo q p Bk F u0 st2 F2 z :=
 ⟨hd,h.l.trans (hl.wide (X := ON p Bk)),own_new hl h.np hp,own_new hl h.nk hk⟩
structure OIn (w : World) (pd : Option Addr) (ck lg : Int) (k0 k1 : Value) (z : World) : Prop where
 d : z.cell? ⟨w.heap.size,0,none⟩ = some (.pointer pd)
 res : z.heap[w.heap.size + 2]? = some (.cells #[.int .u64 0,.string ⟨#[]⟩,.slice none 0 0] 61 (0,0))
 p : z.heap[w.heap.size + 3]? = some (.cells #[.nilIface,.int .u64 0,.pointer pd,.int .i64 ck,.int .i64 lg,.bool false] 104 (0,0))
 s : z.cell? ⟨w.heap.size + 4,0,none⟩ = some (.pointer (some ⟨w.heap.size + 3,0,none⟩))
 k : z.heap[w.heap.size + 5]? = some (.cells #[k0,k1,.slice none 0 0] 61 (0,0))
theorem OIn.same {w z v : World} {pd : Option Addr} {ck lg : Int} {k0 k1 : Value} (h : OIn w pd ck lg k0 k1 z) (hs : ∀ k,w.heap.size <= k -> k < w.heap.size + 6 -> v.heap[k]? = z.heap[k]?) : OIn w pd ck lg k0 k1 v :=
 ⟨(cell_same8 (hs _ (by omega) (by omega)) 0).trans h.d,(hs _ (by omega) (by omega)).trans h.res,(hs _ (by omega) (by omega)).trans h.p,(cell_same8 (hs _ (by omega) (by omega)) 0).trans h.s,(hs _ (by omega) (by omega)).trans h.k⟩
theorem OIn.size {w z : World} {pd : Option Addr} {ck lg : Int} {k0 k1 : Value} (h : OIn w pd ck lg k0 k1 z) : w.heap.size + 6 <= z.heap.size := (Array.getElem?_eq_some_iff.1 h.k).1
theorem OIn.below {w z v : World} {pd : Option Addr} {ck lg : Int} {k0 k1 : Value} (h : OIn w pd ck lg k0 k1 z) (hb : Below z.heap.size z v) : OIn w pd ck lg k0 k1 v := h.same (fun k _ hk => hb.block k (by have := h.size; omega))
theorem OIn.pc {w z : World} {pd : Option Addr} {ck lg : Int} {k0 k1 : Value} (h : OIn w pd ck lg k0 k1 z) : z.cell? ⟨w.heap.size + 3,2,none⟩ = some (.pointer pd) /\ z.cell? ⟨w.heap.size + 3,3,none⟩ = some (.int .i64 ck) /\ z.cell? ⟨w.heap.size + 3,4,none⟩ = some (.int .i64 lg) := by
 refine ⟨?_,?_,?_⟩ <;> simp [World.cell?,h.p]
theorem OIn.obx {w z : World} {pd : Option Addr} {ck lg : Int} {k0 k1 : Value} (h : OIn w pd ck lg k0 k1 z) : OBx pd (w.heap.size + 3) w.heap.size (w.heap.size + 4) (.pointer pd) ck lg z := ⟨h.d,h.s,h.pc.1,h.pc.2.1,h.pc.2.2⟩
theorem own_cap9 {u : World} {b n c : Nat} {a : Option Addr} {l : List ByteArray} (h : OwnL u b (.slice a n c) l) : n <= c /\ (a = none -> c = 0) := by
 rcases h.2 with ⟨e,hz⟩ | ⟨g,cap,cur,e,_,_,h2,_⟩
 · cases e
   exact ⟨Nat.le_refl _,fun _ => rfl⟩
 · cases e
   exact ⟨h2,fun e => by cases e⟩
def OFin (w : World) (q : Nat) (k l : Nat) (F : Nat -> Prop) (u0 : World) (st2 : St) (g : Nat) (t str : ByteArray) (recs : List ByteArray) (v : World) : Prop :=
 ∃ pl aR cR F',Bo q (w.heap.size + 3) (w.heap.size + 5) F u0 st2 F' v /\ LAt v pl q (lo k l g) l str false /\ StAt v (w.heap.size + 3) pl q k l g false /\
   v.heap[w.heap.size + 5]? = some (.cells #[.int .u64 (g : Int),.string t,.slice aR recs.length cR] 61 (0,0)) /\ StrsAt v aR recs /\ (∀ b off,aR = some ⟨b,off,none⟩ -> u0.heap.size <= b) /\ u0.heap.size <= pl /\ ¬ F' pl /\ (aR = none -> cR = 0)
end Go.Proofs.YtchhojkhfdkhfaaGreatDoor
