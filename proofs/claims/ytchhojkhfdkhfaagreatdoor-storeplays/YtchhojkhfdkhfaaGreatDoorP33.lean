/- Joined texts. -/
import Derived.Test.YtchhojkhfdkhfaaGreatDoorP32
import Derived.Test.YtchhojkhfdkhfaaGreatDoorP31
import Derived.Test.YtchhojkhfdkhfaaGreatDoorP04
import Derived.Deep.RegionHeld3
namespace Go.Proofs.YtchhojkhfdkhfaaGreatDoor
open Go Go.RowKit Frm
def OwnL7 (w : World) (base : Nat) (v : Value) (l : List ByteArray) : Prop := w.ownsRow base 9 1 v l.length (l.map Value.string)
theorem OwnL7.below {w w' : World} {base : Nat} {v : Value} {l : List ByteArray} (h : OwnL7 w base v l) (hb : Below w.heap.size w w') : OwnL7 w' base v l := own_same h (fun j hj => hb.block j (own_lt h hj))
theorem OwnL7.slice {w : World} {base : Nat} {v : Value} {l : List ByteArray} (h : OwnL7 w base v l) : ∃ a c,v = .slice a l.length c := by
 obtain ⟨a,c,h1,_⟩ := slice_of h
 exact ⟨a,c,h1⟩
theorem map_snoc7 (l : List ByteArray) (t : ByteArray) : l.map Value.string ++ [.string t] = (l ++ [t]).map Value.string := by rw [List.map_append]; rfl
theorem OwnL7.at {w : World} {base g c : Nat} {l : List ByteArray} (h : OwnL7 w base (.slice (some ⟨g,0,none⟩) l.length c) l) (j : Nat) (hj : j < l.length) : w.cell? ⟨g,j,none⟩ = some (.string l[j]) := by
 have hx := World.ownsRow.cells h (g := g) rfl j (.string l[j]) (by rw [List.getElem?_map,List.getElem?_eq_getElem hj]; rfl)
 rw [add_at] at hx
 exact hx
theorem OwnL7.form {w : World} {base : Nat} {v : Value} {l : List ByteArray} (h : OwnL7 w base v l) (hn : 0 < l.length) : ∃ g c,v = .slice (some ⟨g,0,none⟩) l.length c /\ l.length <= c /\ g < w.heap.size := by
 rcases h.2 with ⟨_,h0⟩ | ⟨g,cap,cur,rfl,h1,hg,hr,_⟩
 · omega
 · exact ⟨g,cap,rfl,hr,(Array.getElem?_eq_some_iff.1 hg).1⟩
theorem blocksAt_length (st : St) (a k : Nat) : (blocksAt st a k).length = k := by unfold blocksAt; simp
theorem blocksAt_succ (st : St) (a k : Nat) : blocksAt st a (k + 1) = blocksAt st a k ++ [stands st.sure (a + k) st.loose.reverse] := by unfold blocksAt; rw [List.range_succ,List.map_append]; rfl
theorem blocksAt_full {st : St} (h : st.Ok) (a k : Nat) (hk : a + k <= st.sure.length) : ∀ t ∈ blocksAt st a k,t.size = 256 := fun t ht => by
 unfold blocksAt at ht
 obtain ⟨i,hi,rfl⟩ := List.mem_map.1 ht
 rw [List.mem_range] at hi
 exact stands_size h.full (by omega) _ (fun w hw => (h.there w (List.mem_reverse.1 hw)).2)
theorem read_at {st : St} (b : Nat) (hb : b < st.sure.length) (h0 : st.left ≠ 0) : st.read (b : Int) = (stands st.sure b st.loose.reverse,0) := by
 unfold St.read
 rw [if_neg h0,if_neg (by omega)]
 rfl
set_option maxRecDepth 10000 in
set_option maxHeartbeats 2000000 in
theorem slotRead_any (q a N : Nat) (gi : Int) (st : St) (F : Nat -> Prop) (w : World) (hD : DAt w q st F) (hok : st.Ok) (hl : st.loose.length <= 10000) (hN : a + N <= st.sure.length) (h0 : st.left ≠ 0) :
   Calls Tryz.prog 83 #[.agg #[.pointer (some ⟨q,0,none⟩),.int .i64 (a : Int),.int .i64 (N : Int),.int .u64 gi]] w fun e w' => ∃ v,e = .returned (.tuple #[v,.int .i64 0]) /\ OwnL7 w' w.heap.size v (blocksAt st a N) /\ Below w.heap.size w w' := by
 obtain ⟨i0,hi,hz0,hz1,hz2⟩ := info_parts (P := Tryz.prog) (e := 9) (z := .string ⟨#[]⟩) (size := 1) (bytes := 16) (by kernel_rfl)
 have HI := hide (And.intro hi (And.intro hz0 (And.intro hz1 hz2)))
 clear hi hz0 hz1 hz2
 have hfew := hok.few
 have hF := con.lt hD
 have HR : Hid (∀ k u,k < N -> Below w.heap.size w u -> Calls Tryz.prog 112 #[.pointer (some ⟨q,0,none⟩),.int .i64 ((a : Int) + (k : Int))] u fun e v => e = .returned (.tuple #[.string (stands st.sure (a + k) st.loose.reverse),.int .i64 0]) /\ Below u.heap.size u v) := fun k u hk hb => by
   rw [show (a : Int) + (k : Int) = ((a + k : Nat) : Int) from by omega]
   have := con.read q st F ((a + k : Nat) : Int) u (con.same hD (fun j hj => hb.block j (hF j hj))) hok hl (by omega)
   rw [read_at (a + k) (by omega) h0] at this
   exact this
 have hb0 := one_below w (.cells #[.pointer (some ⟨q,0,none⟩),.int .i64 (a : Int),.int .i64 (N : Int),.int .u64 gi] 138)
 have HC0 := hide (heap_alloc_last w (.cells #[.pointer (some ⟨q,0,none⟩),.int .i64 (a : Int),.int .i64 (N : Int),.int .u64 gi] 138))
 have HB0 := hide hb0
 have HLt : Hid (w.heap.size < (w.alloc (.cells #[.pointer (some ⟨q,0,none⟩),.int .i64 (a : Int),.int .i64 (N : Int),.int .u64 gi] 138)).heap.size) := by unfold Hid; simp
 have HN := hide hN
 clear hD hok hl hN hF hb0
 go_enter Tryz.func83,Tryz.ntmps83
 go_wp2_with fail
 generalize w.alloc (.cells #[.pointer (some ⟨q,0,none⟩),.int .i64 (a : Int),.int .i64 (N : Int),.int .u64 gi] 138) = W at *
 go_loopw [4,5,6,7,11] (fun lv _ _ _ i wr => ∃ k : Nat,k <= N /\ i = .int .i64 (k : Int) /\ OwnL7 wr w.heap.size lv (blocksAt st a k) /\ wr.heap[w.heap.size]? = some (.cells #[.pointer (some ⟨q,0,none⟩),.int .i64 (a : Int),.int .i64 (N : Int),.int .u64 gi] 138 (0,0)) /\ Below w.heap.size w wr) (fun _ _ _ _ i _ => N - (intOf i).toNat)
 case atStart => exact ⟨0,Nat.zero_le _,rfl,World.ownsRow_nil _ _ _ _,HC0.out,HB0.out⟩
 case round =>
   obtain ⟨k,hk,rfl,hown,hcl,hb⟩ := hrel
   have HO := hide hown
   have HB := hide hb
   have HCl := hide hcl
   by_cases hlt : k < N
   · have hz : (k : Int) < (N : Int) := by omega
     have hw : wrap64 ((a : Int) + (k : Int)) = (a : Int) + (k : Int) := by unfold wrap64; have := HN.out; omega
     have KR := hide (HR.out k wr hlt HB.out)
     have c0 : wr.cell? ⟨w.heap.size,0,none⟩ = some (.pointer (some ⟨q,0,none⟩)) := by simp [World.cell?,hcl]
     have c1 : wr.cell? ⟨w.heap.size,1,none⟩ = some (.int .i64 (a : Int)) := by simp [World.cell?,hcl]
     have hkl := blocksAt_length st a k
     have HT := hide (blocksAt_succ st a k)
     generalize stands st.sure (a + k) st.loose.reverse = t at *
     generalize blocksAt st a k = pre at *
     clear hown hcl hb
     go_wp2_with fail
     refine KR.out.mono ?_
     rintro e w1 ⟨rfl,hb1⟩
     have HO1 := hide (HO.out.below hb1)
     have HB1 := hide (HB.out.trans (hb1.mono HB.out.size))
     have hlt0 : w.heap.size < wr.heap.size := (Array.getElem?_eq_some_iff.1 HCl.out).1
     have HCl1 := hide ((hb1.block _ hlt0).trans HCl.out)
     have hkN : k <= 4096 := by have := HN.out; omega
     clear hb1 hlt0 c0 c1 KR HO HB HCl
     obtain ⟨a0,c0,rfl⟩ := HO1.out.slice
     subst hkl
     go_wp2_with (at_builtin; refine wpList_append_lies _ rfl _ _ 46 rfl w.heap.size 9 i0 (.string ⟨#[]⟩) 1 16 Tryz.underlying46 HI.out.1 HI.out.2.1 HI.out.2.2.1 HI.out.2.2.2 rfl (by decide) _ _ _ rfl (World.ownsRow.alloc HO1.out _) ⟨w1.heap.size,0,none⟩ 1 1 [.string t] rfl rfl ?c1 ?c2 (by decide) ?c3 ?c4 ?c5 (w1.heap.size + 1) (by simp) ?_)
     case c1 =>
       intro j u hj
       match j,hj with
       | 0,hj => simp at hj; subst hj; simp [Addr.add,go_sem]
     case c2 => first | rfl | (intro u hu; simp at hu; subst hu; rfl)
     case c3 => unfold maxLen; omega
     case c4 => omega
     case c5 => have := HB1.out.size; simp; omega
     · intro g cap w2 hown2 hgrow2 _ _
       have HO2 : Hid (OwnL7 w2 w.heap.size (.slice (some ⟨g,0,none⟩) (pre.length + 1) cap) (pre ++ [t])) := by
         rw [map_snoc7] at hown2
         unfold Hid OwnL7; rw [List.length_append]; exact hown2
       have HB2 : Hid (Below w.heap.size w w2) := (HB1.out.alloc HB1.out.size _).grown hgrow2 (by have := HB1.out.size; simp; omega) (fun k e => (World.ownsRow.lt HO1.out k e).1)
       have HCl2 : Hid (w2.heap[w.heap.size]? = some (.cells #[.pointer (some ⟨q,0,none⟩),.int .i64 (a : Int),.int .i64 (N : Int),.int .u64 gi] 138 (0,0))) := by
         have hl1 : w.heap.size < w1.heap.size := (Array.getElem?_eq_some_iff.1 HCl1.out).1
         refine (hgrow2.block _ (by simp; omega) (fun e => ?_)).trans ((Below.heap_alloc w1 _ _ hl1).trans HCl1.out)
         obtain ⟨cur,hc⟩ := row_type HO1.out e.symm
         rw [HCl1.out] at hc
         cases hc
       clear hown2 hgrow2
       go_wp2
       go_roundw
       case rel => exact ⟨pre.length + 1,hlt,by go_num,by rw [HT.out]; exact HO2.out,HCl2.out,HB2.out⟩
       case measure => simp [intOf]; omega
   · have hke : k = N := by omega
     subst hke
     have hz : ¬ ((k : Int) < (k : Int)) := by omega
     clear hcl hown hb
     go_wp2
     go_ret2
     exact ⟨_,rfl,HO.out,HB.out⟩
set_option maxRecDepth 10000 in
set_option maxHeartbeats 2000000 in
theorem slotRead_down (q : Nat) (a N : Int) (gi : Int) (st : St) (F : Nat -> Prop) (w : World) (hD : DAt w q st F) (hok : st.Ok) (hl : st.loose.length <= 10000) (ha : 0 <= a /\ a <= 9000) (hN : 1 <= N /\ N <= 9000) (h0 : st.left = 0) :
   Calls Tryz.prog 83 #[.agg #[.pointer (some ⟨q,0,none⟩),.int .i64 a,.int .i64 N,.int .u64 gi]] w fun e w' => e = .returned (.tuple #[.slice none 0 0,.int .i64 50]) /\ Below w.heap.size w w' := by
 have hF := con.lt hD
 have hb0 := one_below w (.cells #[.pointer (some ⟨q,0,none⟩),.int .i64 a,.int .i64 N,.int .u64 gi] 138)
 have HR : Hid (Calls Tryz.prog 112 #[.pointer (some ⟨q,0,none⟩),.int .i64 a] (w.alloc (.cells #[.pointer (some ⟨q,0,none⟩),.int .i64 a,.int .i64 N,.int .u64 gi] 138)) fun e v => e = .returned (.tuple #[.string noText,.int .i64 50]) /\ Below (w.alloc (.cells #[.pointer (some ⟨q,0,none⟩),.int .i64 a,.int .i64 N,.int .u64 gi] 138)).heap.size (w.alloc (.cells #[.pointer (some ⟨q,0,none⟩),.int .i64 a,.int .i64 N,.int .u64 gi] 138)) v) := by
   have := con.read q st F a _ (con.same hD (fun j hj => hb0.block j (hF j hj))) hok hl (by omega)
   have e : st.read a = (noText,50) := by unfold St.read; rw [if_pos h0]
   rw [e] at this
   exact this
 have HB0 := hide hb0
 have c0 := new_cell w #[.pointer (some ⟨q,0,none⟩),.int .i64 a,.int .i64 N,.int .u64 gi] 138 0 rfl
 have c1 := new_cell w #[.pointer (some ⟨q,0,none⟩),.int .i64 a,.int .i64 N,.int .u64 gi] 138 1 rfl
 have hw : wrap64 a = a := by unfold wrap64; omega
 have hz : (0 : Int) < N := by omega
 clear hD hok hl hF hb0 h0 hN ha
 go_enter Tryz.func83,Tryz.ntmps83
 go_wp2_with fail
 generalize w.alloc (.cells #[.pointer (some ⟨q,0,none⟩),.int .i64 a,.int .i64 N,.int .u64 gi] 138) = W at *
 go_loopw [4,5,6,7,11] (fun lv _ _ _ i wr => i = .int .i64 0 /\ lv = .slice none 0 0 /\ wr = W) (fun _ _ _ _ _ _ => 0)
 case atStart => exact ⟨rfl,rfl,rfl⟩
 case round =>
   obtain ⟨rfl,rfl,hwr⟩ := hrel
   obtain rfl := hwr.symm
   clear hwr
   go_wp2_with fail
   refine HR.out.mono ?_
   rintro e w1 ⟨rfl,hb1⟩
   have HB1 := hide (bnext HB0.out hb1)
   clear hb1 HR
   go_wp2
   go_ret2
   exact ⟨rfl,HB1.out⟩
def wrV (B : Nat) : Value := .func (.func 130) #[] #[.pointer (some ⟨B,0,none⟩),.pointer (some ⟨B + 1,0,none⟩),.pointer (some ⟨B + 1 + 1,0,none⟩)]
structure WrAt (u : World) (B q : Nat) (b : Int) (d : ByteArray) : Prop where
 ex : ∃ (a k g i : Int),u.heap[B]? = some (.cells #[.pointer (some ⟨q,0,none⟩),.int .i64 a,.int .i64 k,.int .u64 g] 138 (0,0)) /\ u.heap[B + 1]? = some (.cells #[.int .i64 i] 3 (0,0)) /\ b = a + i /\ wrap64 (a + i) = a + i
 data : u.heap[B + 1 + 1]? = some (.cells (tc d).toArray 89 (0,0))
 size : d.size = 256
theorem WrAt.lt {u : World} {B q : Nat} {b : Int} {d : ByteArray} (h : WrAt u B q b d) : B + 1 + 1 < u.heap.size := (Array.getElem?_eq_some_iff.1 h.data).1
theorem WrAt.same {u v : World} {B q : Nat} {b : Int} {d : ByteArray} (h : WrAt u B q b d) (h0 : v.heap[B]? = u.heap[B]?) (h1 : v.heap[B + 1]? = u.heap[B + 1]?) (h2 : v.heap[B + 1 + 1]? = u.heap[B + 1 + 1]?) : WrAt v B q b d := by
 obtain ⟨a,k,g,i,e0,e1,e2⟩ := h.ex
 exact ⟨⟨a,k,g,i,h0.trans e0,h1.trans e1,e2⟩,h2.trans h.data,h.size⟩
theorem WrAt.below {u v : World} {B q : Nat} {b : Int} {d : ByteArray} (h : WrAt u B q b d) (hb : Below u.heap.size u v) : WrAt v B q b d := by
 have hl := h.lt
 exact h.same (hb.block _ (by omega)) (hb.block _ (by omega)) (hb.block _ hl)
theorem WrAt.loc {F F' : Nat -> Prop} {u v : World} {B q : Nat} {b : Int} {d : ByteArray} (h : WrAt u B q b d) (hl : Loc F F' u v) (h0 : ¬ F B) (h1 : ¬ F (B + 1)) (h2 : ¬ F (B + 1 + 1)) : WrAt v B q b d := by
 have hlt := h.lt
 exact h.same (hl.block _ (by omega) h0) (hl.block _ (by omega) h1) (hl.block _ hlt h2)
set_option maxRecDepth 10000 in
set_option maxHeartbeats 1000000 in
theorem writing_any (q : Nat) (a k g i : Int) (d : ByteArray) (w : World) (hd : d.size = 256) (hw : wrap64 (a + i) = a + i) :
   Calls Tryz.prog 109 #[.agg #[.pointer (some ⟨q,0,none⟩),.int .i64 a,.int .i64 k,.int .u64 g],.int .i64 i,.agg (tc d).toArray] w fun e w' => e = .returned (wrV w.heap.size) /\ WrAt w' w.heap.size q (a + i) d /\ Below w.heap.size w w' /\ w'.heap.size = w.heap.size + 3 := by
 have hx : WrAt (((w.alloc (.cells #[.pointer (some ⟨q,0,none⟩),.int .i64 a,.int .i64 k,.int .u64 g] 138)).alloc (.cells #[.int .i64 i] 3)).alloc (.cells (tc d).toArray 89)) w.heap.size q (a + i) d := by
   have e2 := heap_alloc_last ((w.alloc (.cells #[.pointer (some ⟨q,0,none⟩),.int .i64 a,.int .i64 k,.int .u64 g] 138)).alloc (.cells #[.int .i64 i] 3)) (.cells (tc d).toArray 89)
   have e1 := heap_alloc_last (w.alloc (.cells #[.pointer (some ⟨q,0,none⟩),.int .i64 a,.int .i64 k,.int .u64 g] 138)) (.cells #[.int .i64 i] 3)
   have e0 := heap_alloc_last w (.cells #[.pointer (some ⟨q,0,none⟩),.int .i64 a,.int .i64 k,.int .u64 g] 138)
   have s1 : (w.alloc (.cells #[.pointer (some ⟨q,0,none⟩),.int .i64 a,.int .i64 k,.int .u64 g] 138)).heap.size = w.heap.size + 1 := by simp
   have s2 : ((w.alloc (.cells #[.pointer (some ⟨q,0,none⟩),.int .i64 a,.int .i64 k,.int .u64 g] 138)).alloc (.cells #[.int .i64 i] 3)).heap.size = w.heap.size + 1 + 1 := by simp
   rw [s1] at e1
   rw [s2] at e2
   refine ⟨⟨a,k,g,i,?_,?_,rfl,hw⟩,e2,hd⟩
   · exact (Below.heap_alloc _ _ _ (by rw [s2]; omega)).trans ((Below.heap_alloc _ _ _ (by rw [s1]; omega)).trans e0)
   · exact (Below.heap_alloc _ _ _ (by rw [s2]; omega)).trans e1
 have HX := hide hx
 have HB : Hid (Below w.heap.size w (((w.alloc (.cells #[.pointer (some ⟨q,0,none⟩),.int .i64 a,.int .i64 k,.int .u64 g] 138)).alloc (.cells #[.int .i64 i] 3)).alloc (.cells (tc d).toArray 89))) := ((two_below w _ _).alloc (by simp; omega) _)
 have HS : Hid ((((w.alloc (.cells #[.pointer (some ⟨q,0,none⟩),.int .i64 a,.int .i64 k,.int .u64 g] 138)).alloc (.cells #[.int .i64 i] 3)).alloc (.cells (tc d).toArray 89)).heap.size = w.heap.size + 3) := by simp [Hid]
 clear hx hw
 generalize (tc d).toArray = D at *
 go_enter Tryz.func109,Tryz.ntmps109
 go_wp2
 go_ret
 exact ⟨rfl,HX.out,HB.out,HS.out⟩
set_option maxRecDepth 10000 in
set_option maxHeartbeats 1000000 in
theorem writing1_any (B q : Nat) (b : Int) (d : ByteArray) (st : St) (F : Nat -> Prop) (w : World) (h : WrAt w B q b d) (hD : DAt w q st F) (hok : st.Ok) (hl : st.loose.length <= 10000) (hb : -9223372036854775808 <= b /\ b <= 9223372036854775807) :
   Calls Tryz.prog 130 #[.pointer (some ⟨B,0,none⟩),.pointer (some ⟨B + 1,0,none⟩),.pointer (some ⟨B + 1 + 1,0,none⟩)] w fun e v => e = .returned (.int .i64 (((st.write b d).1 : Nat) : Int)) /\ ∃ F',DAt v q (st.write b d).2 F' /\ Loc F F' w v := by
 obtain ⟨a,k,g,i,e0,e1,e2,e3⟩ := h.ex
 have e4 := h.data
 have c0 : w.cell? ⟨B,0,none⟩ = some (.pointer (some ⟨q,0,none⟩)) := by simp [World.cell?,e0]
 have c1 : w.cell? ⟨B,1,none⟩ = some (.int .i64 a) := by simp [World.cell?,e0]
 have c2 : w.cell? ⟨B + 1,0,none⟩ = some (.int .i64 i) := by simp [World.cell?,e1]
 have hD1 : DAt w.drew q st F := con.same hD (fun _ _ => rfl)
 have HC := hide (con.write q st F b d w.drew hD1 hok hl hb (by rw [h.size]; omega))
 have hcv : (convert 77 9 (.slice (some ⟨B + 1 + 1,0,none⟩) 256 256)).run Tryz.prog w.drew = .ok (.string d) w.drew := by
   have := run_convert_bytes_back w.drew 77 9 5 ⟨B + 1 + 1,0,none⟩ 256 d.data.toList Tryz.underlying77 Tryz.underlying5 Tryz.underlying9 (fun j hj => by
     rw [add_at]
     have e4' : w.drew.heap[B + 1 + 1]? = some (.cells (tc d).toArray 89 (0,0)) := e4
     have hj' : j < d.data.size := by simpa using hj
     simp only [World.cell?,e4']
     simp [tc,Lib.byteCells]
     exact ⟨_,Array.getElem?_eq_getElem hj',rfl⟩)
   have hsz : d.data.toList.length = 256 := by rw [<- h.size]; simp
   rw [hsz] at this
   exact this
 have d0 : w.drew.cell? ⟨B,0,none⟩ = some (.pointer (some ⟨q,0,none⟩)) := c0
 have d1 : w.drew.cell? ⟨B,1,none⟩ = some (.int .i64 a) := c1
 have d2 : w.drew.cell? ⟨B + 1,0,none⟩ = some (.int .i64 i) := c2
 subst e2
 have e5 : IntKind.i64.wrap (a + i) = a + i := by
   rw [IntKind.wrap_i64]
   unfold wrap64 at e3
   exact e3
 clear e0 e1 e4 h hb hD hD1
 go_enter Tryz.func130,Tryz.ntmps130
 go_wp2_with fail
 go_region_law (first
     | (go_simp; go_at_call 34; refine (HC.out).mono ?_; rintro e z1 ⟨rfl,F1,hd1,hl1⟩))
 all_goals
   have HE : Hid (DAt z1 q (st.write (a + i) d).2 F1) := hd1
   have HL : Hid (Loc F F1 w z1) := hl1.undrew
   clear hd1 hl1 c0 c1 c2 d0 d1 d2 hcv
   go_wp2
   go_ret
   exact ⟨rfl,F1,HE.out,HL.out⟩
structure WT (q a : Nat) (kk g : Int) (t : ByteArray) (w : World) (k : Nat) (vS : Value) (Bs : List Nat) (u : World) : Prop where
 len : Bs.length = k
 slot : u.heap[w.heap.size]? = some (.cells #[.pointer (some ⟨q,0,none⟩),.int .i64 (a : Int),.int .i64 kk,.int .u64 g] 138 (0,0))
 box : u.heap[w.heap.size + 1]? = some (.cells #[vS] 195 (0,0))
 row : u.ownsRow 0 169 1 vS k (Bs.map wrV)
 new : ∀ j,vS.ownBlock = some j -> w.heap.size <= j
 acts : ∀ j (hj : j < Bs.length),WrAt u Bs[j] q (((a + 1 + j : Nat) : Nat) : Int) (blkT t j) /\ w.heap.size <= Bs[j]
 below : Below w.heap.size w u
theorem WT.lt {q a : Nat} {kk g : Int} {t : ByteArray} {w : World} {k : Nat} {vS : Value} {Bs : List Nat} {u : World} (h : WT q a kk g t w k vS Bs u) : w.heap.size + 1 < u.heap.size := (Array.getElem?_eq_some_iff.1 h.box).1
theorem WT.keep {q a : Nat} {kk g : Int} {t : ByteArray} {w : World} {k : Nat} {vS : Value} {Bs : List Nat} {u v : World} (h : WT q a kk g t w k vS Bs u) (hb : Below u.heap.size u v) : WT q a kk g t w k vS Bs v := by
 have hl := h.lt
 exact ⟨h.len,(hb.block _ (by omega)).trans h.slot,(hb.block _ (by omega)).trans h.box,own_same h.row (fun j hj => hb.block j (own_lt h.row hj)),h.new,fun j hj => ⟨(h.acts j hj).1.below hb,(h.acts j hj).2⟩,h.below.trans (hb.mono (by omega))⟩
theorem WT.apart {q a : Nat} {kk g : Int} {t : ByteArray} {w : World} {k : Nat} {vS : Value} {Bs : List Nat} {u : World} (h : WT q a kk g t w k vS Bs u) {j : Nat} {cs : Array Value} {ty : TypeId} (hj : u.heap[j]? = some (.cells cs ty (0,0))) (hne : ty ≠ 169) : vS.ownBlock ≠ some j := fun e => by
 obtain ⟨cur,hc⟩ := row_type h.row e
 rw [hj] at hc
 cases hc
 exact hne rfl
theorem WT.next {q a : Nat} {kk g : Int} {t : ByteArray} {w : World} {k B : Nat} {vS v1 : Value} {Bs : List Nat} {z1 w1 : World} (h : WT q a kk g t w k vS Bs z1) (hW : WrAt z1 B q (((a + 1 + k : Nat) : Nat) : Int) (blkT t k)) (hB : w.heap.size + 2 <= B)
   (hown : w1.ownsRow 0 169 1 v1 (k + 1) (Bs.map wrV ++ [wrV B])) (hg : (z1.alloc (.cells #[wrV B] 169)).grownBy w1 vS.ownBlock) (hat : ∀ j,v1.ownBlock = some j -> vS.ownBlock = some j \/ z1.heap.size <= j) :
   WT q a kk g t w (k + 1) v1 (Bs ++ [B]) (w1.setCell ⟨w.heap.size + 1,0,none⟩ v1) := by
 have hl := h.lt
 have hsz : z1.heap.size + 1 = (z1.alloc (.cells #[wrV B] 169)).heap.size := by simp
 have keep : ∀ j,j < z1.heap.size -> vS.ownBlock ≠ some j -> w1.heap[j]? = z1.heap[j]? := fun j hj hne => (hg.block j (by omega) (fun e => hne e.symm)).trans (Below.heap_alloc z1 _ j hj)
 have keep2 : ∀ j,j < z1.heap.size -> vS.ownBlock ≠ some j -> j ≠ w.heap.size + 1 -> (w1.setCell ⟨w.heap.size + 1,0,none⟩ v1).heap[j]? = z1.heap[j]? := fun j hj hne hn => (Below.heap_setCell w1 ⟨w.heap.size + 1,0,none⟩ v1 j hn).trans (keep j hj hne)
 have hbox : w1.heap[w.heap.size + 1]? = some (.cells #[vS] 195 (0,0)) := (keep _ hl (h.apart h.box (by decide))).trans h.box
 have wr : ∀ {C : Nat} {b : Int} {d : ByteArray},WrAt z1 C q b d -> (C ≠ w.heap.size + 1 /\ C + 1 ≠ w.heap.size + 1 /\ C + 1 + 1 ≠ w.heap.size + 1) -> WrAt (w1.setCell ⟨w.heap.size + 1,0,none⟩ v1) C q b d := fun {C b d} hC hn => by
   have hlt := hC.lt
   obtain ⟨_,_,_,_,e0,e1,_⟩ := hC.ex
   exact hC.same (keep2 _ (by omega) (h.apart e0 (by decide)) hn.1) (keep2 _ (by omega) (h.apart e1 (by decide)) hn.2.1) (keep2 _ hlt (h.apart hC.data (by decide)) hn.2.2)
 have hbelow : Below w.heap.size w (w1.setCell ⟨w.heap.size + 1,0,none⟩ v1) := by
   have h1 : Below w.heap.size w (z1.alloc (.cells #[wrV B] 169)) := h.below.alloc (by omega) _
   exact (h1.grown hg (by omega) (fun j e => h.new j e)).setCell (p := ⟨w.heap.size + 1,0,none⟩) (Nat.le_succ _) _
 refine ⟨by rw [List.length_append,h.len]; rfl,(keep2 _ (by omega) (h.apart h.slot (by decide)) (by omega)).trans h.slot,by rw [heap_set3 hbox]; rfl,?_,fun j hj => ?_,fun j hj => ?_,hbelow⟩
 · rw [List.map_append]
   refine own_same hown (fun j hj => Below.heap_setCell w1 ⟨w.heap.size + 1,0,none⟩ v1 j (fun e => ?_))
   obtain ⟨cur,hc⟩ := row_type hown hj
   rw [e,hbox] at hc
   cases hc
 · rcases hat j hj with h1 | h1
   · exact h.new j h1
   · omega
 · by_cases e : j < Bs.length
   · rw [List.getElem_append_left e]
     have := h.acts j e
     refine ⟨wr this.1 ?_,this.2⟩
     obtain ⟨_,_,_,_,e0,e1,_⟩ := this.1.ex
     have e2 := this.1.data
     have hb0 := h.box
     refine ⟨fun x => ?_,fun x => ?_,fun x => ?_⟩
     · rw [x,hb0] at e0; cases e0
     · rw [x,hb0] at e1; cases e1
     · rw [x,hb0] at e2; simp at e2
   · rw [List.length_append,List.length_singleton] at hj
     have hj2 : j = Bs.length := by omega
     subst hj2
     rw [List.getElem_concat_length (by rfl)]
     rw [h.len]
     exact ⟨wr hW (by omega),by omega⟩

theorem WT.boxAfter {q a : Nat} {kk g : Int} {t : ByteArray} {w : World} {k B : Nat} {vS : Value} {Bs : List Nat} {z1 w1 : World} (h : WT q a kk g t w k vS Bs z1) (hg : (z1.alloc (.cells #[wrV B] 169)).grownBy w1 vS.ownBlock) :
   w1.cell? ⟨w.heap.size + 1,0,none⟩ = some vS /\ w1.frozen? ⟨w.heap.size + 1,0,none⟩ = false := by
 have hl := h.lt
 have hsz : z1.heap.size + 1 = (z1.alloc (.cells #[wrV B] 169)).heap.size := by simp
 have e : w1.heap[w.heap.size + 1]? = some (.cells #[vS] 195 (0,0)) := ((hg.block _ (by omega) (fun e => h.apart h.box (by decide) e.symm)).trans (Below.heap_alloc z1 _ _ hl)).trans h.box
 exact ⟨by simp [World.cell?,e],by simp [World.frozen?,e]⟩
theorem WT.cells {q a : Nat} {kk g : Int} {t : ByteArray} {w : World} {k : Nat} {vS : Value} {Bs : List Nat} {u : World} (h : WT q a kk g t w k vS Bs u) :
   u.cell? ⟨w.heap.size + 1,0,none⟩ = some vS /\ u.cell? ⟨w.heap.size,0,none⟩ = some (.pointer (some ⟨q,0,none⟩)) /\ u.cell? ⟨w.heap.size,1,none⟩ = some (.int .i64 (a : Int)) /\ u.cell? ⟨w.heap.size,2,none⟩ = some (.int .i64 kk) /\ u.cell? ⟨w.heap.size,3,none⟩ = some (.int .u64 g) := by
 have e0 := h.box
 have e1 := h.slot
 exact ⟨by simp [World.cell?,e0],by simp [World.cell?,e1],by simp [World.cell?,e1],by simp [World.cell?,e1],by simp [World.cell?,e1]⟩
theorem WT.still {q a : Nat} {kk g : Int} {t : ByteArray} {w : World} {k B gd : Nat} {vS : Value} {Bs : List Nat} {D : Array Value} {z1 w1 : World} (h : WT q a kk g t w k vS Bs z1) (hD : z1.heap[gd]? = some (.cells D 89 (0,0))) (hg : (z1.alloc (.cells #[wrV B] 169)).grownBy w1 vS.ownBlock) (v1 : Value) :
   w1.heap[w.heap.size]? = z1.heap[w.heap.size]? /\ w1.heap[gd]? = z1.heap[gd]? /\ (w1.setCell ⟨w.heap.size + 1,0,none⟩ v1).heap[w.heap.size]? = z1.heap[w.heap.size]? /\ (w1.setCell ⟨w.heap.size + 1,0,none⟩ v1).heap[gd]? = z1.heap[gd]? := by
 have hl := h.lt
 have hgd : gd < z1.heap.size := (Array.getElem?_eq_some_iff.1 hD).1
 have hsz : z1.heap.size + 1 = (z1.alloc (.cells #[wrV B] 169)).heap.size := by simp
 have e0 := (hg.block _ (by omega) (fun e => h.apart h.slot (by decide) e.symm)).trans (Below.heap_alloc z1 _ w.heap.size (by omega))
 have e1 := (hg.block _ (by omega) (fun e => h.apart hD (by decide) e.symm)).trans (Below.heap_alloc z1 _ gd hgd)
 have hne : gd ≠ w.heap.size + 1 := fun e => by
   subst e
   have hb := h.box
   rw [hD] at hb
   simp at hb
 exact ⟨e0,e1,(Below.heap_setCell w1 ⟨w.heap.size + 1,0,none⟩ v1 w.heap.size (by show w.heap.size ≠ w.heap.size + 1; omega)).trans e0,(Below.heap_setCell w1 ⟨w.heap.size + 1,0,none⟩ v1 gd hne).trans e1⟩
theorem held_of {B gd q : Nat} {a kk g : Int} {D : Array Value} {u v : World} (h : u.cell? ⟨B,0,none⟩ = some (.pointer (some ⟨q,0,none⟩)) /\ u.cell? ⟨B,1,none⟩ = some (.int .i64 a) /\ u.cell? ⟨B,2,none⟩ = some (.int .i64 kk) /\ u.cell? ⟨B,3,none⟩ = some (.int .u64 g) /\ u.heap[gd]? = some (.cells D 89 (0,0)))
   (h0 : v.heap[B]? = u.heap[B]?) (h1 : v.heap[gd]? = u.heap[gd]?) : v.cell? ⟨B,0,none⟩ = some (.pointer (some ⟨q,0,none⟩)) /\ v.cell? ⟨B,1,none⟩ = some (.int .i64 a) /\ v.cell? ⟨B,2,none⟩ = some (.int .i64 kk) /\ v.cell? ⟨B,3,none⟩ = some (.int .u64 g) /\ v.heap[gd]? = some (.cells D 89 (0,0)) := by
 have c : ∀ j,v.cell? ⟨B,j,none⟩ = u.cell? ⟨B,j,none⟩ := fun j => World.cell?_of_block (a := ⟨B,j,none⟩) h0
 exact ⟨(c 0).trans h.1,(c 1).trans h.2.1,(c 2).trans h.2.2.1,(c 3).trans h.2.2.2.1,h1.trans h.2.2.2.2⟩
theorem held_below {B gd q : Nat} {a kk g : Int} {D : Array Value} {u v : World} (h : u.cell? ⟨B,0,none⟩ = some (.pointer (some ⟨q,0,none⟩)) /\ u.cell? ⟨B,1,none⟩ = some (.int .i64 a) /\ u.cell? ⟨B,2,none⟩ = some (.int .i64 kk) /\ u.cell? ⟨B,3,none⟩ = some (.int .u64 g) /\ u.heap[gd]? = some (.cells D 89 (0,0)))
   (hb : Below u.heap.size u v) : v.cell? ⟨B,0,none⟩ = some (.pointer (some ⟨q,0,none⟩)) /\ v.cell? ⟨B,1,none⟩ = some (.int .i64 a) /\ v.cell? ⟨B,2,none⟩ = some (.int .i64 kk) /\ v.cell? ⟨B,3,none⟩ = some (.int .u64 g) /\ v.heap[gd]? = some (.cells D 89 (0,0)) :=
 held_of h (hb.block _ (World.block_lt_of_cell? u _ h.1)) (hb.block _ (Array.getElem?_eq_some_iff.1 h.2.2.2.2).1)
theorem info87 : (Tryz.prog.info? 169).map (fun i => (i.zero,i.size,i.bytes)) = some (some (.nilFunc),1,8) := by kernel_rfl
theorem newsW (z : World) (B : Nat) : ∀ (j : Nat) (u : Value),([wrV B] : List Value)[j]? = some u -> (z.alloc (.cells #[wrV B] 169)).cell? ((⟨z.heap.size,0,none⟩ : Addr).add j) = some u := fun j u hj => by
 match j,hj with
 | 0,hj =>
   rw [List.getElem?_cons_zero] at hj
   cases hj
   rw [add_at]
   exact new_cell z #[wrV B] 169 0 rfl
theorem oneW (B : Nat) : ∀ u ∈ ([wrV B] : List Value),u.oneCell' = true := fun u hu => by rw [List.mem_singleton.1 hu]; rfl
set_option maxRecDepth 20000 in
set_option maxHeartbeats 4000000 in
theorem writingText_any (q a : Nat) (kk g : Int) (t : ByteArray) (w : World) (ha : a <= 8192) (ht : t.size <= 1000000) :
   Calls Tryz.prog 110 #[.agg #[.pointer (some ⟨q,0,none⟩),.int .i64 (a : Int),.int .i64 kk,.int .u64 g],.string t] w fun e v =>
     ∃ vS Bs,e = .returned (.func (.func 131) #[] #[.pointer (some ⟨w.heap.size + 1,0,none⟩)]) /\ WT q a kk g t w (nb t.size) vS Bs v := by
 obtain ⟨i0,hi,hz0,hz1,hz2⟩ := info_parts info87
 have HI := hide (And.intro hi (And.intro hz0 (And.intro hz1 hz2)))
 clear hi hz0 hz1 hz2
 have hn : nb t.size <= 4000 := by unfold nb; omega
 have HB := hide (fun u => blocksFor_any t.size u (by omega))
 have HNb : Hid (∀ k,k < nb t.size -> k * 256 <= t.size) := fun k hk => by unfold nb at hk; omega
 have H0 : Hid (WT q a kk g t w 0 (.slice none 0 0) [] ((w.alloc (.cells #[.pointer (some ⟨q,0,none⟩),.int .i64 (a : Int),.int .i64 kk,.int .u64 g] 138)).alloc (.cells #[.slice none 0 0] 195))) := by
   have e1 := heap_alloc_last (w.alloc (.cells #[.pointer (some ⟨q,0,none⟩),.int .i64 (a : Int),.int .i64 kk,.int .u64 g] 138)) (.cells #[.slice none 0 0] 195)
   have s1 : (w.alloc (.cells #[.pointer (some ⟨q,0,none⟩),.int .i64 (a : Int),.int .i64 kk,.int .u64 g] 138)).heap.size = w.heap.size + 1 := by simp
   rw [s1] at e1
   exact ⟨rfl,(Below.heap_alloc _ _ _ (by rw [s1]; omega)).trans (heap_alloc_last w _),e1,World.ownsRow_nil _ _ _ _,fun j hj => (by cases hj),fun j hj => absurd hj (by simp),two_below w _ _⟩
 generalize nb t.size = n at *
 go_enter Tryz.func110,Tryz.ntmps110
 go_wp2_with (go_at_call 115; refine (HB.out _).mono ?_; rintro e w2 ⟨rfl,rfl⟩)
 go_loopw [6,7,11] (fun _ _ i wr => ∃ (k : Nat) (vS : Value) (Bs : List Nat),k <= n /\ i = .int .i64 (k : Int) /\ WT q a kk g t w k vS Bs wr) (fun _ _ i _ => n - (intOf i).toNat)
 case atStart => exact ⟨0,_,_,Nat.zero_le _,rfl,H0.out⟩
 case round =>
   obtain ⟨k,vS,Bs,hk,rfl,hT⟩ := hrel
   have HT := hide hT
   clear hT
   by_cases hlt : k < n
   · have hk2 := HNb.out k hlt
     obtain ⟨lo,hlo⟩ : ∃ lo,lo = k * 256 := ⟨_,rfl⟩
     have hi1 : IntKind.i64.wrap ((k : Int) * 256) = (lo : Int) := by rw [IntKind.wrap_i64]; omega
     have hi2 : IntKind.i64.wrap (1 + (k : Int)) = 1 + (k : Int) := by rw [IntKind.wrap_i64]; omega
     have hj1 : (0 : Int) <= (lo : Int) := by omega
     have hj2 : (lo : Int) <= (t.size : Int) := by omega
     have hcp := copyBlk wr t k
     rw [<- hlo] at hcp
     have hsz := blkT_size t k
     have hU : Below wr.heap.size wr (wr.alloc (.cells (tc (blkT t k)).toArray 89)).drew := (one_below wr _).drew
     have HT1 := hide (HT.out.keep hU)
     have HD : Hid ((wr.alloc (.cells (tc (blkT t k)).toArray 89)).drew.heap[wr.heap.size]? = some (.cells (tc (blkT t k)).toArray 89 (0,0))) := heap_alloc_last wr _
     have HDs : Hid ((Tryz.prog.info? 89).map (·.size) = some (tc (blkT t k)).toArray.size) := by rw [tsize _ hsz]; exact size71b
     have HWr := hide (fun u => writing_any q (a : Int) kk g (1 + (k : Int)) (blkT t k) u hsz (by unfold wrap64; omega))
     have HU := hide hU
     have HSz := hide hsz
     clear hk2 hlo hU hsz
     have hzv := Tryz.zeroValue89
     generalize Tryz.zeroCells89 = Z at *
     go_wp2_with fail
     go_region_law (fail)
     clear hcp hzv
     generalize (wr.alloc (.cells (tc (blkT t k)).toArray 89)).drew = U at *
     have HGe : Hid (w.heap.size + 2 <= U.heap.size) := HT1.out.lt
     generalize hgd : wr.heap.size = gd at *
     have HT2 := hide (HT1.out.keep ((Below.refl _ _).drew))
     obtain ⟨c0,c1,c2,c3,c4⟩ := HT2.out.cells
     have HD2 : Hid (U.drew.heap[gd]? = some (.cells (tc (blkT t k)).toArray 89 (0,0))) := HD.out
     have hkn : k <= 4000 := by omega
     clear hn hgd
     generalize hDD : (tc (blkT t k)).toArray = D at *
     clear hDD
     go_wp2_with fail
     refine wp_region_held_drew (S := fun z => z.cell? ⟨w.heap.size,0,none⟩ = some (.pointer (some ⟨q,0,none⟩)) /\ z.cell? ⟨w.heap.size,1,none⟩ = some (.int .i64 (a : Int)) /\ z.cell? ⟨w.heap.size,2,none⟩ = some (.int .i64 kk) /\ z.cell? ⟨w.heap.size,3,none⟩ = some (.int .u64 g) /\ z.heap[gd]? = some (.cells D 89 (0,0))) (by kernel_rfl) ⟨c1,c2,c3,c4,HD2.out⟩ (fun hHeld => ?_)
     refine takeAt7 1 21 (v := ?v1) rfl rfl (by kernel_rfl) (by kernel_rfl) (by kernel_rfl) (fun _ _ _ h => h) (Or.inl ⟨by rfl,?hy1⟩) (by assumption) ?rest1
     case hy1 => (intro w hSw; (try dsimp only at hSw); go_simp; first | done | with_reducible rfl)
     simp only [List.setIfInBounds_toArray,List.set_cons_succ,List.set_cons_zero]
     refine takeAt7 2 22 (v := ?v2) rfl rfl (by kernel_rfl) (by kernel_rfl) (by kernel_rfl) (fun _ _ _ h => h) (Or.inl ⟨by rfl,?hy2⟩) (by assumption) ?rest2
     case hy2 => (intro w hSw; (try dsimp only at hSw); go_simp; first | done | with_reducible rfl)
     simp only [List.setIfInBounds_toArray,List.set_cons_succ,List.set_cons_zero]
     refine takeAt7 3 23 (v := ?v3) rfl rfl (by kernel_rfl) (by kernel_rfl) (by kernel_rfl) (fun _ _ _ h => h) (Or.inl ⟨by rfl,?hy3⟩) (by assumption) ?rest3
     case hy3 => (intro w hSw; (try dsimp only at hSw); go_simp; first | done | with_reducible rfl)
     simp only [List.setIfInBounds_toArray,List.set_cons_succ,List.set_cons_zero]
     refine takeAt7 4 24 (v := ?v4) rfl rfl (by kernel_rfl) (by kernel_rfl) (by kernel_rfl) (fun _ _ _ h => h) (Or.inl ⟨by rfl,?hy4⟩) (by assumption) ?rest4
     case hy4 => (intro w hSw; (try dsimp only at hSw); refine exec_load_row 89 (.tmp 7) ?_ gd ?_ 89 D (0,0) _ hSw.2.2.2.2 Tryz.underlying89 ?_ HDs.out <;> rfl)
     simp only [List.setIfInBounds_toArray,List.set_cons_succ,List.set_cons_zero]
     refine wpAnyH_ready (rs := [0,5]) (by kernel_rfl) (by simp) ?_
     refine AllReadyH.cons (o := { dst := some 20,op := Op.load 195 (Operand.tmp 5),type := 195,pos := "ckpt.go:134",after := #[],guard := none }) rfl (fun K hK => ?_) (AllReadyH.cons (o := { dst := some 25,op := Op.call { callee := Callee.value (Operand.func 109),args := #[Operand.tmp 21,Operand.tmp 23,Operand.tmp 24],argTypes := #[138,3,89] },type := 169,pos := "ckpt.go:134",after := #[{ on := 1,ground := Ground.data }, { on := 3,ground := Ground.data }, { on := 4,ground := Ground.data }],guard := none }) rfl (fun K hK => ?_) AllReadyH.nil)
     · go_simp
       refine hK.out _ _ hHeld (fun _ => ?_)
       clear hK K
       (try go_frame)
       refine wpAnyH_ready (rs := [5]) (by kernel_rfl) (by simp) ?_
       refine AllReadyH.cons (o := { dst := some 25,op := Op.call { callee := Callee.value (Operand.func 109),args := #[Operand.tmp 21,Operand.tmp 23,Operand.tmp 24],argTypes := #[138,3,89] },type := 169,pos := "ckpt.go:134",after := #[{ on := 1,ground := Ground.data }, { on := 3,ground := Ground.data }, { on := 4,ground := Ground.data }],guard := none }) rfl (fun K hK => ?_) AllReadyH.nil
       go_simp
       refine (HWr.out _).mono ?_
       rintro e z1 ⟨rfl,hwr,hbz,hsz⟩
       have hHeld1 := held_below hHeld hbz
       have HT3 := hide (HT2.out.keep hbz)
       have c01 := HT3.out.cells.1
       have HZ := hide (And.intro hwr (And.intro hbz hsz))
       clear hwr hbz hsz
       go_wp2_with fail
       refine hK.out _ _ hHeld1 (fun _ => ?_)
       clear hK K
       (try go_frame)
       refine wpAnyH_ready (rs := [6]) (by kernel_rfl) (by simp) ?_
       refine AllReadyH.cons (o := { dst := some 26,op := Op.buildSlice 195 1 #[(0,Operand.tmp 25)],type := 195,pos := "ckpt.go:134",after := #[{ on := 5,ground := Ground.data }],guard := none }) rfl (fun K hK => ?_) AllReadyH.nil
       have hHeld2 := held_below hHeld1 (one_below z1 (.cells #[wrV U.heap.size] 169))
       have HT4 := hide (HT3.out.keep (one_below z1 (.cells #[wrV U.heap.size] 169)))
       have c02 := HT4.out.cells.1
       unfold wrV
       go_simp
       change K _ (z1.alloc (.cells #[wrV U.heap.size] 169))
       refine hK.out _ _ hHeld2 (fun _ => ?_)
       clear hK K
       (try go_frame)
       refine wpAnyH_ready (rs := [7]) (by kernel_rfl) (by simp) ?_
       refine AllReadyH.cons (o := { dst := some 27,op := Op.call { callee := Callee.builtin Builtin.append,args := #[Operand.tmp 20,Operand.tmp 26],argTypes := #[195,195] },type := 195,pos := "ckpt.go:134",after := #[{ on := 0,ground := Ground.data }, { on := 6,ground := Ground.data }, { on := 5,ground := Ground.chain }],guard := none }) rfl (fun K hK => ?_) AllReadyH.nil
       refine step_append_lies _ (by rfl) _ _ _ (by rfl) 0 169 i0 (.nilFunc) 1 8 Tryz.underlying195 HI.out.1 HI.out.2.1 HI.out.2.2.1 HI.out.2.2.2 rfl (by decide) vS k _ (by rfl) HT4.out.row ⟨z1.heap.size,0,none⟩ 1 1 [wrV U.heap.size] (by rfl) rfl (newsW _ _) (oneW _) (by decide) (by unfold maxLen; omega) (by omega) (by omega) _ rfl ?_
       intro g2 cap w1 hown hgrow hat hlt1
       obtain ⟨hcw,hfw⟩ := HT3.out.boxAfter hgrow
       obtain ⟨s0,s1,s2,s3⟩ := HT3.out.still hHeld1.2.2.2.2 hgrow (.slice (some ⟨g2,0,none⟩) (k + 1) cap)
       have hHeld3 := held_of hHeld1 s0 s1
       have hHeld4 := held_of hHeld1 s2 s3
       refine K_put (K := K) 27 rfl ?_
       refine hK.out _ _ hHeld3 (fun _ => ?_)
       clear hK K s0 s1 s2 s3
       simp only [List.setIfInBounds_toArray,List.set_cons_succ,List.set_cons_zero]
       refine wpAnyH_ready (rs := [8]) (by kernel_rfl) (by simp) ?_
       refine AllReadyH.cons (o := { dst := none,op := Op.store 195 (Operand.tmp 5) (Operand.tmp 27),type := 0,pos := "ckpt.go:134",after := #[{ on := 7,ground := Ground.data }, { on := 7,ground := Ground.chain }, { on := 0,ground := Ground.phase }, { on := 1,ground := Ground.phase }, { on := 2,ground := Ground.phase }, { on := 3,ground := Ground.phase }, { on := 4,ground := Ground.phase }, { on := 5,ground := Ground.phase }, { on := 6,ground := Ground.phase }, { on := 7,ground := Ground.phase }],guard := none }) rfl (fun K hK => ?_) AllReadyH.nil
       go_simp
       refine hK.out _ _ hHeld4 (fun _ => ?_)
       clear hK K
       refine wpAnyH_done (by kernel_rfl) ?_ _
       obtain ⟨hwr,hbz,hsz⟩ := HZ.out
       have hBd : w.heap.size + 2 <= U.heap.size := HGe.out
       have hcast : (a : Int) + (1 + (k : Int)) = (((a + 1 + k : Nat) : Nat) : Int) := by omega
       rw [hcast] at hwr
       have HN := hide (HT3.out.next hwr hBd hown hgrow (fun j e => by
         cases e
         rcases hat with h1 | h1
         · exact Or.inl h1
         · exact Or.inr (by rw [h1]; simp)))
       clear hwr hbz hsz hBd hcast hown hgrow hat hlt1 hcw hfw hHeld hHeld1 hHeld2 hHeld3 hHeld4 c0 c1 c2 c3 c4 c01 c02
       generalize w1.setCell ⟨w.heap.size + 1,0,none⟩ (.slice (some ⟨g2,0,none⟩) (k + 1) cap) = W9 at *
       go_wp2
       go_roundw
       case rel => exact ⟨k + 1,_,_,hlt,by go_num,HN.out⟩
       case measure => simp [intOf]; omega
     · go_simp
       refine (HWr.out _).mono ?_
       rintro e z1 ⟨rfl,hwr,hbz,hsz⟩
       have hHeld1 := held_below hHeld hbz
       have HT3 := hide (HT2.out.keep hbz)
       have c01 := HT3.out.cells.1
       have HZ := hide (And.intro hwr (And.intro hbz hsz))
       clear hwr hbz hsz
       go_wp2_with fail
       refine hK.out _ _ hHeld1 (fun _ => ?_)
       clear hK K
       (try go_frame)
       refine wpAnyH_ready (rs := [0,6]) (by kernel_rfl) (by simp) ?_
       refine AllReadyH.cons (o := { dst := some 20,op := Op.load 195 (Operand.tmp 5),type := 195,pos := "ckpt.go:134",after := #[],guard := none }) rfl (fun K hK => ?_) (AllReadyH.cons (o := { dst := some 26,op := Op.buildSlice 195 1 #[(0,Operand.tmp 25)],type := 195,pos := "ckpt.go:134",after := #[{ on := 5,ground := Ground.data }],guard := none }) rfl (fun K hK => ?_) AllReadyH.nil)
       · go_simp
         refine hK.out _ _ hHeld1 (fun _ => ?_)
         clear hK K
         (try go_frame)
         refine wpAnyH_ready (rs := [6]) (by kernel_rfl) (by simp) ?_
         refine AllReadyH.cons (o := { dst := some 26,op := Op.buildSlice 195 1 #[(0,Operand.tmp 25)],type := 195,pos := "ckpt.go:134",after := #[{ on := 5,ground := Ground.data }],guard := none }) rfl (fun K hK => ?_) AllReadyH.nil
         have hHeld2 := held_below hHeld1 (one_below z1 (.cells #[wrV U.heap.size] 169))
         have HT4 := hide (HT3.out.keep (one_below z1 (.cells #[wrV U.heap.size] 169)))
         have c02 := HT4.out.cells.1
         unfold wrV
         go_simp
         change K _ (z1.alloc (.cells #[wrV U.heap.size] 169))
         refine hK.out _ _ hHeld2 (fun _ => ?_)
         clear hK K
         (try go_frame)
         refine wpAnyH_ready (rs := [7]) (by kernel_rfl) (by simp) ?_
         refine AllReadyH.cons (o := { dst := some 27,op := Op.call { callee := Callee.builtin Builtin.append,args := #[Operand.tmp 20,Operand.tmp 26],argTypes := #[195,195] },type := 195,pos := "ckpt.go:134",after := #[{ on := 0,ground := Ground.data }, { on := 6,ground := Ground.data }, { on := 5,ground := Ground.chain }],guard := none }) rfl (fun K hK => ?_) AllReadyH.nil
         refine step_append_lies _ (by rfl) _ _ _ (by rfl) 0 169 i0 (.nilFunc) 1 8 Tryz.underlying195 HI.out.1 HI.out.2.1 HI.out.2.2.1 HI.out.2.2.2 rfl (by decide) vS k _ (by rfl) HT4.out.row ⟨z1.heap.size,0,none⟩ 1 1 [wrV U.heap.size] (by rfl) rfl (newsW _ _) (oneW _) (by decide) (by unfold maxLen; omega) (by omega) (by omega) _ rfl ?_
         intro g2 cap w1 hown hgrow hat hlt1
         obtain ⟨hcw,hfw⟩ := HT3.out.boxAfter hgrow
         obtain ⟨s0,s1,s2,s3⟩ := HT3.out.still hHeld1.2.2.2.2 hgrow (.slice (some ⟨g2,0,none⟩) (k + 1) cap)
         have hHeld3 := held_of hHeld1 s0 s1
         have hHeld4 := held_of hHeld1 s2 s3
         refine K_put (K := K) 27 rfl ?_
         refine hK.out _ _ hHeld3 (fun _ => ?_)
         clear hK K s0 s1 s2 s3
         simp only [List.setIfInBounds_toArray,List.set_cons_succ,List.set_cons_zero]
         refine wpAnyH_ready (rs := [8]) (by kernel_rfl) (by simp) ?_
         refine AllReadyH.cons (o := { dst := none,op := Op.store 195 (Operand.tmp 5) (Operand.tmp 27),type := 0,pos := "ckpt.go:134",after := #[{ on := 7,ground := Ground.data }, { on := 7,ground := Ground.chain }, { on := 0,ground := Ground.phase }, { on := 1,ground := Ground.phase }, { on := 2,ground := Ground.phase }, { on := 3,ground := Ground.phase }, { on := 4,ground := Ground.phase }, { on := 5,ground := Ground.phase }, { on := 6,ground := Ground.phase }, { on := 7,ground := Ground.phase }],guard := none }) rfl (fun K hK => ?_) AllReadyH.nil
         go_simp
         refine hK.out _ _ hHeld4 (fun _ => ?_)
         clear hK K
         refine wpAnyH_done (by kernel_rfl) ?_ _
         obtain ⟨hwr,hbz,hsz⟩ := HZ.out
         have hBd : w.heap.size + 2 <= U.heap.size := HGe.out
         have hcast : (a : Int) + (1 + (k : Int)) = (((a + 1 + k : Nat) : Nat) : Int) := by omega
         rw [hcast] at hwr
         have HN := hide (HT3.out.next hwr hBd hown hgrow (fun j e => by
           cases e
           rcases hat with h1 | h1
           · exact Or.inl h1
           · exact Or.inr (by rw [h1]; simp)))
         clear hwr hbz hsz hBd hcast hown hgrow hat hlt1 hcw hfw hHeld hHeld1 hHeld2 hHeld3 hHeld4 c0 c1 c2 c3 c4 c01 c02
         generalize w1.setCell ⟨w.heap.size + 1,0,none⟩ (.slice (some ⟨g2,0,none⟩) (k + 1) cap) = W9 at *
         go_wp2
         go_roundw
         case rel => exact ⟨k + 1,_,_,hlt,by go_num,HN.out⟩
         case measure => simp [intOf]; omega
       · have hHeld2 := held_below hHeld1 (one_below z1 (.cells #[wrV U.heap.size] 169))
         have HT4 := hide (HT3.out.keep (one_below z1 (.cells #[wrV U.heap.size] 169)))
         have c02 := HT4.out.cells.1
         unfold wrV
         go_simp
         change K _ (z1.alloc (.cells #[wrV U.heap.size] 169))
         refine hK.out _ _ hHeld2 (fun _ => ?_)
         clear hK K
         (try go_frame)
         refine wpAnyH_ready (rs := [0]) (by kernel_rfl) (by simp) ?_
         refine AllReadyH.cons (o := { dst := some 20,op := Op.load 195 (Operand.tmp 5),type := 195,pos := "ckpt.go:134",after := #[],guard := none }) rfl (fun K hK => ?_) AllReadyH.nil
         go_simp
         refine hK.out _ _ hHeld2 (fun _ => ?_)
         clear hK K
         (try go_frame)
         refine wpAnyH_ready (rs := [7]) (by kernel_rfl) (by simp) ?_
         refine AllReadyH.cons (o := { dst := some 27,op := Op.call { callee := Callee.builtin Builtin.append,args := #[Operand.tmp 20,Operand.tmp 26],argTypes := #[195,195] },type := 195,pos := "ckpt.go:134",after := #[{ on := 0,ground := Ground.data }, { on := 6,ground := Ground.data }, { on := 5,ground := Ground.chain }],guard := none }) rfl (fun K hK => ?_) AllReadyH.nil
         refine step_append_lies _ (by rfl) _ _ _ (by rfl) 0 169 i0 (.nilFunc) 1 8 Tryz.underlying195 HI.out.1 HI.out.2.1 HI.out.2.2.1 HI.out.2.2.2 rfl (by decide) vS k _ (by rfl) HT4.out.row ⟨z1.heap.size,0,none⟩ 1 1 [wrV U.heap.size] (by rfl) rfl (newsW _ _) (oneW _) (by decide) (by unfold maxLen; omega) (by omega) (by omega) _ rfl ?_
         intro g2 cap w1 hown hgrow hat hlt1
         obtain ⟨hcw,hfw⟩ := HT3.out.boxAfter hgrow
         obtain ⟨s0,s1,s2,s3⟩ := HT3.out.still hHeld1.2.2.2.2 hgrow (.slice (some ⟨g2,0,none⟩) (k + 1) cap)
         have hHeld3 := held_of hHeld1 s0 s1
         have hHeld4 := held_of hHeld1 s2 s3
         refine K_put (K := K) 27 rfl ?_
         refine hK.out _ _ hHeld3 (fun _ => ?_)
         clear hK K s0 s1 s2 s3
         simp only [List.setIfInBounds_toArray,List.set_cons_succ,List.set_cons_zero]
         refine wpAnyH_ready (rs := [8]) (by kernel_rfl) (by simp) ?_
         refine AllReadyH.cons (o := { dst := none,op := Op.store 195 (Operand.tmp 5) (Operand.tmp 27),type := 0,pos := "ckpt.go:134",after := #[{ on := 7,ground := Ground.data }, { on := 7,ground := Ground.chain }, { on := 0,ground := Ground.phase }, { on := 1,ground := Ground.phase }, { on := 2,ground := Ground.phase }, { on := 3,ground := Ground.phase }, { on := 4,ground := Ground.phase }, { on := 5,ground := Ground.phase }, { on := 6,ground := Ground.phase }, { on := 7,ground := Ground.phase }],guard := none }) rfl (fun K hK => ?_) AllReadyH.nil
         go_simp
         refine hK.out _ _ hHeld4 (fun _ => ?_)
         clear hK K
         refine wpAnyH_done (by kernel_rfl) ?_ _
         obtain ⟨hwr,hbz,hsz⟩ := HZ.out
         have hBd : w.heap.size + 2 <= U.heap.size := HGe.out
         have hcast : (a : Int) + (1 + (k : Int)) = (((a + 1 + k : Nat) : Nat) : Int) := by omega
         rw [hcast] at hwr
         have HN := hide (HT3.out.next hwr hBd hown hgrow (fun j e => by
           cases e
           rcases hat with h1 | h1
           · exact Or.inl h1
           · exact Or.inr (by rw [h1]; simp)))
         clear hwr hbz hsz hBd hcast hown hgrow hat hlt1 hcw hfw hHeld hHeld1 hHeld2 hHeld3 hHeld4 c0 c1 c2 c3 c4 c01 c02
         generalize w1.setCell ⟨w.heap.size + 1,0,none⟩ (.slice (some ⟨g2,0,none⟩) (k + 1) cap) = W9 at *
         go_wp2
         go_roundw
         case rel => exact ⟨k + 1,_,_,hlt,by go_num,HN.out⟩
         case measure => simp [intOf]; omega
   · have hke : k = n := by omega
     subst hke
     have hz : ¬ ((k : Int) < (k : Int)) := by omega
     clear hlt hk hn
     go_wp2
     go_ret
     exact ⟨rfl,vS,Bs,HT.out⟩
theorem act_sync (u : World) (q m : Nat) (K : Nat -> Prop) : ActAt u q K (.func (.func 54) #[.pointer (some ⟨q,0,none⟩)] #[]) St.sync m := by
 refine ⟨Or.inr (Or.inl ⟨q,rfl⟩),fun st F w _ _ hD _ hok hm n a e => ?_,fun st hok => ⟨hok.sync,?_⟩⟩
 · cases e
   exact con.sync q st F w hD hok (by omega)
 · unfold St.sync
   split
   · show st.loose.length <= _; omega
   · show 0 <= _; omega
theorem write_few (st : St) (b : Int) (d : ByteArray) : (st.write b d).2.loose.length <= st.loose.length + 1 := by
 unfold St.write
 split
 · show st.loose.length <= _; omega
 · split
   · show st.loose.length <= _; omega
   · split
     · show st.loose.length <= _; omega
     · show (st.loose ++ [_]).length <= _; simp
theorem act_write (u : World) (q B m : Nat) (K : Nat -> Prop) (b : Int) (d : ByteArray) (h : WrAt u B q b d) (hK : K B /\ K (B + 1) /\ K (B + 1 + 1)) (hm : 1 <= m) (hb : -9223372036854775808 <= b /\ b <= 9223372036854775807) : ActAt u q K (wrV B) (fun s => s.write b d) m := by
 refine ⟨Or.inl ⟨B,rfl⟩,fun st F w _ hk hD _ hok hl n a e => ?_,fun st hok => ⟨hok.write b d,Nat.le_trans (write_few st b d) (by omega)⟩⟩
 cases e
 exact writing1_any B q b d st F w (h.same (hk _ hK.1) (hk _ hK.2.1) (hk _ hK.2.2)) hD hok (by omega) hb
theorem ActAt.more {u : World} {q m m' : Nat} {K K' : Nat -> Prop} {v : Value} {f : St -> Nat × St} (h : ActAt u q K v f m) (hK : ∀ k,K k -> K' k) (hm : m <= m') : ActAt u q K' v f m' :=
 ⟨h.form,fun st F w hs hk hD hF hok hl => h.calls st F w hs (fun k kk => hk k (hK k kk)) hD (fun k kk => hF k (hK k kk)) hok (by omega),fun st hok => ⟨(h.ok st hok).1,Nat.le_trans (h.ok st hok).2 (by omega)⟩⟩
def wrs (o : Nat) (t : ByteArray) (i n : Nat) : List (St -> Nat × St) := (List.range' i n).map fun j => fun s => s.write ((o + j : Nat) : Int) (blkT t j)
theorem runs_wrs (o : Nat) (t : ByteArray) : ∀ (n i : Nat) (st : St),runs (wrs o t i n) st = putsT o t n i st
 | 0,_,_ => rfl
 | n + 1,i,st => by
   unfold wrs
   rw [List.range'_succ,List.map_cons]
   show andT _ (runs _) = andT _ _
   congr 1
   funext s
   exact runs_wrs o t n (i + 1) s
theorem putsT_ok (o : Nat) (t : ByteArray) : ∀ (n i : Nat) (st : St),st.Ok -> (putsT o t n i st).2.Ok /\ (putsT o t n i st).2.loose.length <= st.loose.length + n
 | 0,_,st,h => ⟨h,Nat.le_refl _⟩
 | n + 1,i,st,h => by
   have h1 := h.write ((o + i : Nat) : Int) (blkT t i)
   have h2 := write_few st ((o + i : Nat) : Int) (blkT t i)
   show (andT (st.write ((o + i : Nat) : Int) (blkT t i)) (putsT o t n (i + 1))).2.Ok /\ (andT (st.write ((o + i : Nat) : Int) (blkT t i)) (putsT o t n (i + 1))).2.loose.length <= _
   unfold andT
   split
   · have h3 := putsT_ok o t n (i + 1) _ h1
     exact ⟨h3.1,by omega⟩
   · exact ⟨h1,by omega⟩
set_option maxRecDepth 10000 in
set_option maxHeartbeats 1000000 in
theorem inOrder_none (w : World) : Calls Tryz.prog 108 #[.slice none 0 0] w fun e v => e = .returned (.int .i64 0) /\ v = w := by
 go_enter Tryz.func108,Tryz.ntmps108
 go_wp2_with fail
 go_loopw [4,5,8] (fun d e i wr => i = .int .i64 0 /\ wr = w) (fun _ _ i _ => 0)
 case atStart => exact ⟨rfl,rfl⟩
 case round =>
   obtain ⟨rfl,hw⟩ := hrel
   obtain rfl := hw.symm
   go_wp2
   go_ret
   exact ⟨rfl,rfl⟩
set_option maxRecDepth 10000 in
set_option maxHeartbeats 1000000 in
theorem text1_any (p q o : Nat) (t : ByteArray) (vS : Value) (Bs : List Nat) (st : St) (F : Nat -> Prop) (w : World) (hn : Bs.length <= 4000) (ho : o <= 9000) (hbox : w.cell? ⟨p,0,none⟩ = some vS) (hrow : w.ownsRow 0 169 1 vS Bs.length (Bs.map wrV)) (hvF : ∀ j,vS.ownBlock = some j -> ¬ F j)
   (hacts : ∀ j (hj : j < Bs.length),WrAt w Bs[j] q (((o + j : Nat) : Nat) : Int) (blkT t j) /\ ¬ F Bs[j] /\ ¬ F (Bs[j] + 1) /\ ¬ F (Bs[j] + 1 + 1)) (hD : DAt w q st F) (hok : st.Ok) (hm : st.loose.length + Bs.length <= 10000) :
   Calls Tryz.prog 131 #[.pointer (some ⟨p,0,none⟩)] w fun e v => e = .returned (.int .i64 (((putsT o t Bs.length 0 st).1 : Nat) : Int)) /\ ∃ F',DAt v q (putsT o t Bs.length 0 st).2 F' /\ Loc F F' w v := by
 have KC : Hid (Calls Tryz.prog 108 #[vS] w fun e v => e = .returned (.int .i64 (((putsT o t Bs.length 0 st).1 : Nat) : Int)) /\ ∃ F',DAt v q (putsT o t Bs.length 0 st).2 F' /\ Loc F F' w v) := by
   rcases hrow.2 with ⟨rfl,h0⟩ | ⟨g,cap,cur,rfl,hg,hh,hc,hx⟩
   · rw [h0]
     refine (inOrder_none w).mono ?_
     rintro e v ⟨rfl,rfl⟩
     exact ⟨rfl,F,hD,Loc.refl _ _⟩
   · rw [<- runs_wrs]
     have hlen : (Bs.map wrV).length = Bs.length := List.length_map ..
     have hK : ∀ k,(∃ j, ∃ hj : j < Bs.length,k = Bs[j] \/ k = Bs[j] + 1 \/ k = Bs[j] + 1 + 1) -> k < w.heap.size /\ ¬ F k := by
       rintro k ⟨j,hj,hk⟩
       obtain ⟨h1,h2,h3,h4⟩ := hacts j hj
       have := h1.lt
       rcases hk with rfl | rfl | rfl
       · exact ⟨by omega,h2⟩
       · exact ⟨by omega,h3⟩
       · exact ⟨by omega,h4⟩
     have := inOrder_any q g 0 cap 1 (Bs.map wrV) (wrs o t 0 Bs.length) (fun k => ∃ j, ∃ hj : j < Bs.length,k = Bs[j] \/ k = Bs[j] + 1 \/ k = Bs[j] + 1 + 1) st F w (by unfold wrs; simp) (by rw [hlen]; omega)
       (fun j hj => by
         have hx := World.ownsRow.cells hrow (g := g) rfl j (Bs.map wrV)[j] (List.getElem?_eq_getElem hj)
         rw [add_at] at hx
         rw [Nat.zero_add]
         exact hx) (own_lt hrow rfl) (hvF g rfl)
       (fun j hj hf => by
         have hj2 : j < Bs.length := by rw [hlen] at hj; exact hj
         have e1 : (Bs.map wrV)[j] = wrV Bs[j] := List.getElem_map ..
         have e2 : (wrs o t 0 Bs.length)[j] = fun s => s.write ((o + j : Nat) : Int) (blkT t j) := by unfold wrs; simp
         rw [e1,e2]
         exact act_write w q Bs[j] 1 _ _ _ (hacts j hj2).1 ⟨⟨j,hj2,Or.inl rfl⟩,⟨j,hj2,Or.inr (Or.inl rfl)⟩,⟨j,hj2,Or.inr (Or.inr rfl)⟩⟩ (Nat.le_refl _) (by omega)) hD hok hK (by rw [hlen]; omega)
     rw [hlen] at this
     exact this
 clear hrow hacts hvF
 go_enter Tryz.func131,Tryz.ntmps131
 go_wp2_with fail
 refine KC.out.mono ?_
 rintro e w1 ⟨rfl,F1,h1,l1⟩
 go_wp2
 go_ret
 exact ⟨rfl,F1,h1,l1⟩
theorem act_text (u : World) (p q o m : Nat) (t : ByteArray) (vS : Value) (Bs : List Nat) (K : Nat -> Prop) (hn : Bs.length <= 4000) (ho : o <= 9000) (hbox : u.cell? ⟨p,0,none⟩ = some vS) (hrow : u.ownsRow 0 169 1 vS Bs.length (Bs.map wrV))
   (hK : K p /\ (∀ j,vS.ownBlock = some j -> K j) /\ ∀ j (hj : j < Bs.length),K Bs[j] /\ K (Bs[j] + 1) /\ K (Bs[j] + 1 + 1)) (hacts : ∀ j (hj : j < Bs.length),WrAt u Bs[j] q (((o + j : Nat) : Nat) : Int) (blkT t j)) (hm : Bs.length <= m) :
   ActAt u q K (.func (.func 131) #[] #[.pointer (some ⟨p,0,none⟩)]) (putsT o t Bs.length 0) m := by
 refine ⟨Or.inr (Or.inr ⟨p,rfl⟩),fun st F w _ hk hD hKF hok hl n a e => ?_,fun st hok => ⟨(putsT_ok o t _ 0 st hok).1,Nat.le_trans (putsT_ok o t _ 0 st hok).2 (by omega)⟩⟩
 cases e
 refine text1_any p q o t vS Bs st F w hn ho ((World.cell?_of_block (a := ⟨p,0,none⟩) (hk _ hK.1)).trans hbox) (own_same hrow (fun j hj => hk j (hK.2.1 j hj))) (fun j hj => hKF j (hK.2.1 j hj)) (fun j hj => ?_) hD hok (by omega)
 obtain ⟨k1,k2,k3⟩ := hK.2.2 j hj
 exact ⟨(hacts j hj).same (hk _ k1) (hk _ k2) (hk _ k3),hKF _ k1,hKF _ k2,hKF _ k3⟩
theorem exec_build {P : Program} {ev : Operand -> Value} {o : Oper} {w : World} (t : TypeId) (parts : Array (Nat × Operand)) (ho : o.op = .build t parts) (cells : Array Value) (hb : P.built t (parts.map fun (i,x) => (i,ev x)).toList = some cells) :
   (execOp ev o).run P w = .ok (.value (.agg cells)) w := by
 unfold execOp
 simp only [ho,Sem.run_bind,run_build w t _ cells hb,Result.andThen_ok]
 rfl
theorem exec_build0 {P : Program} {ev : Operand -> Value} {o : Oper} {w : World} (t : TypeId) (ho : o.op = .build t #[]) (cells : Array Value) (hb : P.built t [] = some cells) :
   (execOp ev o).run P w = .ok (.value (.agg cells)) w := exec_build t #[] ho cells (by simpa using hb)
theorem andT_assoc (x : Nat × St) (f g : St -> Nat × St) : andT (andT x f) g = andT x (fun s => andT (f s) g) := by
 by_cases h : x.1 = 0
 · have e : ∀ k : St -> Nat × St,andT x k = k x.2 := fun k => by unfold andT; rw [if_pos h]
   rw [e,e]
 · have e : ∀ k : St -> Nat × St,andT x k = x := fun k => by unfold andT; rw [if_neg h]
   rw [e,e,e]
theorem andT_end (x : Nat × St) : andT x (fun s => (0,s)) = x := by
 by_cases h : x.1 = 0
 · unfold andT; rw [if_pos h]; exact Prod.ext h.symm rfl
 · unfold andT; rw [if_neg h]
def six (a gen : Nat) (t : ByteArray) : List (St -> Nat × St) := [fun s => s.write (a : Int) zblock,St.sync,putsT (a + 1) t (nb t.size) 0,St.sync,fun s => s.write (a : Int) (headT gen t),St.sync]
theorem runs_six (a gen : Nat) (t : ByteArray) (st : St) : runs (six a gen t) st = saveAt a gen t st := by
 unfold six saveAt
 simp only [runs,andT_assoc,andT_end]
theorem zbuilt : Tryz.prog.built 171 [] = some Tryz.zeroCells171 := by kernel_rfl
theorem z89_tc : Tryz.zeroCells171 = (tc zblock).toArray := by rw [z89_eq]; rfl
def syV (q : Nat) : Value := .func (.func 54) #[.pointer (some ⟨q,0,none⟩)] #[]
def txV (p : Nat) : Value := .func (.func 131) #[] #[.pointer (some ⟨p,0,none⟩)]
set_option maxRecDepth 10000 in
set_option maxHeartbeats 1000000 in
theorem six_any (q a gen : Nat) (kk gi : Int) (t : ByteArray) (st : St) (F : Nat -> Prop) (w U z1 z2 z3 z4 : World) (vS : Value) (Bs : List Nat) (hD : DAt w q st F) (hok : st.Ok) (hl : st.loose.length + 3000 <= 10000) (ha : a <= 8192) (hn : nb t.size <= 391)
   (hU : Below w.heap.size w U) (h1 : WrAt z1 U.heap.size q ((a : Int) + 0) zblock /\ Below U.heap.size U z1 /\ z1.heap.size = U.heap.size + 3) (hT : WT q a kk gi t z1 (nb t.size) vS Bs z2) (h3 : Below z2.heap.size z2 z3)
   (h4 : WrAt z4 z3.heap.size q ((a : Int) + 0) (headT gen t) /\ Below z3.heap.size z3 z4 /\ z4.heap.size = z3.heap.size + 3) :
   Calls Tryz.prog 108 #[.slice (some ⟨z4.heap.size,0,none⟩) 6 6] (z4.alloc (.cells #[wrV U.heap.size,syV q,txV (z1.heap.size + 1),syV q,wrV z3.heap.size,syV q] 169)) fun e v =>
     e = .returned (.int .i64 (((saveAt a gen t st).1 : Nat) : Int)) /\ (∃ F',DAt v q (saveAt a gen t st).2 F' /\ Loc F F' w v) /\ (∀ k,w.heap.size <= k -> k < z4.heap.size -> v.heap[k]? = z4.heap[k]?) := by
 obtain ⟨r1,b1,s1⟩ := h1
 obtain ⟨r4,b4,s4⟩ := h4
 have b2 : Below z1.heap.size z1 z2 := hT.below
 have hlt := hT.lt
 have l2 := b2.size
 have l3 := h3.size
 have l4 := b4.size
 have lU := hU.size
 have b5 : Below z4.heap.size z4 (z4.alloc (.cells #[wrV U.heap.size,syV q,txV (z1.heap.size + 1),syV q,wrV z3.heap.size,syV q] 169)) := one_below z4 _
 have l5 : (z4.alloc (.cells #[wrV U.heap.size,syV q,txV (z1.heap.size + 1),syV q,wrV z3.heap.size,syV q] 169)).heap.size = z4.heap.size + 1 := by simp
 have hc := fun i v h => new_cell z4 #[wrV U.heap.size,syV q,txV (z1.heap.size + 1),syV q,wrV z3.heap.size,syV q] 169 i (v := v) h
 rw [<- runs_six]
 generalize z4.alloc (.cells #[wrV U.heap.size,syV q,txV (z1.heap.size + 1),syV q,wrV z3.heap.size,syV q] 169) = z5 at *
 have k45 := b5
 have k35 : Below z3.heap.size z3 z5 := b4.trans (b5.mono (by omega))
 have k25 : Below z2.heap.size z2 z5 := h3.trans (k35.mono (by omega))
 have k15 : Below z1.heap.size z1 z5 := b2.trans (k25.mono (by omega))
 have kw : Below w.heap.size w z5 := (hU.trans (b1.mono (by omega))).trans (k15.mono (by omega))
 have hT5 := hT.keep k25
 have hF := con.lt hD
 have hcast : (a : Int) + 0 = ((a : Nat) : Int) := by omega
 rw [hcast] at r1 r4
 have hact : ∀ j (hj : j < [wrV U.heap.size,syV q,txV (z1.heap.size + 1),syV q,wrV z3.heap.size,syV q].length) (hf : j < (six a gen t).length),ActAt z5 q (fun k => U.heap.size <= k /\ k < z4.heap.size) [wrV U.heap.size,syV q,txV (z1.heap.size + 1),syV q,wrV z3.heap.size,syV q][j] (six a gen t)[j] (nb t.size + 1) := by
   intro j hj hf
   have hj6 : j < 6 := hj
   rcases (by omega : j = 0 \/ j = 1 \/ j = 2 \/ j = 3 \/ j = 4 \/ j = 5) with rfl | rfl | rfl | rfl | rfl | rfl
   · show ActAt z5 q _ (wrV U.heap.size) (fun s => s.write (a : Int) zblock) _
     exact act_write z5 q U.heap.size _ _ _ _ (r1.below k15) ⟨by omega,by omega,by omega⟩ (by omega) (by omega)
   · exact act_sync z5 q _ _
   · show ActAt z5 q _ (txV (z1.heap.size + 1)) (putsT (a + 1) t (nb t.size) 0) _
     have hrow := hT5.row
     have hacts := hT.acts
     have hacts5 := hT5.acts
     have hlen := hT.len
     have hnew := hT.new
     have hr2 := hT.row
     rw [<- hlen] at hrow hr2 ⊢
     exact act_text z5 (z1.heap.size + 1) q (a + 1) _ t vS Bs _ (by omega) (by omega) hT5.cells.1 hrow ⟨⟨by omega,by omega⟩,fun j hj => ⟨by have := hnew j hj; omega,by have := own_lt hr2 hj; omega⟩,fun j hj => by
       obtain ⟨x1,x2⟩ := hacts j hj
       have := x1.lt
       exact ⟨⟨by omega,by omega⟩,⟨by omega,by omega⟩,⟨by omega,by omega⟩⟩⟩ (fun j hj => (hacts5 j hj).1) (by omega)
   · exact act_sync z5 q _ _
   · show ActAt z5 q _ (wrV z3.heap.size) (fun s => s.write (a : Int) (headT gen t)) _
     exact act_write z5 q z3.heap.size _ _ _ _ (r4.below k45) ⟨by omega,by omega,by omega⟩ (by omega) (by omega)
   · exact act_sync z5 q _ _
 have := inOrder_any q z4.heap.size 0 6 (nb t.size + 1) [wrV U.heap.size,syV q,txV (z1.heap.size + 1),syV q,wrV z3.heap.size,syV q] (six a gen t) (fun k => U.heap.size <= k /\ k < z4.heap.size) st F z5 rfl (by show 6 <= 5000; omega)
   (fun j hj => by
     have hj6 : j < 6 := hj
     rw [Nat.zero_add]
     rcases (by omega : j = 0 \/ j = 1 \/ j = 2 \/ j = 3 \/ j = 4 \/ j = 5) with rfl | rfl | rfl | rfl | rfl | rfl <;> exact hc _ _ rfl) (by omega) (fun hf => by have := hF _ hf; omega) hact
   (con.same hD (fun k hk => kw.block k (hF k hk))) hok (fun k hk => ⟨by omega,fun hf => by have := hF k hf; omega⟩) (by show st.loose.length + 6 * (nb t.size + 1) <= 10000; omega)
 refine this.mono ?_
 rintro e v ⟨he,F',h6,l6⟩
 exact ⟨he,⟨F',h6,(Loc.of_below F kw).trans l6⟩,fun k hk hk4 => (l6.block k (by omega) (fun hf => by have := hF k hf; omega)).trans (k45.block k hk4)⟩
set_option maxRecDepth 20000 in
set_option maxHeartbeats 4000000 in
theorem save_in (q a kk : Nat) (o n : Int) (gen : Nat) (t : ByteArray) (st : St) (F : Nat -> Prop) (w : World) (r : Int) (hD : DAt w q st F) (hok : st.Ok) (hl : st.loose.length + 3000 <= 10000) (hg : 1 <= gen /\ gen <= 4611686018427387904) (hr : (t.size : Int) <= r) (gi : Int) (ha : a <= 8192) (ht : t.size <= 100000)
   (hF : ∀ u,Below w.heap.size w u -> Calls Tryz.prog 81 #[.agg #[.pointer (some ⟨q,0,none⟩),.int .i64 o,.int .i64 n]] u fun e v => e = .returned (.int .i64 0) /\ Below u.heap.size u v)
   (hR : ∀ u,Calls Tryz.prog 87 #[.int .i64 n] u fun e v => e = .returned (.int .i64 r) /\ v = u)
   (hS : ∀ u,Calls Tryz.prog 82 #[.agg #[.pointer (some ⟨q,0,none⟩),.int .i64 o,.int .i64 n],.int .u64 (gen : Int)] u fun e v => e = .returned (.agg #[.pointer (some ⟨q,0,none⟩),.int .i64 (a : Int),.int .i64 (kk : Int),.int .u64 gi]) /\ Below u.heap.size u v) :
   Calls Tryz.prog 80 #[.pointer (some ⟨q,0,none⟩),.int .i64 o,.int .i64 n,.int .u64 (gen : Int),.string t] w fun e v => e = .returned (.int .i64 (((saveAt a gen t st).1 : Nat) : Int)) /\ ∃ F',DAt v q (saveAt a gen t st).2 F' /\ Loc F F' w v := by
 have HF := hide hF
 have HR := hide hR
 have HS := hide hS
 have hd : decide (1 <= gen /\ gen <= 4611686018427387904) = true := decide_eq_true hg
 have HM : Hid (∀ u,Calls Tryz.prog 107 #[.int .u64 (gen : Int)] u fun e w' => e = .returned (.bool true) /\ w' = u) := fun u => by
   have := mayBe_any gen u
   rw [hd] at this
   exact this
 have HC : Hid (∀ v,Below (w.alloc (.cells #[.pointer (some ⟨q,0,none⟩),.int .i64 o,.int .i64 n] 134)).heap.size (w.alloc (.cells #[.pointer (some ⟨q,0,none⟩),.int .i64 o,.int .i64 n] 134)) v -> v.cell? ⟨w.heap.size,0,none⟩ = some (.pointer (some ⟨q,0,none⟩)) /\ v.cell? ⟨w.heap.size,1,none⟩ = some (.int .i64 o) /\ v.cell? ⟨w.heap.size,2,none⟩ = some (.int .i64 n)) := fun v hv => by
   have hlt : w.heap.size < (w.alloc (.cells #[.pointer (some ⟨q,0,none⟩),.int .i64 o,.int .i64 n] 134)).heap.size := by simp
   exact ⟨(kept_cell hv _ 0 hlt).trans (new_cell w _ 134 0 rfl),(kept_cell hv _ 1 hlt).trans (new_cell w _ 134 1 rfl),(kept_cell hv _ 2 hlt).trans (new_cell w _ 134 2 rfl)⟩
 clear hF hR hS hd
 go_enter Tryz.func80,Tryz.ntmps80
 go_wp2_with (first
   | (go_at_call 81; refine (HF.out _ (one_below w _)).mono ?_; rintro e w1 ⟨rfl,hb1⟩; obtain ⟨d0,d1,d2⟩ := HC.out _ hb1)
   | (go_at_call 107; refine (HM.out _).mono ?_; rintro e w2 ⟨rfl,rfl⟩)
   | (go_at_call 87; refine (HR.out _).mono ?_; rintro e w2 ⟨rfl,rfl⟩)
   | (go_at_call 82; refine (HS.out _).mono ?_; rintro e w3 ⟨rfl,hb3⟩))
 have HBU : Hid (Below w.heap.size w (w3.alloc (.cells #[.pointer (some ⟨q,0,none⟩),.int .i64 (a : Int),.int .i64 (kk : Int),.int .u64 gi] 138))) := by
   have h1 := (one_below w (.cells #[.pointer (some ⟨q,0,none⟩),.int .i64 o,.int .i64 n] 134))
   have h2 := bnext h1 hb1
   have h3 := bnext h2 hb3
   exact bnext h3 (one_below w3 _)
 have HSl := hide (heap_alloc_last w3 (.cells #[.pointer (some ⟨q,0,none⟩),.int .i64 (a : Int),.int .i64 (kk : Int),.int .u64 gi] 138))
 have HGe : Hid (w.heap.size <= w3.heap.size) := by
   have h1 := (one_below w (.cells #[.pointer (some ⟨q,0,none⟩),.int .i64 o,.int .i64 n] 134))
   exact (bnext (bnext h1 hb1) hb3).size
 have hszb : w3.heap.size < (w3.alloc (.cells #[.pointer (some ⟨q,0,none⟩),.int .i64 (a : Int),.int .i64 (kk : Int),.int .u64 gi] 138)).heap.size := by simp
 clear HF HR HS HM HC d0 d1 d2 hb1 hb3 hr
 generalize w3.alloc (.cells #[.pointer (some ⟨q,0,none⟩),.int .i64 (a : Int),.int .i64 (kk : Int),.int .u64 gi] 138) = U at *
 generalize w3.heap.size = B4 at *
 have HD := hide hD
 have HOk := hide hok
 have hF := con.lt hD
 have HFl := hide hF
 have hsz84 : (Tryz.prog.info? 138).map (·.size) = some (#[.pointer (some ⟨q,0,none⟩),.int .i64 (a : Int),.int .i64 (kk : Int),.int .u64 gi] : Array Value).size := by kernel_rfl
 have HW1 := hide (fun u => writing_any q (a : Int) (kk : Int) gi 0 zblock u zblock_size (by unfold wrap64; omega))
 have HW2 := hide (fun u => writingText_any q a (kk : Int) gi t u ha (by omega))
 have HW3 := hide (fun u => headOf_any gen t u (by omega))
 have HW4 := hide (fun u => writing_any q (a : Int) (kk : Int) gi 0 (headT gen t) u (headT_size gen t) (by unfold wrap64; omega))
 have hzb := zbuilt
 rw [z89_tc] at hzb
 have HZB := hide hzb
 have HRun := hide (runs_six a gen t st)
 have hnb : nb t.size <= 391 := by unfold nb; omega
 have HNb := hide hnb
 have HHl := hide hl
 have HAa := hide ha
 clear hD hok hF hl hg ha ht hzb hnb
 generalize hZB : (tc zblock).toArray = ZB at *
 clear hZB
 generalize hHB : (tc (headT gen t)).toArray = HB at *
 clear hHB
 refine wp_region_held_drew (S := fun z => z.heap[B4]? = some (.cells #[.pointer (some ⟨q,0,none⟩),.int .i64 (a : Int),.int .i64 (kk : Int),.int .u64 gi] 138 (0,0))) (by kernel_rfl) HSl.out (fun hHeld => ?_)
 refine takeAt7 0 37 (v := ?v0) rfl rfl (by kernel_rfl) (by kernel_rfl) (by kernel_rfl) (fun _ _ _ h => h) (Or.inl ⟨by rfl,?hy0⟩) (by assumption) ?rest0
 case hy0 => (intro w hSw; (try dsimp only at hSw); refine exec_load_row 138 (.tmp 13) ?_ B4 ?_ 138 _ (0,0) _ hSw Tryz.underlying138 ?_ hsz84 <;> rfl)
 simp only [List.setIfInBounds_toArray,List.set_cons_succ,List.set_cons_zero]
 refine takeAt7 1 38 (v := ?v1) rfl rfl (by kernel_rfl) (by kernel_rfl) (by kernel_rfl) (fun _ _ _ h => h) (Or.inl ⟨by rfl,?hy1⟩) (by assumption) ?rest1
 case hy1 => (intro w hSw; refine exec_build0 171 ?_ ZB HZB.out; rfl)
 simp only [List.setIfInBounds_toArray,List.set_cons_succ,List.set_cons_zero]
 refine takeAt7 3 40 (v := ?v3) rfl rfl (by kernel_rfl) (by kernel_rfl) (by kernel_rfl) (fun _ _ _ h => h) (Or.inl ⟨by rfl,?hy3⟩) (by assumption) ?rest3
 case hy3 => (intro w hSw; (try dsimp only at hSw); go_simp; first | done | with_reducible rfl)
 simp only [List.setIfInBounds_toArray,List.set_cons_succ,List.set_cons_zero]
 refine takeAt7 4 41 (v := ?v4) rfl rfl (by kernel_rfl) (by kernel_rfl) (by kernel_rfl) (fun _ _ _ h => h) (Or.inl ⟨by rfl,?hy4⟩) (by assumption) ?rest4
 case hy4 => (intro w hSw; (try dsimp only at hSw); go_simp; first | done | with_reducible rfl)
 simp only [List.setIfInBounds_toArray,List.set_cons_succ,List.set_cons_zero]
 refine takeAt7 5 42 (v := ?v5) rfl rfl (by kernel_rfl) (by kernel_rfl) (by kernel_rfl) (fun _ _ _ h => h) (Or.inl ⟨by rfl,?hy5⟩) (by assumption) ?rest5
 case hy5 => (intro w hSw; (try dsimp only at hSw); refine exec_load_row 138 (.tmp 13) ?_ B4 ?_ 138 _ (0,0) _ hSw Tryz.underlying138 ?_ hsz84 <;> rfl)
 simp only [List.setIfInBounds_toArray,List.set_cons_succ,List.set_cons_zero]
 refine takeAt7 6 43 (v := ?v6) rfl rfl (by kernel_rfl) (by kernel_rfl) (by kernel_rfl) (fun _ _ _ h => h) (Or.inl ⟨by rfl,?hy6⟩) (by assumption) ?rest6
 case hy6 => (intro w hSw; (try dsimp only at hSw); go_simp; first | done | with_reducible rfl)
 simp only [List.setIfInBounds_toArray,List.set_cons_succ,List.set_cons_zero]
 refine takeAt7 8 45 (v := ?v8) rfl rfl (by kernel_rfl) (by kernel_rfl) (by kernel_rfl) (fun _ _ _ h => h) (Or.inl ⟨by rfl,?hy8⟩) (by assumption) ?rest8
 case hy8 => (intro w hSw; (try dsimp only at hSw); go_simp; first | done | with_reducible rfl)
 simp only [List.setIfInBounds_toArray,List.set_cons_succ,List.set_cons_zero]
 refine takeAt7 9 46 (v := ?v9) rfl rfl (by kernel_rfl) (by kernel_rfl) (by kernel_rfl) (fun _ _ _ h => h) (Or.inl ⟨by rfl,?hy9⟩) (by assumption) ?rest9
 case hy9 => (intro w hSw; (try dsimp only at hSw); go_simp; first | done | with_reducible rfl)
 simp only [List.setIfInBounds_toArray,List.set_cons_succ,List.set_cons_zero]
 refine takeAt7 10 47 (v := ?v10) rfl rfl (by kernel_rfl) (by kernel_rfl) (by kernel_rfl) (fun _ _ _ h => h) (Or.inl ⟨by rfl,?hy10⟩) (by assumption) ?rest10
 case hy10 => (intro w hSw; (try dsimp only at hSw); refine exec_load_row 138 (.tmp 13) ?_ B4 ?_ 138 _ (0,0) _ hSw Tryz.underlying138 ?_ hsz84 <;> rfl)
 simp only [List.setIfInBounds_toArray,List.set_cons_succ,List.set_cons_zero]
 refine takeAt7 11 48 (v := ?v11) rfl rfl (by kernel_rfl) (by kernel_rfl) (by kernel_rfl) (fun _ _ _ h => h) (Or.inl ⟨by rfl,?hy11⟩) (by assumption) ?rest11
 case hy11 => (intro w hSw; (try dsimp only at hSw); go_simp; first | done | with_reducible rfl)
 simp only [List.setIfInBounds_toArray,List.set_cons_succ,List.set_cons_zero]
 refine takeAt7 12 49 (v := ?v12) rfl rfl (by kernel_rfl) (by kernel_rfl) (by kernel_rfl) (fun _ _ _ h => h) (Or.inl ⟨by rfl,?hy12⟩) (by assumption) ?rest12
 case hy12 => (intro w hSw; (try dsimp only at hSw); go_simp; first | done | with_reducible rfl)
 simp only [List.setIfInBounds_toArray,List.set_cons_succ,List.set_cons_zero]
 refine takeAt7 15 52 (v := ?v15) rfl rfl (by kernel_rfl) (by kernel_rfl) (by kernel_rfl) (fun _ _ _ h => h) (Or.inl ⟨by rfl,?hy15⟩) (by assumption) ?rest15
 case hy15 => (intro w hSw; (try dsimp only at hSw); go_simp; first | done | with_reducible rfl)
 simp only [List.setIfInBounds_toArray,List.set_cons_succ,List.set_cons_zero]
 refine takeAt7 16 53 (v := ?v16) rfl rfl (by kernel_rfl) (by kernel_rfl) (by kernel_rfl) (fun _ _ _ h => h) (Or.inl ⟨by rfl,?hy16⟩) (by assumption) ?rest16
 case hy16 => (intro w hSw; (try dsimp only at hSw); go_simp; first | done | with_reducible rfl)
 simp only [List.setIfInBounds_toArray,List.set_cons_succ,List.set_cons_zero]
 refine wpAnyH_ready (rs := [2]) (by kernel_rfl) (by simp) ?_
 refine AllReadyH.cons (o := { dst := some 39,op := Op.call { callee := Callee.value (Operand.func 109),args := #[Operand.tmp 37,Operand.const (Value.int IntKind.i64 0),Operand.tmp 38],argTypes := #[138,3,89] },type := 169,pos := "ckpt.go:62",after := #[{ on := 0,ground := Ground.data }, { on := 1,ground := Ground.data }],guard := none }) rfl (fun K hK => ?_) AllReadyH.nil
 go_simp
 refine (HW1.out _).mono ?_
 rintro e z1 ⟨rfl,hwr1,hbz1,hsz1⟩
 have hHeld1 := (hbz1.block B4 hszb).trans hHeld
 have hbu1 : Below U.heap.size U z1 := ⟨hbz1.os,hbz1.tape,hbz1.output,hbz1.size,hbz1.block⟩
 have HZ1 : Hid (WrAt z1 U.heap.size q ((a : Int) + 0) zblock /\ Below U.heap.size U z1 /\ z1.heap.size = U.heap.size + 3) := ⟨hwr1,hbu1,hsz1⟩
 clear hbu1
 have hlt1 : B4 < z1.heap.size := Nat.lt_of_lt_of_le hszb hbz1.size
 clear hwr1 hbz1 hsz1
 go_wp2_with fail
 refine hK.out _ _ hHeld1 (fun _ => ?_)
 clear hK K
 (try go_frame)
 refine wpAnyH_ready (rs := [7]) (by kernel_rfl) (by simp) ?_
 refine AllReadyH.cons (o := { dst := some 44,op := Op.call { callee := Callee.value (Operand.func 110),args := #[Operand.tmp 42,Operand.tmp 43],argTypes := #[138,9] },type := 169,pos := "ckpt.go:64",after := #[{ on := 5,ground := Ground.data }, { on := 6,ground := Ground.data }, { on := 2,ground := Ground.chain }],guard := none }) rfl (fun K hK => ?_) AllReadyH.nil
 go_simp
 refine (HW2.out _).mono ?_
 rintro e z2 ⟨vS,Bs,rfl,hT⟩
 have hbz2 := hT.below
 have hHeld2 := (hbz2.block B4 hlt1).trans hHeld1
 have HT := hide hT
 have HB2 := hide hbz2
 have hlt2 : B4 < z2.heap.size := Nat.lt_of_lt_of_le hlt1 hbz2.size
 clear hT hbz2
 go_wp2_with fail
 refine hK.out _ _ hHeld2 (fun _ => ?_)
 clear hK K
 (try go_frame)
 refine wpAnyH_ready (rs := [13]) (by kernel_rfl) (by simp) ?_
 refine AllReadyH.cons (o := { dst := some 50,op := Op.call { callee := Callee.value (Operand.func 111),args := #[Operand.tmp 48,Operand.tmp 49],argTypes := #[50,9] },type := 171,pos := "ckpt.go:66",after := #[{ on := 11,ground := Ground.data }, { on := 12,ground := Ground.data }, { on := 7,ground := Ground.chain }],guard := none }) rfl (fun K hK => ?_) AllReadyH.nil
 go_simp
 refine (HW3.out _).mono ?_
 rintro e z3 ⟨rfl,hbz3⟩
 have hHeld3 := (hbz3.block B4 hlt2).trans hHeld2
 have HB3 := hide hbz3
 have hlt3 : B4 < z3.heap.size := Nat.lt_of_lt_of_le hlt2 hbz3.size
 clear hbz3
 go_wp2_with fail
 refine hK.out _ _ hHeld3 (fun _ => ?_)
 clear hK K
 (try go_frame)
 refine wpAnyH_ready (rs := [14]) (by kernel_rfl) (by simp) ?_
 refine AllReadyH.cons (o := { dst := some 51,op := Op.call { callee := Callee.value (Operand.func 109),args := #[Operand.tmp 47,Operand.const (Value.int IntKind.i64 0),Operand.tmp 50],argTypes := #[138,3,89] },type := 169,pos := "ckpt.go:66",after := #[{ on := 10,ground := Ground.data }, { on := 13,ground := Ground.data }, { on := 13,ground := Ground.chain }],guard := none }) rfl (fun K hK => ?_) AllReadyH.nil
 go_simp
 refine (HW4.out _).mono ?_
 rintro e z4 ⟨rfl,hwr4,hbz4,hsz4⟩
 have hHeld4 := (hbz4.block B4 hlt3).trans hHeld3
 have HZ4 := hide (And.intro hwr4 (And.intro hbz4 hsz4))
 have hlt4 : B4 < z4.heap.size := Nat.lt_of_lt_of_le hlt3 hbz4.size
 clear hwr4 hbz4 hsz4
 go_wp2_with fail
 refine hK.out _ _ hHeld4 (fun _ => ?_)
 clear hK K
 (try go_frame)
 refine wpAnyH_ready (rs := [17]) (by kernel_rfl) (by simp) ?_
 refine AllReadyH.cons (o := { dst := some 54,op := Op.buildSlice 195 6 #[(0,Operand.tmp 39),(1,Operand.tmp 41),(2,Operand.tmp 44),(3,Operand.tmp 46),(4,Operand.tmp 51),(5,Operand.tmp 53)],type := 195,pos := "ckpt.go:61",after := #[{ on := 2,ground := Ground.data }, { on := 4,ground := Ground.data }, { on := 7,ground := Ground.data }, { on := 9,ground := Ground.data }, { on := 14,ground := Ground.data }, { on := 16,ground := Ground.data }],guard := none }) rfl (fun K hK => ?_) AllReadyH.nil
 have hHeld5 := (Below.heap_alloc z4 (.cells #[wrV U.heap.size,syV q,txV (z1.heap.size + 1),syV q,wrV z3.heap.size,syV q] 169) B4 hlt4).trans hHeld4
 unfold wrV
 go_simp
 change K _ (z4.alloc (.cells #[wrV U.heap.size,syV q,txV (z1.heap.size + 1),syV q,wrV z3.heap.size,syV q] 169))
 refine hK.out _ _ hHeld5 (fun _ => ?_)
 clear hK K
 (try go_frame)
 refine wpAnyH_ready (rs := [18]) (by kernel_rfl) (by simp) ?_
 refine AllReadyH.cons (o := { dst := some 55,op := Op.call { callee := Callee.value (Operand.func 108),args := #[Operand.tmp 54],argTypes := #[195] },type := 29,pos := "ckpt.go:61",after := #[{ on := 17,ground := Ground.data }, { on := 14,ground := Ground.chain }],guard := none }) rfl (fun K hK => ?_) AllReadyH.nil
 go_simp
 refine (six_any q a gen (kk : Int) gi t st F w U z1 z2 z3 z4 vS Bs HD.out HOk.out HHl.out HAa.out HNb.out HBU.out HZ1.out HT.out HB3.out HZ4.out).mono ?_
 rintro e z6 ⟨rfl,⟨F6,hd6,hl6⟩,hk6⟩
 have hHeld6 := (hk6 B4 HGe.out hlt4).trans hHeld4
 have HE := hide (And.intro hd6 hl6)
 clear hd6 hl6 hk6
 go_wp2_with fail
 refine hK.out _ _ hHeld6 (fun _ => ?_)
 clear hK K
 (try go_frame)
 refine takeAt7 19 10 (v := ?v19) rfl rfl (by kernel_rfl) (by kernel_rfl) (by kernel_rfl) (fun _ _ _ h => h) (Or.inl ⟨by rfl,?hy19⟩) (by assumption) ?rest19
 case hy19 => (intro w hSw; (try dsimp only at hSw); go_simp; first | done | with_reducible rfl)
 simp only [List.setIfInBounds_toArray,List.set_cons_succ,List.set_cons_zero]
 refine wpAnyH_done (by kernel_rfl) ?_ _
 clear hHeld hHeld1 hHeld2 hHeld3 hHeld4 hHeld5 hHeld6
 go_wp2
 go_ret
 exact ⟨rfl,F6,HE.out.1,HE.out.2⟩
def faultC (st : St) (o n : Int) : Nat := if st.mayC o n then 0 else 2
theorem fault_any7 (q : Nat) (o n : Int) (st : St) (F : Nat -> Prop) (w u : World) (hD : DAt w q st F) (hok : st.Ok) (hn : -9223372036854775808 <= n /\ n <= 9223372036854775807) (hu : Below w.heap.size w u) :
   Calls Tryz.prog 81 #[.agg #[.pointer (some ⟨q,0,none⟩),.int .i64 o,.int .i64 n]] u fun e v => e = .returned (.int .i64 ((faultC st o n : Nat) : Int)) /\ Below u.heap.size u v := by
 have hF := con.lt hD
 refine fault_core (.pointer (some ⟨q,0,none⟩)) (st.sure.length : Int) o n (room n) u (faultC st o n) (fun v hv => con.size q st F v (con.same hD (fun k hk => (hv.block k (Nat.lt_of_lt_of_le (hF k hk) hu.size)).trans (hu.block k (hF k hk)))) hok) (fun v => room_any7 n v hn) ?_ ?_
 · by_cases h : room n = 0
   · exact Or.inr h
   · have := room_pos h
     have := hok.few
     exact Or.inl (by unfold wrap64; omega)
 · have h1 := hok.some
   unfold faultC
   rw [if_neg (show ¬ ((st.sure.length : Int) = 0) by omega)]
   by_cases h : st.mayC o n
   · rw [if_pos h]
     unfold St.mayC at h
     rw [if_neg (by omega)]
   · rw [if_neg h]
     unfold St.mayC at h
     rw [if_pos (by omega)]
set_option maxRecDepth 10000 in
set_option maxHeartbeats 1000000 in
theorem save_out (pq : Option Addr) (o n : Int) (gen : Nat) (t : ByteArray) (w : World) (c : Nat) (r : Int)
   (hF : ∀ u,Below w.heap.size w u -> ∃ f : Nat,(Calls Tryz.prog 81 #[.agg #[.pointer pq,.int .i64 o,.int .i64 n]] u fun e v => e = .returned (.int .i64 (f : Int)) /\ Below u.heap.size u v) /\ (f = c /\ c ≠ 0 \/ f = 0 /\ (¬ (1 <= gen /\ gen <= 4611686018427387904) /\ c = 2 \/ (1 <= gen /\ gen <= 4611686018427387904) /\ r < (t.size : Int) /\ c = 4)))
   (hR : ∀ u,Calls Tryz.prog 87 #[.int .i64 n] u fun e v => e = .returned (.int .i64 r) /\ v = u) :
   Calls Tryz.prog 80 #[.pointer pq,.int .i64 o,.int .i64 n,.int .u64 (gen : Int),.string t] w fun e v => e = .returned (.int .i64 (c : Int)) /\ Below w.heap.size w v := by
 obtain ⟨f,hf,hc⟩ := hF _ (one_below w (.cells #[.pointer pq,.int .i64 o,.int .i64 n] 134))
 have HF := hide hf
 have HR := hide hR
 have HM := hide (fun u => mayBe_any gen u)
 have HB := hide (one_below w (.cells #[.pointer pq,.int .i64 o,.int .i64 n] 134))
 clear hF hR hf
 rcases hc with ⟨rfl,h0⟩ | ⟨rfl,⟨hg,rfl⟩ | ⟨hg,hr,rfl⟩⟩
 · have hz : ¬ ((f : Int) = 0) := by omega
   clear h0
   go_enter Tryz.func80,Tryz.ntmps80
   go_wp2_with (go_at_call 81; refine HF.out.mono ?_; rintro e w1 ⟨rfl,hb1⟩)
   go_ret
   exact ⟨rfl,bnext HB.out hb1⟩
 · have hd : decide (1 <= gen /\ gen <= 4611686018427387904) = false := decide_eq_false hg
   rw [hd] at HM
   clear hd hg
   go_enter Tryz.func80,Tryz.ntmps80
   go_wp2_with (first
     | (go_at_call 81; refine HF.out.mono ?_; rintro e w1 ⟨rfl,hb1⟩)
     | (go_at_call 107; refine (HM.out _).mono ?_; rintro e w2 ⟨rfl,rfl⟩))
   go_ret
   exact ⟨rfl,bnext HB.out hb1⟩
 · have hd : decide (1 <= gen /\ gen <= 4611686018427387904) = true := decide_eq_true hg
   rw [hd] at HM
   clear hd hg
   go_enter Tryz.func80,Tryz.ntmps80
   go_wp2_with (first
     | (go_at_call 81; refine HF.out.mono ?_; rintro e w1 ⟨rfl,hb1⟩)
     | (go_at_call 107; refine (HM.out _).mono ?_; rintro e w2 ⟨rfl,rfl⟩)
     | (go_at_call 87; refine (HR.out _).mono ?_; rintro e w2 ⟨rfl,rfl⟩))
   go_ret
   exact ⟨rfl,bnext HB.out hb1⟩
theorem pSave (q : Nat) (o n : Int) (gen : Nat) (t : ByteArray) (st : St) (F : Nat -> Prop) (w : World) (hD : DAt w q st F) (hok : st.Ok) (hl : st.loose.length + 3000 <= 10000) (hn : -9223372036854775808 <= n /\ n <= 9223372036854775807) (ht : t.size <= 100000) :
   Calls Tryz.prog 80 #[.pointer (some ⟨q,0,none⟩),.int .i64 o,.int .i64 n,.int .u64 (gen : Int),.string t] w fun e v => e = .returned (.int .i64 (((st.save o n gen t).1 : Nat) : Int)) /\ ∃ F',DAt v q (st.save o n gen t).2 F' /\ Loc F F' w v := by
 have hF := con.lt hD
 have hfa := fun u hu => fault_any7 q o n st F w u hD hok hn hu
 have out : ∀ {c : Nat},st.save o n gen t = (c,st) -> (Calls Tryz.prog 80 #[.pointer (some ⟨q,0,none⟩),.int .i64 o,.int .i64 n,.int .u64 (gen : Int),.string t] w fun e v => e = .returned (.int .i64 (c : Int)) /\ Below w.heap.size w v) ->
     Calls Tryz.prog 80 #[.pointer (some ⟨q,0,none⟩),.int .i64 o,.int .i64 n,.int .u64 (gen : Int),.string t] w fun e v => e = .returned (.int .i64 (((st.save o n gen t).1 : Nat) : Int)) /\ ∃ F',DAt v q (st.save o n gen t).2 F' /\ Loc F F' w v := fun h hc => by
   rw [h]
   refine hc.mono ?_
   rintro e v ⟨he,hb⟩
   exact ⟨he,F,con.same hD (fun k hk => hb.block k (hF k hk)),Loc.of_below F hb⟩
 unfold faultC at hfa
 by_cases hm : st.mayC o n
 · rw [if_pos hm] at hfa
   by_cases hg : gen < 1 \/ 4611686018427387904 < gen
   · exact out (c := 2) (by unfold St.save; rw [if_neg (fun h => h hm),if_pos hg]) (save_out _ o n gen t w 2 (room n) (fun u hu => ⟨0,hfa u hu,Or.inr ⟨rfl,Or.inl ⟨by omega,rfl⟩⟩⟩) (fun u => room_any7 n u hn))
   · by_cases hr : room n < (t.size : Int)
     · exact out (c := 4) (by unfold St.save; rw [if_neg (fun h => h hm),if_neg hg,if_pos hr]) (save_out _ o n gen t w 4 (room n) (fun u hu => ⟨0,hfa u hu,Or.inr ⟨rfl,Or.inr ⟨by omega,hr,rfl⟩⟩⟩) (fun u => room_any7 n u hn))
     · have e : st.save o n gen t = saveAt (slotAt o n gen) gen t st := by unfold St.save; rw [if_neg (fun h => h hm),if_neg hg,if_neg hr]
       rw [e]
       obtain ⟨h1,h2,h3⟩ := hm
       obtain ⟨p1,p2,p3,p4⟩ := room_pos h1
       have hfew := hok.few
       have hsl : slotAt o n gen <= 8192 := by
         unfold slotAt
         have : gen % 2 < 2 := Nat.mod_lt _ (by decide)
         rcases (by omega : gen % 2 = 0 \/ gen % 2 = 1) with h | h
         · rw [h]; omega
         · rw [h]; omega
       exact save_in q (slotAt o n gen) (n.toNat / 2) o n gen t st F w (room n) hD hok hl (by omega) (by omega) ((gen % 2 : Nat) : Int) hsl ht hfa (fun u => room_any7 n u hn) (fun u => slotOf_any q o n gen u ⟨h2,by omega⟩ ⟨by omega,p2⟩)
 · rw [if_neg hm] at hfa
   exact out (c := 2) (by unfold St.save; rw [if_pos hm]) (save_out _ o n gen t w 2 (room n) (fun u hu => ⟨2,hfa u hu,Or.inl ⟨rfl,by decide⟩⟩) (fun u => room_any7 n u hn))
end Go.Proofs.YtchhojkhfdkhfaaGreatDoor
