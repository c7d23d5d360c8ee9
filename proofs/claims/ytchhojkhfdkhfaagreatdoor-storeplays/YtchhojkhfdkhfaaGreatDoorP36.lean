/- Joined texts. -/
import Derived.Test.YtchhojkhfdkhfaaGreatDoorP35
import Derived.Test.YtchhojkhfdkhfaaGreatDoorP18
import Derived.Test.YtchhojkhfdkhfaaGreatDoorP34
import Derived.Test.YtchhojkhfdkhfaaGreatDoorP33
namespace Go.Proofs.YtchhojkhfdkhfaaGreatDoor
open Go Go.RowKit Frm
def TextsAt (w : World) (b off : Nat) (l : List ByteArray) : Prop := ∀ j (hj : j < l.length),w.cell? ⟨b,off + j,none⟩ = some (.string l[j])
def zfrom (b : ByteArray) (i j : Nat) : Prop := ∀ k,i <= k -> k < j -> byteAt b k = some 0
theorem joined_split (l : List ByteArray) (k : Nat) : joined l = joined (l.take k) ++ joined (l.drop k) := by
 have h : ∀ (m : List ByteArray) (s : ByteArray),m.foldl (fun s t => s ++ t) s = s ++ joined m := by
   intro m
   induction m with
   | nil => intro s; show s = s ++ noText; exact (ByteArray.append_empty).symm
   | cons x m ih =>
     intro s
     rw [List.foldl_cons,ih,show joined (x :: m) = x ++ joined m from by unfold joined; rw [List.foldl_cons,ih]; show (noText ++ x) ++ _ = _; rw [show noText ++ x = x from ByteArray.empty_append]; rfl,ByteArray.append_assoc]
 conv => lhs; rw [<- List.take_append_drop k l]
 unfold joined
 rw [List.foldl_append,h]
 rfl
set_option maxRecDepth 20000 in
theorem whole_way (l : List ByteArray) (odd : Nat) (h : ByteArray) (hl0 : l.getD 0 noText = h) (hf : ∀ t ∈ l,t.size = 256) (g n : Nat) (hg : numL (h.data.toList.take 8) = g) (hn : numL ((h.data.toList.drop 8).take 4) = n) (hle : n <= (l.length - 1) * 256) (hok : ¬ (g < 1 \/ 4611686018427387904 < g \/ g % 2 ≠ odd)) :
   (h = headT g ((joined (l.drop 1)).extract 0 n) /\ zfrom (joined (l.drop 1)) n (nb n * 256) -> wholeT l odd = (g,(joined (l.drop 1)).extract 0 n)) /\
   (¬ (h = headT g ((joined (l.drop 1)).extract 0 n) /\ zfrom (joined (l.drop 1)) n (nb n * 256)) -> wholeT l odd = (0,noText)) := by
 have hnb : nb n <= l.length - 1 := by unfold nb; omega
 have hnb2 : n <= nb n * 256 := by unfold nb; omega
 have hsz : (joined ((l.drop 1).take (nb n))).size = nb n * 256 := by
   rw [joined_size _ (fun t ht => hf t (List.mem_of_mem_drop (List.mem_of_mem_take ht))),List.length_take,List.length_drop,Nat.min_eq_left hnb,Nat.mul_comm]
 have hsp := joined_split (l.drop 1) (nb n)
 have hall : (joined (l.drop 1)).size = (l.length - 1) * 256 := by
   rw [joined_size _ (fun t ht => hf t (List.mem_of_mem_drop ht)),List.length_drop,Nat.mul_comm]
 have hat : ∀ k,k < nb n * 256 -> byteAt (joined (l.drop 1)) k = byteAt (joined ((l.drop 1).take (nb n))) k := fun k hk => by
   rw [hsp,byteAt_append_left (by omega)]
 have hex : (joined (l.drop 1)).extract 0 n = (joined ((l.drop 1).take (nb n))).extract 0 n := by
   refine bytes_ext (by rw [ByteArray.size_extract,ByteArray.size_extract]; omega) (fun j hj => ?_)
   rw [ByteArray.size_extract] at hj
   have e : ∀ (b : ByteArray),n <= b.size -> byteAt (b.extract 0 n) j = byteAt b j := fun b hb => by
     unfold byteAt
     rw [ByteArray.data_extract,Array.getElem?_extract,if_pos (by have : b.data.size = b.size := rfl; omega),Nat.zero_add]
   rw [e _ (by omega),e _ (by omega),hat j (by omega)]
 have hz : zfrom (joined (l.drop 1)) n (nb n * 256) ↔ (joined ((l.drop 1).take (nb n))).extract n (joined ((l.drop 1).take (nb n))).size = zs ((joined ((l.drop 1).take (nb n))).size - n) := by
   rw [hsz]
   generalize joined ((l.drop 1).take (nb n)) = b at *
   have e : ∀ j,j < nb n * 256 - n -> byteAt (b.extract n (nb n * 256)) j = byteAt b (n + j) := fun j hj => by
     unfold byteAt
     rw [ByteArray.data_extract,Array.getElem?_extract,if_pos (by have : b.data.size = b.size := rfl; omega)]
   constructor
   · intro hz
     refine bytes_ext (by rw [ByteArray.size_extract,zs_size]; omega) (fun j hj => ?_)
     rw [ByteArray.size_extract] at hj
     rw [e j (by omega),byteAt_zs _ _ (by omega), <- hat _ (by omega)]
     exact hz _ (by omega) (by omega)
   · intro he k h1 h2
     have := e (k - n) (by omega)
     rw [he,byteAt_zs _ _ (by omega),show n + (k - n) = k from by omega] at this
     rw [hat k h2]
     exact this.symm
 rw [whole_eq l odd h hl0,hg,hn,if_neg (by omega), <- hex]
 constructor
 · intro hh
   rw [if_pos ⟨hh.1,hz.1 hh.2⟩]
 · intro hh
   rw [if_neg (fun x => hh ⟨x.1,hz.2 x.2⟩)]
theorem cut_take (h : ByteArray) (n : Nat) : (h.extract 0 n).data.toList = h.data.toList.take n := by
 rw [ByteArray.data_extract,Array.toList_extract]; simp [List.extract_eq_take_drop]
theorem cut_drop (h : ByteArray) (a n : Nat) : (h.extract a (a + n)).data.toList = (h.data.toList.drop a).take n := by
 rw [ByteArray.data_extract,Array.toList_extract,List.extract_eq_take_drop]; congr 1; omega
theorem toList_ne {s t : ByteArray} (h : s ≠ t) : (s.toList == t.toList) = false := by
 rw [beq_eq_false_iff_ne]
 intro e
 rw [Lib.toList_data,Lib.toList_data] at e
 exact h (ByteArray.ext (Array.toList_inj.1 e))
theorem ext_small (b : ByteArray) (n : Nat) (hb : b.size <= 1048576) : (b.extract 0 n).size <= 100000000 := by rw [ByteArray.size_extract]; omega
set_option maxRecDepth 20000 in
theorem whole_nums (n L s m : Nat) (hL : L <= 4096) (h : n <= (L - 1) * 256) (hs : s = (L - 1) * 256) (hm : m = nb n) :
   (n : Int) <= (s : Int) /\ (n : Int) % 18446744073709551616 = (n : Int) /\ wrap64 (n : Int) = (n : Int) /\ wrap64 ((n : Int) + 256) = (n : Int) + 256 /\ wrap64 ((n : Int) + 256 - 1) = (n : Int) + 256 - 1 /\
   ((n : Int) + 256 - 1) / 256 = (m : Int) /\ wrap64 (m : Int) = (m : Int) /\ wrap64 ((m : Int) * 256) = (m : Int) * 256 /\ (n <= m * 256 /\ m * 256 <= s /\ s <= 1048576) := by
 have h0 : s <= 1048576 := by omega
 have h1 : n <= s := by omega
 unfold nb at hm
 have h2 : n <= m * 256 := by omega
 have h3 : m * 256 <= s := by omega
 clear hL h hs
 refine ⟨by omega,by omega,by unfold wrap64; omega,by unfold wrap64; omega,by unfold wrap64; omega,?_,by unfold wrap64; omega,by unfold wrap64; omega,h2,h3,h0⟩
 omega
set_option maxRecDepth 10000 in
set_option maxHeartbeats 4000000 in
theorem rWhole_any (b off c odd : Nat) (l : List ByteArray) (w : World) (hT : TextsAt w b off l) (h1 : 1 <= l.length) (hN : l.length <= 4096) (hl : ∀ t ∈ l,t.size = 256) (ho : odd < 2) :
   Calls Tryz.prog 91 #[.slice (some ⟨b,off,none⟩) l.length c,.int .i64 (odd : Int)] w fun e w' => e = .returned (.tuple #[.int .u64 ((wholeT l odd).1 : Int),.string (wholeT l odd).2]) /\ Below w.heap.size w w' := by
 obtain ⟨h,hh⟩ : ∃ h,h = l[0] := ⟨_,rfl⟩
 have h256 : h.size = 256 := by rw [hh]; exact hl _ (List.getElem_mem _)
 have hl0 : l.getD 0 noText = h := by rw [List.getD_eq_getElem?_getD,List.getElem?_eq_getElem (by omega),hh]; rfl
 have hc0 : w.cell? ⟨b,off,none⟩ = some (.string h) := by rw [hh]; exact hT 0 (by omega)
 obtain ⟨g,hg⟩ : ∃ g,numL (h.data.toList.take 8) = g := ⟨_,rfl⟩
 obtain ⟨n,hn⟩ : ∃ n,numL ((h.data.toList.drop 8).take 4) = n := ⟨_,rfl⟩
 have hg64 : g < 18446744073709551616 := by
   have := numL_lt (h.data.toList.take 8)
   rw [List.length_take,show h.data.toList.length = 256 from by simpa using h256,hg] at this
   exact this
 have hn32 : n < 4294967296 := by
   have := numL_lt ((h.data.toList.drop 8).take 4)
   rw [List.length_take,List.length_drop,show h.data.toList.length = 256 from by simpa using h256,hn] at this
   exact this
 have K1 : Hid (Calls Tryz.prog 124 #[.string (h.extract 0 8)] w fun e w' => e = .returned (.int .u64 (g : Int)) /\ w' = w) := by
   have := rNumber_any (h.extract 0 8) w (by rw [ByteArray.size_extract]; omega)
   rw [cut_take,hg] at this
   exact this
 have K2 : Hid (Calls Tryz.prog 124 #[.string (h.extract 8 12)] w fun e w' => e = .returned (.int .u64 (n : Int)) /\ w' = w) := by
   have := rNumber_any (h.extract 8 12) w (by rw [ByteArray.size_extract]; omega)
   rw [cut_drop h 8 4,hn] at this
   exact this
 have HT := hide hT
 have HLl := hide hl
 have HW := hide (whole_way l odd h hl0 hl g n hg hn)
 have HW0 : Hid (g < 1 \/ 4611686018427387904 < g \/ g % 2 ≠ odd \/ (l.length - 1) * 256 < n -> wholeT l odd = (0,noText)) := by
   intro hh
   rw [whole_eq l odd h hl0,hg,hn,if_pos hh]
 have h8 : (8 : Int) <= (h.size : Int) := by omega
 have h12 : (12 : Int) <= (h.size : Int) := by omega
 have h1z : (1 : Int) <= (l.length : Int) := by omega
 have h0z : (0 : Int) < (l.length : Int) := by omega
 generalize hWW : wholeT l odd = WW at *
 clear hT hl hl0 hh hg hn hWW
 go_enter Tryz.func91,Tryz.ntmps91
 go_wp2_with fail
 refine K1.out.mono ?_
 rintro e w1 ⟨rfl,rfl⟩
 clear K1
 go_wp2_with fail
 refine K2.out.mono ?_
 rintro e w2 ⟨rfl,rfl⟩
 clear K2
 go_wp2_with fail
 go_loopw [9,10] (fun bv i wr => ∃ k : Nat,1 <= k /\ k <= l.length /\ i = .int .i64 (k : Int) /\ bv = .string (joined ((l.drop 1).take (k - 1))) /\ wr = w2) (fun _ i _ => l.length - (intOf i).toNat)
 case atStart => exact ⟨1,Nat.le_refl _,h1,rfl,rfl,rfl⟩
 case round =>
   obtain ⟨k,hk1,hk,rfl,rfl,hwr⟩ := hrel
   obtain rfl := hwr.symm
   clear hwr
   by_cases hlt : k < l.length
   · have hz : (k : Int) < (l.length : Int) := by omega
     have hck := HT.out k hlt
     have hkk : k - 1 < (l.drop 1).length := by rw [List.length_drop]; omega
     have HJ : Hid (joined ((l.drop 1).take (k + 1 - 1)) = joined ((l.drop 1).take (k - 1)) ++ l[k]) := by
       show _ = _
       rw [show k + 1 - 1 = (k - 1) + 1 from by omega,List.take_succ_eq_append_getElem hkk,joined_snoc,List.getElem_drop]
       congr 2
       omega
     have hsz : (joined ((l.drop 1).take (k - 1))).size + l[k].size <= 1048576 := by
       rw [joined_size _ (fun t ht => HLl.out t (List.mem_of_mem_drop (List.mem_of_mem_take ht))),HLl.out _ (List.getElem_mem hlt),List.length_take,List.length_drop]
       omega
     generalize joined ((l.drop 1).take (k - 1)) = bb at *
     generalize l[k] = x at *
     have hcat : ¬ (9223372036854775807 < bb.size + x.size) := by omega
     go_wp2
     go_roundw
     case rel => exact ⟨k + 1,by omega,hlt,by go_num,by rw [HJ.out],trivial⟩
     case measure => simp [intOf]; omega
   · have hke : k = l.length := by omega
     subst hke
     have hz : ¬ ((l.length : Int) < (l.length : Int)) := by omega
     rw [show (l.drop 1).take (l.length - 1) = l.drop 1 from List.take_of_length_le (by rw [List.length_drop]; exact Nat.le_refl _)]
     have hall : (joined (l.drop 1)).size = (l.length - 1) * 256 := by
       rw [joined_size _ (fun t ht => HLl.out t (List.mem_of_mem_drop ht)),List.length_drop,Nat.mul_comm]
     generalize joined (l.drop 1) = bb at *
     by_cases hbad : g < 1 \/ 4611686018427387904 < g \/ g % 2 ≠ odd \/ (l.length - 1) * 256 < n
     · have hWW := HW0.out hbad
       clear HW HW0 HT
       subst hWW
       have HBad := hide hbad
       clear hbad
       go_wp2_with fail
       all_goals first
         | (go_ret2; exact ⟨rfl,Below.refl _ _⟩)
         | (exfalso; have := HBad.out; omega)
     · have g1 : (1 : Int) <= (g : Int) := by omega
       have g2 : (g : Int) <= 4611686018427387904 := by omega
       have g3 : (g : Int) % 2 = (odd : Int) := by omega
       have g4 : (n : Int) <= ((l.length - 1 : Nat) : Int) * 256 := by omega
       have HWt := hide (HW.out (by omega) (by omega))
       have HL := hide (show n <= bb.size by omega)
       have HN1 := hide hN
       clear HW HW0 HT hbad
       obtain ⟨m,hm⟩ : ∃ m,m = nb n := ⟨_,rfl⟩
       rw [<- hm] at HWt
       have HK := hide (rHead_any g (bb.extract 0 n) w2 (ext_small bb n (by rw [hall]; exact Nat.le_trans (Nat.mul_le_mul_right 256 (Nat.le_trans (Nat.sub_le _ _) hN)) (by decide))))
       have HHs := hide (headT_size g (bb.extract 0 n))
       obtain ⟨hcz,hrest⟩ := whole_nums n l.length bb.size m hN (by omega) hall hm
       have HNB := hide hrest
       clear hrest hm
       go_wp2_with fail
       refine HK.out.mono ?_
       rintro e w3 ⟨rfl,hb3⟩
       have HB3 := hide hb3
       clear hb3 HK
       by_cases heq : h = headT g (bb.extract 0 n)
       · generalize headT g (bb.extract 0 n) = hd at *
         subst heq
         go_upto_region 14 with fail
         obtain ⟨hn3,hwn,hwn2,hwn3,hwn5,hwn6,hwn7,hnb1,hnb2,hnb3⟩ := HNB.out
         have HQ := hide hwn5
         clear HNB g1 g2 g3 g4 h1 hN ho h8 h12 h1z h0z hg64 hk1 hk hlt hall hz hcz h256 hc0 hwn3 hwn5
         rename_i hcnd _ _
         clear hcnd
         have HNb := hide (And.intro hnb1 (And.intro hnb2 hnb3))
         have HWr := hide (And.intro hn3 (And.intro hwn (And.intro hwn6 hwn7)))
         clear hnb1 hnb2 hnb3
         go_upto_region 15 with fail
         rw [HQ.out]
         clear HQ hwn2
         have HWx : Hid ((¬ zfrom bb n (m * 256) -> WW = (0,noText)) /\ (zfrom bb n (m * 256) -> WW = (g,bb.extract 0 n))) := ⟨fun x => HWt.out.2 (fun y => x y.2),fun x => HWt.out.1 ⟨trivial,x⟩⟩
         clear HWt
         go_wp2_with fail
         go_loopw [13] (fun i wr => ∃ k : Nat,n <= k /\ k <= m * 256 /\ i = .int .i64 (k : Int) /\ zfrom bb n k /\ wr = w3) (fun i _ => m * 256 - (intOf i).toNat)
         case atStart => exact ⟨n,Nat.le_refl _,HNb.out.1,by first | rfl | (rw [hwn]),fun k h1 h2 => absurd h2 (by omega),rfl⟩
         case round =>
           obtain ⟨k,hnk,hk,rfl,hzf,hwr⟩ := hrel
           obtain rfl := hwr.symm
           clear hwr
           have HZ := hide hzf
           clear hzf hn3 hwn hwn6
           by_cases hlt : k < m * 256
           · have hks : k < bb.size := by have := HNb.out; omega
             have hz : (k : Int) < (m : Int) * 256 := by omega
             have hk48 : k < 1048576 := by have := HNb.out; omega
             have hb : byteAt bb k = some bb[k] := by unfold byteAt; rw [Array.getElem?_eq_getElem hks]; rfl
             by_cases h0 : bb[k].toNat = 0
             · have HZ2 : Hid (zfrom bb n (k + 1)) := fun j q1 q2 => by
                 by_cases e : j = k
                 · subst e
                   rw [hb]
                   congr 1
                   exact UInt8.toNat_inj.1 h0
                 · exact HZ.out j q1 (by omega)
               clear hb
               go_wp2
               go_roundw
               case rel => exact ⟨k + 1,by omega,hlt,by go_num,HZ2.out,trivial⟩
               case measure => simp [intOf]; omega
             · have hWW : WW = (0,noText) := HWx.out.1 (fun x => by
                 have := x k hnk hlt
                 rw [hb] at this
                 have e : bb[k] = 0 := Option.some.inj this
                 exact h0 (by rw [e]; rfl))
               subst hWW
               clear HWx hb
               go_wp2
               go_ret2
               exact ⟨rfl,HB3.out⟩
           · have hke : k = m * 256 := by omega
             have hWW := HWx.out.2 (by rw [<- hke]; exact HZ.out)
             subst hWW
             have hz : ¬ ((k : Int) < (m : Int) * 256) := by omega
             clear HWx
             go_wp2
             go_ret2
             exact ⟨rfl,HB3.out⟩
       · have hWW : WW = (0,noText) := HWt.out.2 (fun x => heq x.1)
         subst hWW
         generalize headT g (bb.extract 0 n) = hd at *
         have hne : (h.toList == hd.toList) = false := toList_ne heq
         clear HWt heq
         go_wp2
         go_ret2
         exact ⟨rfl,HB3.out⟩
def RSays (p : Nat) (F : Nat -> Prop) (u : World) (r : Nat × St) (e : Ending) (v : World) : Prop := e = .returned (.int .i64 ((r.1 : Nat) : Int)) /\ ∃ F',RD v p r.2 F' /\ Loc F F' u v
set_option maxRecDepth 10000 in
set_option maxHeartbeats 4000000 in
theorem rSave_no (p : Nat) (o n : Int) (g : Nat) (t : ByteArray) (st : St) (F : Nat -> Prop) (u : World) (h : RD u p st F) (hS : st.sure.length <= 4096) (hn : -9223372036854775808 <= n /\ n <= 9223372036854775807) (hg : g < 18446744073709551616) (hno : ¬ (st.mayC o n /\ ¬ (g < 1 \/ 4611686018427387904 < g) /\ ¬ room n < (t.size : Int))) :
   Calls Tryz.prog 65 #[.pointer (some ⟨p,0,none⟩),.int .i64 o,.int .i64 n,.int .u64 (g : Int),.string t] u (RSays p F u (st.save o n g t)) := by
 have KM := hide (rd_mayC p st F o n u h hS hn)
 have KR := hide (rRoom_any n u hn)
 by_cases hm : st.mayC o n
 · rw [decide_eq_true hm] at KM
   by_cases hgm : g < 1 \/ 4611686018427387904 < g
   · have hs : st.save o n g t = (2,st) := by unfold St.save; rw [if_neg (fun x => x hm),if_pos hgm]
     have HP : Hid (RSays p F u (st.save o n g t) (.returned (.int .i64 2)) u) := by rw [hs]; exact ⟨rfl,F,h,Loc.refl _ _⟩
     generalize st.save o n g t = X at *
     have HG := hide hgm
     clear h hS hn hg hm hs hgm KR hno
     go_enter Tryz.func65,Tryz.ntmps65
     go_wp2_with fail
     refine KM.out.mono ?_
     rintro e w1 ⟨rfl,rfl⟩
     go_wp2_with fail
     all_goals first
       | (go_ret; exact HP.out)
       | (exfalso; have := HG.out; omega)
   · have hlong : room n < (t.size : Int) := Decidable.byContradiction fun x => hno ⟨hm,hgm,x⟩
     have hs : st.save o n g t = (4,st) := by unfold St.save; rw [if_neg (fun x => x hm),if_neg hgm,if_pos hlong]
     have HP : Hid (RSays p F u (st.save o n g t) (.returned (.int .i64 4)) u) := by rw [hs]; exact ⟨rfl,F,h,Loc.refl _ _⟩
     generalize st.save o n g t = X at *
     have g1 : ¬ ((g : Int) < 1) := by omega
     have g2 : ¬ ((4611686018427387904 : Int) < (g : Int)) := by omega
     generalize room n = rm at *
     clear h hS hn hg hm hs hgm hno
     go_enter Tryz.func65,Tryz.ntmps65
     go_wp2_with fail
     refine KM.out.mono ?_
     rintro e w1 ⟨rfl,rfl⟩
     clear KM
     go_wp2_with fail
     refine KR.out.mono ?_
     rintro e w2 ⟨rfl,rfl⟩
     go_wp2
     go_ret
     exact HP.out
 · rw [decide_eq_false hm] at KM
   have hs : st.save o n g t = (2,st) := by unfold St.save; rw [if_pos hm]
   have HP : Hid (RSays p F u (st.save o n g t) (.returned (.int .i64 2)) u) := by rw [hs]; exact ⟨rfl,F,h,Loc.refl _ _⟩
   generalize st.save o n g t = X at *
   clear h hS hn hg hm hs KR hno
   go_enter Tryz.func65,Tryz.ntmps65
   go_wp2_with fail
   refine KM.out.mono ?_
   rintro e w1 ⟨rfl,rfl⟩
   go_wp2
   go_ret
   exact HP.out
def Fine7 (B : Nat) (r : Nat × St) : Prop := r.2.Ok /\ r.2.loose.length <= B /\ r.1 <= 1000
theorem write_code (st : St) (b : Int) (d : ByteArray) : (st.write b d).1 <= 1000 := by
 unfold St.write
 split
 · show (_ : Nat) <= 1000; simp
 · split
   · show (_ : Nat) <= 1000; simp
   · split <;> simp
theorem sync_code (st : St) : st.sync.1 <= 1000 := by unfold St.sync; split <;> simp
theorem Fine7.write {B : Nat} {st : St} (h : st.Ok) (hl : st.loose.length <= B) (b : Int) (d : ByteArray) : Fine7 (B + 1) (st.write b d) := ⟨h.write b d,by have := write_few st b d; omega,write_code st b d⟩
theorem Fine7.sync {B : Nat} {st : St} (h : st.Ok) (hl : st.loose.length <= B) : Fine7 B st.sync := ⟨h.sync,by unfold St.sync; split; exact hl; exact Nat.zero_le _,sync_code st⟩
theorem Fine7.andT {B C : Nat} {r : Nat × St} {f : St -> Nat × St} (h : Fine7 B r) (hf : ∀ s,s.Ok -> s.loose.length <= B -> Fine7 C (f s)) (hBC : B <= C) : Fine7 C (andT r f) := by
 unfold Go.Proofs.YtchhojkhfdkhfaaGreatDoor.andT
 split
 · exact hf _ h.1 h.2.1
 · exact ⟨h.1,Nat.le_trans h.2.1 hBC,h.2.2⟩
def Mid7 (p : Nat) (F : Nat -> Prop) (u : World) (r : Nat × St) (v : World) : Prop := ∃ F',RD v p r.2 F' /\ Loc F F' u v
theorem Mid7.below {p : Nat} {F : Nat -> Prop} {u v w : World} {r : Nat × St} (h : Mid7 p F u r v) (hb : Below v.heap.size v w) : Mid7 p F u r w := by
 obtain ⟨F',h1,h2⟩ := h
 exact ⟨F',h1.below hb,h2.trans (Loc.of_below _ hb)⟩
theorem Mid7.write {p : Nat} {F : Nat -> Prop} {u v : World} {r : Nat × St} (h : Mid7 p F u r v) (hr : Fine7 10000 r) (b : Int) (d : ByteArray) :
   Calls Tryz.prog 35 #[.pointer (some ⟨p,0,none⟩),.int .i64 b,.string d] v fun e w => e = .returned (.int .i64 (((r.2.write b d).1 : Nat) : Int)) /\ Mid7 p F u (r.2.write b d) w := by
 obtain ⟨F',h1,h2⟩ := h
 refine (rd_write p r.2 F' b d v h1 hr.1 (by have := hr.2.1; omega)).mono ?_
 rintro e w ⟨rfl,F2,h3,h4⟩
 exact ⟨rfl,F2,h3,h2.trans h4⟩
theorem Mid7.sync {p : Nat} {F : Nat -> Prop} {u v : World} {r : Nat × St} (h : Mid7 p F u r v) (hr : Fine7 10000 r) :
   Calls Tryz.prog 97 #[.pointer (some ⟨p,0,none⟩)] v fun e w => e = .returned (.int .i64 ((r.2.sync.1 : Nat) : Int)) /\ Mid7 p F u r.2.sync w := by
 obtain ⟨F',h1,h2⟩ := h
 refine (rd_sync p r.2 F' v h1 hr.1 (by have := hr.2.1; omega)).mono ?_
 rintro e w ⟨rfl,F2,h3,h4⟩
 exact ⟨rfl,F2,h3,h2.trans h4⟩
set_option maxRecDepth 10000 in
theorem zs_block : zs 256 = zblock := by rfl
theorem andT_go {r : Nat × St} (f : St -> Nat × St) (h : r.1 = 0) : andT r f = f r.2 := by unfold andT; rw [if_pos h]
theorem andT_stop {r : Nat × St} (f : St -> Nat × St) (h : r.1 ≠ 0) : andT r f = r := by unfold andT; rw [if_neg h]
set_option maxRecDepth 10000 in
set_option maxHeartbeats 4000000 in
theorem rSave_goes (p : Nat) (o n : Int) (g : Nat) (t : ByteArray) (st : St) (F : Nat -> Prop) (u : World) (h : RD u p st F) (hok : st.Ok) (hl : st.loose.length + 3000 <= 10000) (hS : st.sure.length <= 4096) (hn : -9223372036854775808 <= n /\ n <= 9223372036854775807) (ht : t.size <= 100000) (hg : g < 18446744073709551616)
   (hm : st.mayC o n) (hgm : ¬ (g < 1 \/ 4611686018427387904 < g)) (hlong : ¬ room n < (t.size : Int)) :
   Calls Tryz.prog 65 #[.pointer (some ⟨p,0,none⟩),.int .i64 o,.int .i64 n,.int .u64 (g : Int),.string t] u (RSays p F u (st.save o n g t)) := by
 have KM := hide (rd_mayC p st F o n u h hS hn)
 rw [decide_eq_true hm] at KM
 have KR := hide (rRoom_any n u hn)
 obtain ⟨hr4,hr5,hr6, -⟩ := room_pos hm.1
 have hm2 := hm.2.1
 have hm3 := hm.2.2
 obtain ⟨a,ha⟩ : ∃ a,a = slotAt o n g := ⟨_,rfl⟩
 have hs : st.save o n g t = saveAt a g t st := by unfold St.save; rw [if_neg (fun x => x hm),if_neg hgm,if_neg hlong,ha]
 rw [hs]
 have hae : o + ((g % 2 : Nat) : Int) * (n / 2) = (a : Int) := by
   rw [ha]; unfold slotAt
   have e1 : ((o.toNat : Nat) : Int) = o := by omega
   have e2 : ((n.toNat / 2 : Nat) : Int) = n / 2 := by omega
   rw [Int.natCast_add,Int.natCast_mul,e1,e2]
 have hal : a + n.toNat / 2 <= st.sure.length := by
   rw [ha]; unfold slotAt
   have hg2 : g % 2 = 0 \/ g % 2 = 1 := by omega
   rcases hg2 with e | e <;> rw [e] <;> omega
 have g1 : ¬ ((g : Int) < 1) := by omega
 have g2 : ¬ ((4611686018427387904 : Int) < (g : Int)) := by omega
 have hq := tdiv2 (n := n) (by omega)
 have HA : Hid (wrap64 (n / 2) = n / 2 /\ wrap64 (((g % 2 : Nat) : Int) * (n / 2)) = ((g % 2 : Nat) : Int) * (n / 2) /\ o + ((g % 2 : Nat) : Int) * (n / 2) = (a : Int) /\ wrap64 (a : Int) = (a : Int) /\ (g : Int) % 2 = ((g % 2 : Nat) : Int)) := by
   refine ⟨by unfold wrap64; omega,?_,hae,by unfold wrap64; omega,by omega⟩
   have hg2 : g % 2 = 0 \/ g % 2 = 1 := by omega
   rcases hg2 with e | e <;> rw [e] <;> (unfold wrap64; omega)
 have HM0 := hide (show Mid7 p F u (0,st) u from ⟨F,h,Loc.refl _ _⟩)
 have HF0 := hide (show Fine7 7000 (0,st) from ⟨hok,by show st.loose.length <= 7000; omega,Nat.zero_le _⟩)
 have HT := hide ht
 have HGm := hide hgm
 have HG64 := hide hg
 have HAl := hide hal
 have HA2 : Hid (a <= 10000) := (by omega : a <= 10000)
 have hgi : (g : Int) % 18446744073709551616 = (g : Int) := by omega
 generalize room n = rm at *
 clear h hok hl hS hn ht hg hm hs hgm hr4 hr5 hr6 hm2 hm3 ha hae hal
 go_enter Tryz.func65,Tryz.ntmps65
 go_wp2_with fail
 refine KM.out.mono ?_
 rintro e w1 ⟨rfl,rfl⟩
 clear KM
 go_wp2_with fail
 refine KR.out.mono ?_
 rintro e w2 ⟨rfl,rfl⟩
 clear KR
 go_upto_region 5 with fail
 clear hlong
 obtain ⟨a1,a2,a3,a4,a5⟩ := HA.out
 have hgm : (g : Int) % 2 = ((g % 2 : Nat) : Int) := a5
 generalize g % 2 = gb at *
 clear a5 HA
 go_upto_region 6 with fail
 simp only [a4]
 clear a1 a2 a3 a4 hgm hq
 have HZb : Hid (zs 256 = zblock) := zs_block
 have HZ := hide (fun U : World => zctext 256 U (U.alloc (.cells (zc 256) 5)) (heap_alloc_last U _))
 have hzm : (Instr.makeSlice 77 (.int .i64 256) (.int .i64 256)).run Tryz.prog w2 = .ok (.slice (some ⟨w2.heap.size,0,none⟩) 256 256) (w2.alloc (.cells (zc 256) 5)) := zcmake 256 (by decide) w2
 have hzt := HZ.out w2
 have HW1 := hide ((HM0.out.below ((Below.refl w2.heap.size w2).alloc (Nat.le_refl _) (.cells (zc 256) 5))).write ⟨HF0.out.1,by have := HF0.out.2.1; omega,HF0.out.2.2⟩ (a : Int) (zs 256))
 generalize zs 256 = zb at *
 go_wp2_with fail
 refine HW1.out.mono ?_
 rintro e w3 ⟨rfl,hm3⟩
 have HM1 := hide hm3
 have HF1 := hide (Fine7.write HF0.out.1 HF0.out.2.1 (a : Int) zb)
 clear hm3 HW1 hzm hzt HZ HM0
 obtain ⟨r1,hr1⟩ : ∃ r1,r1 = st.write (a : Int) zb := ⟨_,rfl⟩
 have HR1 := hide hr1
 rw [<- hr1] at HM1 HF1
 simp only [show (st.write (a : Int) zb) = r1 from hr1.symm]
 clear hr1
 go_upto_if 46 with fail
 go_cut [12] from 44 (fun ev v => ev = .int .i64 (((andT r1 St.sync).1 : Nat) : Int) /\ Mid7 p F w2 (andT r1 St.sync) v)
 case first =>
   by_cases h0 : r1.1 = 0
   · have HE := hide (andT_go St.sync h0)
     have hz0 : ((r1.1 : Nat) : Int) = 0 := by omega
     have KS := hide (HM1.out.sync ⟨HF1.out.1,by have := HF1.out.2.1; omega,HF1.out.2.2⟩)
     clear h0
     go_wp2_with fail
     refine KS.out.mono ?_
     rintro e w4 ⟨rfl,hm4⟩
     have HM4 := hide hm4
     clear hm4 KS
     go_wp2_with fail
     go_meet
     case rel => rw [HE.out]; exact ⟨rfl,HM4.out⟩
   · have HE := hide (andT_stop St.sync h0)
     have hz0 : ¬ (((r1.1 : Nat) : Int) = 0) := by omega
     clear h0
     go_wp2_with fail
     go_meet
     case rel => rw [HE.out]; exact ⟨rfl,HM1.out⟩
 obtain ⟨rfl,hm2⟩ := hcut
 have HM2 := hide hm2
 have HF2 : Hid (Fine7 7001 (andT r1 St.sync)) := HF1.out.andT (fun s h1 h2 => Fine7.sync h1 h2) (Nat.le_refl _)
 clear hm2
 obtain ⟨r2,hr2⟩ : ∃ r2,r2 = andT r1 St.sync := ⟨_,rfl⟩
 have HR2 := hide hr2
 rw [<- hr2] at HM2 HF2
 simp only [show andT r1 St.sync = r2 from hr2.symm]
 clear hr2 HM1 HF1 HF0
 have HNb : Hid (∀ k,k < nb t.size ↔ k * 256 < t.size) := fun k => by unfold nb; omega
 have HNs : Hid (nb t.size <= 400) := by show nb t.size <= 400; have := HT.out; unfold nb; omega
 have HS : Hid (saveAt a g t st = andT (andT (andT (andT r2 (putsT (a + 1) t (nb t.size) 0)) St.sync) (fun s => s.write (a : Int) (headT g t))) St.sync) := by
   show saveAt a g t st = _
   unfold saveAt
   rw [HR2.out,HR1.out,HZb.out]
 have HTx : Hid (t.size <= 140737488351232 /\ t.size <= 100000000) := by have := HT.out; exact ⟨by omega,by omega⟩
 have HAn := HA2
 generalize hSv : saveAt a g t st = SV at *
 generalize hN : nb t.size = N at *
 clear hN hSv HR1 HR2 HZb HGm HG64 HAl g1 g2 hgi
 have hg0 : True := trivial
 go_wp2_with fail
 go_loopw [12,13] (fun ev i v => ∃ (k : Nat) (r : Nat × St),k <= N /\ i = .int .i64 (k : Int) /\ ev = .int .i64 ((r.1 : Nat) : Int) /\ Mid7 p F w2 r v /\ Fine7 (7001 + k) r /\ andT r2 (putsT (a + 1) t N 0) = andT r (putsT (a + 1) t (N - k) k)) (fun _ i _ => N - (intOf i).toNat)
 case atStart => exact ⟨0,r2,Nat.zero_le _,rfl,rfl,HM2.out,HF2.out,rfl⟩
 case round =>
   obtain ⟨k,r,hk,rfl,rfl,hmid,hfine,heq⟩ := hrel
   have HMd := hide hmid
   have HFi := hide hfine
   have HEq := hide heq
   clear hmid hfine heq HM2 HF2
   have hk4 : k <= 400 := Nat.le_trans hk HNs.out
   have hwk : wrap64 ((k : Int) * 256) = (k : Int) * 256 := by unfold wrap64; omega
   by_cases h0 : r.1 = 0
   · by_cases hlt : k < N
     · have hz0 : ((r.1 : Nat) : Int) = 0 := by omega
       have hzk : (k : Int) * 256 < (t.size : Int) := by have := (HNb.out k).1 hlt; omega
       have KB := hide (rBlock_any7 t k wr (by omega) HTx.out.1)
       have HW := hide (fun v (hb : Below wr.heap.size wr v) => (HMd.out.below hb).write ⟨HFi.out.1,by have := HFi.out.2.1; omega,HFi.out.2.2⟩ ((a + 1 + k : Nat) : Int) (blkT t k))
       have HFn := hide (Fine7.write HFi.out.1 HFi.out.2.1 ((a + 1 + k : Nat) : Int) (blkT t k))
       have HSt : Hid (andT r2 (putsT (a + 1) t N 0) = andT (r.2.write ((a + 1 + k : Nat) : Int) (blkT t k)) (putsT (a + 1) t (N - (k + 1)) (k + 1))) := by
         show _ = _
         rw [HEq.out,andT_go _ h0,show N - k = (N - (k + 1)) + 1 from by omega]
         rfl
       have hwa : wrap64 ((a : Int) + 1) = (a : Int) + 1 := by have := HAn.out; unfold wrap64; omega
       have hwb : wrap64 ((a : Int) + 1 + (k : Int)) = ((a + 1 + k : Nat) : Int) := by have := HAn.out; unfold wrap64; omega
       generalize r.2.write ((a + 1 + k : Nat) : Int) (blkT t k) = r' at *
       generalize blkT t k = bk at *
       clear HEq h0 hg0
       go_wp2_with fail
       refine KB.out.mono ?_
       rintro e v1 ⟨rfl,hb1⟩
       have HW1 : Hid (Calls Tryz.prog 35 #[.pointer (some ⟨p,0,none⟩),.int .i64 ((a : Int) + 1 + (k : Int)),.string bk] v1 fun e w => e = .returned (.int .i64 ((r'.1 : Nat) : Int)) /\ Mid7 p F w2 r' w) := by
         have := HW.out v1 hb1
         rw [show ((a + 1 + k : Nat) : Int) = (a : Int) + 1 + (k : Int) from by omega] at this
         exact this
       clear hb1 KB HW
       go_wp2_with fail
       refine HW1.out.mono ?_
       rintro e v2 ⟨rfl,hm5⟩
       have HM5 := hide hm5
       clear hm5 HW1
       go_wp2
       go_roundw
       case rel => exact ⟨k + 1,r',hlt,by go_num,rfl,HM5.out,HFn.out,HSt.out⟩
       case measure => simp [intOf]; omega
     · have hke : k = N := by omega
       subst hke
       have hzk : ¬ ((k : Int) * 256 < (t.size : Int)) := by have := (HNb.out k).2; omega
       have HEr : Hid (SV = andT (andT (andT r St.sync) (fun s => s.write (a : Int) (headT g t))) St.sync) := by
         show _ = _
         rw [HS.out,HEq.out,Nat.sub_self,andT_go _ h0]
         show andT (andT (andT (0,r.2) St.sync) _) St.sync = _
         rw [show ((0 : Nat),r.2) = r from by rw [<- h0]]
       have hz0 : ((r.1 : Nat) : Int) = 0 := by omega
       have KS := hide (HMd.out.sync ⟨HFi.out.1,by have := HFi.out.2.1; omega,HFi.out.2.2⟩)
       rw [andT_go _ h0] at HEr
       have HF4 := hide (Fine7.sync HFi.out.1 HFi.out.2.1)
       clear HEq HS h0
       generalize r.2.sync = r4 at *
       go_wp2_with fail
       refine KS.out.mono ?_
       rintro e v4 ⟨rfl,hm4⟩
       have HM4 := hide hm4
       clear hm4 KS
       by_cases h4 : r4.1 = 0
       · rw [andT_go _ h4] at HEr
         have hz4 : ((r4.1 : Nat) : Int) = 0 := by omega
         have KH := hide (rHead_any g t v4 HTx.out.2)
         have HW5 := hide (fun v (hb : Below v4.heap.size v4 v) => (HM4.out.below hb).write ⟨HF4.out.1,by have := HF4.out.2.1; omega,HF4.out.2.2⟩ (a : Int) (headT g t))
         have HF5 := hide (Fine7.write HF4.out.1 HF4.out.2.1 (a : Int) (headT g t))
         clear h4
         generalize r4.2.write (a : Int) (headT g t) = r5 at *
         generalize headT g t = hd at *
         go_wp2_with fail
         refine KH.out.mono ?_
         rintro e v5 ⟨rfl,hb5⟩
         have HW6 := hide (HW5.out v5 hb5)
         clear hb5 KH HW5
         go_wp2_with fail
         refine HW6.out.mono ?_
         rintro e v6 ⟨rfl,hm6⟩
         have HM6 := hide hm6
         clear hm6 HW6
         by_cases h5 : r5.1 = 0
         · rw [andT_go _ h5] at HEr
           have hz5 : ((r5.1 : Nat) : Int) = 0 := by omega
           have KS7 := hide (HM6.out.sync ⟨HF5.out.1,by have := HF5.out.2.1; omega,HF5.out.2.2⟩)
           clear h5
           generalize r5.2.sync = r7 at *
           go_wp2_with fail
           refine KS7.out.mono ?_
           rintro e v7 ⟨rfl,hm7⟩
           have HM7 := hide hm7
           clear hm7 KS7
           go_wp2
           go_ret
           rw [HEr.out]
           exact ⟨rfl,HM7.out⟩
         · rw [andT_stop _ h5] at HEr
           have hz5 : ¬ (((r5.1 : Nat) : Int) = 0) := by omega
           clear h5
           go_wp2
           go_ret
           rw [HEr.out]
           exact ⟨rfl,HM6.out⟩
       · rw [andT_stop _ h4,andT_stop _ h4] at HEr
         have hz4 : ¬ (((r4.1 : Nat) : Int) = 0) := by omega
         clear h4
         go_wp2
         go_ret
         rw [HEr.out]
         exact ⟨rfl,HM4.out⟩
   · have HEr : Hid (SV = r) := by
       show _ = _
       rw [HS.out,HEq.out,andT_stop _ h0,andT_stop _ h0,andT_stop _ h0,andT_stop _ h0]
     have hz0 : ¬ (((r.1 : Nat) : Int) = 0) := by omega
     clear HEq HS h0
     go_wp2
     all_goals
       go_ret
       rw [HEr.out]
       exact ⟨rfl,HMd.out⟩
theorem rSave_any (p : Nat) (o n : Int) (g : Nat) (t : ByteArray) (st : St) (F : Nat -> Prop) (u : World) (h : RD u p st F) (hok : st.Ok) (hl : st.loose.length + 3000 <= 10000) (hS : st.sure.length <= 4096) (hn : -9223372036854775808 <= n /\ n <= 9223372036854775807) (ht : t.size <= 100000) (hg : g < 18446744073709551616) :
   Calls Tryz.prog 65 #[.pointer (some ⟨p,0,none⟩),.int .i64 o,.int .i64 n,.int .u64 (g : Int),.string t] u (RSays p F u (st.save o n g t)) := by
 by_cases hno : st.mayC o n /\ ¬ (g < 1 \/ 4611686018427387904 < g) /\ ¬ room n < (t.size : Int)
 · exact rSave_goes p o n g t st F u h hok hl hS hn ht hg hno.1 hno.2.1 hno.2.2
 · exact rSave_no p o n g t st F u h hS hn hg hno
theorem TextsAt.take {w : World} {b off : Nat} {l : List ByteArray} (h : TextsAt w b off l) (k : Nat) : TextsAt w b off (l.take k) := fun j hj => by
 rw [List.length_take] at hj
 rw [List.getElem_take]
 exact h j (by omega)
theorem TextsAt.drop {w : World} {b off : Nat} {l : List ByteArray} (h : TextsAt w b off l) (k : Nat) : TextsAt w b (off + k) (l.drop k) := fun j hj => by
 rw [List.length_drop] at hj
 rw [List.getElem_drop,Nat.add_assoc]
 exact h (k + j) (by omega)
theorem TextsAt.below {w w' : World} {b off : Nat} {l : List ByteArray} (h : TextsAt w b off l) (hb : Below w.heap.size w w') : TextsAt w' b off l := fun j hj => (hb.cell (p := ⟨b,off + j,none⟩) (World.block_lt_of_cell? w _ (h j hj))).trans (h j hj)
theorem own_texts {base n : Nat} {lv : Value} {u : World} {l : List ByteArray} (h : u.ownsRow base 9 1 lv n (l.map Value.string)) (hl : l ≠ []) : ∃ g cap,lv = .slice (some ⟨g,0,none⟩) l.length cap /\ l.length <= cap /\ TextsAt u g 0 l := by
 have hlen : l.length = n := by have := h.1; simp at this; exact this
 rcases h.2 with ⟨_,h0⟩ | ⟨g,cap,cur,rfl,hbg,hg,hn,hcc,hz,ht⟩
 · exact absurd (List.length_eq_zero_iff.1 (hlen.trans h0)) hl
 · refine ⟨g,cap,by rw [hlen],by omega,fun j hj => ?_⟩
   rw [Nat.zero_add,cell_of_row u g j cur 9 (0,0) hg]
   have hq : (l.map Value.string)[j]? = some (.string l[j]) := by simp [hj]
   rw [<- ht,Nat.mul_one,List.getElem?_take,if_pos (by omega),Array.getElem?_toList] at hq
   exact hq
theorem blocksAt_take (st : St) (a M : Nat) : (blocksAt st a (2 * M)).take M = blocksAt st a M := by
 unfold blocksAt
 rw [<- List.map_take,List.take_range,Nat.min_eq_left (by omega)]
theorem blocksAt_drop (st : St) (a M : Nat) : (blocksAt st a (2 * M)).drop M = blocksAt st (a + M) M := by
 apply List.ext_getElem
 · rw [List.length_drop,blocksAt_length,blocksAt_length]; omega
 · intro j h1 h2
   rw [List.getElem_drop]
   simp only [blocksAt,List.getElem_map,List.getElem_range,Nat.add_assoc]
set_option maxRecDepth 10000 in
set_option maxHeartbeats 4000000 in
theorem rLoad_in (p a M : Nat) (st : St) (F : Nat -> Prop) (w : World) (h : RD w p st F) (hok : st.Ok) (hl : st.loose.length <= 10000) (h2 : 2 <= M) (hM : M <= 2048) (ha : a + 2 * M <= st.sure.length) (h0 : st.left ≠ 0) (A B : Nat × ByteArray) (hA : wholeT (blocksAt st a M) 0 = A) (hB : wholeT (blocksAt st (a + M) M) 1 = B) (R : (Nat × ByteArray) × Nat) (hR : (if A.1 = 0 /\ B.1 = 0 then ((0,noText),5) else if B.1 < A.1 then (A,0) else (B,0)) = R)
   (KM : Calls Tryz.prog 89 #[.pointer (some ⟨p,0,none⟩),.int .i64 (a : Int),.int .i64 ((2 * M : Nat) : Int)] w fun e w' => e = .returned (.bool true) /\ w' = w) :
   Calls Tryz.prog 61 #[.pointer (some ⟨p,0,none⟩),.int .i64 (a : Int),.int .i64 ((2 * M : Nat) : Int)] w fun e v => e = .returned (.tuple #[.int .u64 ((R.1.1 : Nat) : Int),.string R.1.2,.int .i64 ((R.2 : Nat) : Int)]) /\ Below w.heap.size w v := by
 obtain ⟨i0,hi,hz0,hz1,hz2⟩ := info_parts info9
 have HI := hide (And.intro hi (And.intro hz0 (And.intro hz1 hz2)))
 clear hi hz0 hz1 hz2
 have HM := hide KM
 have hfew := hok.few
 have HRd : Hid (∀ (k : Nat) (u : World),k < 2 * M -> Below w.heap.size w u -> Calls Tryz.prog 90 #[.pointer (some ⟨p,0,none⟩),.int .i64 ((a : Int) + (k : Int))] u fun e v => e = .returned (.tuple #[.string (stands st.sure (a + k) st.loose.reverse),.int .i64 0]) /\ v = u) := fun k u hk hb => by
   have := rd_read p st F ((a : Int) + (k : Int)) u (h.below hb) hok (by omega)
   have e : st.read ((a : Int) + (k : Int)) = (stands st.sure (a + k) st.loose.reverse,0) := by
     unfold St.read
     rw [if_neg h0,if_neg (by omega),show ((a : Int) + (k : Int)).toNat = a + k from by omega]
   rw [e] at this
   exact this
 have HW : Hid (∀ (b : Nat) (c : Nat) (u : World),TextsAt u b 0 (blocksAt st a (2 * M)) -> Calls Tryz.prog 91 #[.slice (some ⟨b,0,none⟩) M c,.int .i64 0] u fun e w' => e = .returned (.tuple #[.int .u64 (A.1 : Int),.string A.2]) /\ Below u.heap.size u w') := fun b c u hT => by
   have := rWhole_any b 0 c 0 (blocksAt st a M) u (by have := hT.take M; rw [blocksAt_take] at this; exact this) (by rw [blocksAt_length]; omega) (by rw [blocksAt_length]; omega) (blocksAt_full hok a M (by omega)) (by decide)
   rw [blocksAt_length,hA] at this
   exact this
 have HW2 : Hid (∀ (b : Nat) (c : Nat) (u : World),TextsAt u b 0 (blocksAt st a (2 * M)) -> Calls Tryz.prog 91 #[.slice (some ⟨b,M,none⟩) M c,.int .i64 1] u fun e w' => e = .returned (.tuple #[.int .u64 (B.1 : Int),.string B.2]) /\ Below u.heap.size u w') := fun b c u hT => by
   have := rWhole_any b M c 1 (blocksAt st (a + M) M) u (by have := hT.drop M; rw [blocksAt_drop,Nat.zero_add] at this; exact this) (by rw [blocksAt_length]; omega) (by rw [blocksAt_length]; omega) (blocksAt_full hok (a + M) M (by omega)) (by decide)
   rw [blocksAt_length,hB] at this
   exact this
 have HRR := hide hR
 have hq : Int.tdiv ((2 * M : Nat) : Int) 2 = (M : Int) := by rw [tdiv2 (by omega)]; omega
 have hwM : wrap64 (M : Int) = (M : Int) := by unfold wrap64; omega
 have hA9 : a <= 4096 := by omega
 have HSz : Hid (2 <= M /\ M <= 2048 /\ a <= 4096) := ⟨h2,hM,hA9⟩
 clear h hok hl ha h0 hA hB hR KM hfew h2 hM hA9
 obtain ⟨N,hN⟩ : ∃ N,N = 2 * M := ⟨_,rfl⟩
 have HN := hide hN
 rw [<- hN] at HM HRd HW HW2 hq ⊢
 clear hN
 go_enter Tryz.func61,Tryz.ntmps61
 go_wp2_with fail
 refine HM.out.mono ?_
 rintro e w1 ⟨rfl,rfl⟩
 clear HM
 go_wp2_with fail
 go_loopw [9,10,11,12] (fun lv i _ _ wr => ∃ k : Nat,k <= N /\ i = .int .i64 (k : Int) /\ wr.ownsRow w1.heap.size 9 1 lv k ((blocksAt st a k).map Value.string) /\ Below w1.heap.size w1 wr) (fun _ i _ _ _ => N - (intOf i).toNat)
 case atStart => exact ⟨0,Nat.zero_le _,rfl,World.ownsRow_nil _ _ _ _,Below.refl _ _⟩
 case round =>
   obtain ⟨k,hk,rfl,hown,hbl⟩ := hrel
   have HO := hide hown
   have HB := hide hbl
   have hsz := hbl.size
   clear hown hbl
   by_cases hlt : k < N
   · have hz : (k : Int) < (N : Int) := by omega
     have hk4 : k < 4096 := by have h1 := HSz.out; have h2 := HN.out; omega
     have hwk : wrap64 ((a : Int) + (k : Int)) = (a : Int) + (k : Int) := by have := HSz.out; have := HN.out; unfold wrap64; omega
     have KR := hide (HRd.out k wr hlt HB.out)
     have HNx := hide (blocksAt_succ st a k)
     generalize stands st.sure (a + k) st.loose.reverse = t at *
     go_wp2_with fail
     refine KR.out.mono ?_
     rintro e w2 ⟨rfl,hw2⟩
     obtain rfl := hw2.symm
     clear hw2 KR
     go_wp2_with (at_builtin; refine wpList_append_own _ rfl _ _ 46 rfl w1.heap.size 9 i0 (.string ⟨#[]⟩) 1 16 Tryz.underlying46 HI.out.1 HI.out.2.1 HI.out.2.2.1 HI.out.2.2.2 rfl (by decide) _ _ _ rfl (HO.out.alloc _) ⟨wr.heap.size,0,none⟩ 1 1 [.string t] rfl rfl ?c1 ?c2 ?c3 ?c4 ?c5 ?_)
     case c1 =>
       intro j u hj
       match j,hj with
       | 0,hj => simp at hj; subst hj; simp [Addr.add,go_sem]
     case c2 => first | rfl | (intro u hu; simp at hu; subst hu; rfl)
     case c3 => unfold maxLen; omega
     case c4 => omega
     case c5 => first | omega | (simp; omega)
     · intro lv' w3 hown3 hgrow3 _
       rw [map_snoc7, <- HNx.out] at hown3
       have HO3 := hide hown3
       have HB3 := hide ((HB.out.alloc hsz (.cells #[.string t] 9)).grown hgrow3 (by simp; omega) (fun j hj => (World.ownsRow.lt HO.out j hj).1))
       clear hown3 hgrow3
       go_wp2
       go_roundw
       case rel => exact ⟨k + 1,hlt,by go_num,HO3.out,HB3.out⟩
       case measure => simp [intOf]; omega
   · have hke : k = N := by omega
     subst hke
     have hz : ¬ ((k : Int) < (k : Int)) := by omega
     obtain ⟨g,cap,rfl,hcap,hT⟩ := own_texts HO.out (fun e => by have e2 := congrArg List.length e; rw [blocksAt_length] at e2; have := HSz.out; have := HN.out; simp at e2; omega)
     rw [blocksAt_length] at hcap ⊢
     have HT := hide hT
     have h1 : (0 : Int) <= (M : Int) := by omega
     have h2 : (M : Int) <= (k : Int) := by have := HN.out; omega
     have h3 : (M : Int) <= (cap : Int) := by have := HN.out; omega
     have h4 : (k : Int) <= (cap : Int) := by omega
     have h5 : (k : Int) - (M : Int) = (M : Int) := by have := HN.out; omega
     have h6 : k - M = M := by have := HN.out; omega
     have h7 : (M : Int) < (cap : Int) := by have := HN.out; have := HSz.out; omega
     have h8 : ¬ (cap = M) := by omega
     have h9 : ¬ (M = cap) := by omega
     have h10 : M < cap := by omega
     have KW := hide (HW.out g cap wr HT.out)
     clear hT HW hlt hk
     go_wp2_with fail
     refine KW.out.mono ?_
     rintro e w4 ⟨rfl,hb4⟩
     have HB4 := hide (bnext HB.out hb4)
     have KW2 := hide (HW2.out g (cap - M) w4 (HT.out.below hb4))
     clear hb4 KW HW2 HT HB
     go_wp2_with fail
     refine KW2.out.mono ?_
     rintro e w5 ⟨rfl,hb5⟩
     have HB5 := hide (bnext HB4.out hb5)
     clear hb5 KW2 HB4
     obtain ⟨ga,ta⟩ := A
     obtain ⟨gb,tb⟩ := B
     have HR1 : Hid ((if ga = 0 /\ gb = 0 then ((0,noText),5) else if gb < ga then ((ga,ta),0) else ((gb,tb),0)) = R) := HRR.out
     clear HRR
     have hg0 : True := trivial
     by_cases ha0 : ga = 0
     · by_cases hb0 : gb = 0
       · have HQ : Hid (R = ((0,noText),5)) := by show _ = _; rw [<- HR1.out,if_pos ⟨ha0,hb0⟩]
         clear HR1
         subst ha0 hb0
         go_wp2
         go_ret3
         rw [HQ.out]
         exact ⟨rfl,HB5.out⟩
       · have HQ : Hid (R = ((gb,tb),0)) := by show _ = _; rw [<- HR1.out,if_neg (fun x => hb0 x.2),if_neg (by omega)]
         have q1 : ¬ ((gb : Int) = 0) := by omega
         have q2 : ¬ ((gb : Int) < 0) := by omega
         clear HR1
         subst ha0
         go_wp2
         go_ret3
         rw [HQ.out]
         exact ⟨rfl,HB5.out⟩
     · have q0 : ¬ ((ga : Int) = 0) := by omega
       by_cases hlt2 : gb < ga
       · have HQ : Hid (R = ((ga,ta),0)) := by show _ = _; rw [<- HR1.out,if_neg (fun x => ha0 x.1),if_pos hlt2]
         have q1 : (gb : Int) < (ga : Int) := by omega
         clear HR1 ha0 hlt2
         go_wp2
         go_ret3
         rw [HQ.out]
         exact ⟨rfl,HB5.out⟩
       · have HQ : Hid (R = ((gb,tb),0)) := by show _ = _; rw [<- HR1.out,if_neg (fun x => ha0 x.1),if_neg hlt2]
         have q1 : ¬ ((gb : Int) < (ga : Int)) := by omega
         clear HR1 ha0 hlt2
         go_wp2
         go_ret3
         rw [HQ.out]
         exact ⟨rfl,HB5.out⟩
set_option maxRecDepth 10000 in
set_option maxHeartbeats 4000000 in
theorem rLoad_no (p : Nat) (o n : Int) (w : World) (KM : Calls Tryz.prog 89 #[.pointer (some ⟨p,0,none⟩),.int .i64 o,.int .i64 n] w fun e w' => e = .returned (.bool false) /\ w' = w) :
   Calls Tryz.prog 61 #[.pointer (some ⟨p,0,none⟩),.int .i64 o,.int .i64 n] w fun e v => e = .returned (.tuple #[.int .u64 0,.string noText,.int .i64 2]) /\ Below w.heap.size w v := by
 have HM := hide KM
 clear KM
 go_enter Tryz.func61,Tryz.ntmps61
 go_wp2_with fail
 refine HM.out.mono ?_
 rintro e w1 ⟨rfl,rfl⟩
 clear HM
 go_wp2
 go_ret3
 exact ⟨rfl,Below.refl _ _⟩
set_option maxRecDepth 10000 in
set_option maxHeartbeats 4000000 in
theorem rLoad_down (p a N : Nat) (w : World) (KM : Calls Tryz.prog 89 #[.pointer (some ⟨p,0,none⟩),.int .i64 (a : Int),.int .i64 (N : Int)] w fun e w' => e = .returned (.bool true) /\ w' = w) (h1 : 1 <= N) (ha : a <= 4096)
   (KR : Calls Tryz.prog 90 #[.pointer (some ⟨p,0,none⟩),.int .i64 (a : Int)] w fun e v => e = .returned (.tuple #[.string noText,.int .i64 50]) /\ v = w) :
   Calls Tryz.prog 61 #[.pointer (some ⟨p,0,none⟩),.int .i64 (a : Int),.int .i64 (N : Int)] w fun e v => e = .returned (.tuple #[.int .u64 0,.string noText,.int .i64 50]) /\ Below w.heap.size w v := by
 have HM := hide KM
 have HR := hide KR
 have hz : (0 : Int) < (N : Int) := by omega
 have hwk : wrap64 (a : Int) = (a : Int) := by unfold wrap64; omega
 clear KM KR h1 ha
 go_enter Tryz.func61,Tryz.ntmps61
 go_wp2_with fail
 refine HM.out.mono ?_
 rintro e w1 ⟨rfl,rfl⟩
 clear HM
 go_wp2_with fail
 go_loopw [9,10,11,12] (fun lv i _ _ wr => i = .int .i64 0 /\ wr = w1) (fun _ _ _ _ _ => 0)
 case atStart => exact ⟨rfl,rfl⟩
 case round =>
   obtain ⟨rfl,hwr⟩ := hrel
   obtain rfl := hwr.symm
   go_wp2_with fail
   refine HR.out.mono ?_
   rintro e w2 ⟨rfl,hw2⟩
   obtain rfl := hw2.symm
   go_wp2
   go_ret3
   exact ⟨rfl,Below.refl _ _⟩
theorem rLoad_any (p : Nat) (o n : Int) (st : St) (F : Nat -> Prop) (w : World) (h : RD w p st F) (hok : st.Ok) (hl : st.loose.length <= 10000) (hS : st.sure.length <= 4096) (hn : -9223372036854775808 <= n /\ n <= 9223372036854775807) :
   Calls Tryz.prog 61 #[.pointer (some ⟨p,0,none⟩),.int .i64 o,.int .i64 n] w fun e v => e = .returned (.tuple #[.int .u64 (((st.load o n).1.1 : Nat) : Int),.string (st.load o n).1.2,.int .i64 (((st.load o n).2 : Nat) : Int)]) /\ Below w.heap.size w v := by
 have KM := rd_mayC p st F o n w h hS hn
 by_cases hm : st.mayC o n
 · rw [decide_eq_true hm] at KM
   obtain ⟨p1,p2,p3,p4⟩ := room_pos hm.1
   obtain ⟨m1,m2,m3⟩ := hm
   obtain ⟨a,rfl⟩ : ∃ a : Nat,o = (a : Int) := ⟨o.toNat,by omega⟩
   obtain ⟨M,rfl⟩ : ∃ M : Nat,n = ((2 * M : Nat) : Int) := ⟨n.toNat / 2,by omega⟩
   by_cases h0 : st.left = 0
   · have e : st.load (a : Int) ((2 * M : Nat) : Int) = ((0,noText),50) := by unfold St.load; rw [if_neg (fun hh => hh ⟨m1,m2,m3⟩),if_pos h0]
     rw [e]
     have kr := rd_read p st F (a : Int) w h hok (by omega)
     have er : st.read (a : Int) = (noText,50) := by unfold St.read; rw [if_pos h0]
     rw [er] at kr
     exact rLoad_down p a (2 * M) w KM (by omega) (by omega) kr
   · have e0 : slotAt (a : Int) ((2 * M : Nat) : Int) 0 = a := by unfold slotAt; simp
     have e1 : slotAt (a : Int) ((2 * M : Nat) : Int) 1 = a + M := by unfold slotAt; rw [Int.toNat_natCast,Int.toNat_natCast,Nat.mul_div_cancel_left M (by decide)]; omega
     have e2 : ((2 * M : Nat) : Int).toNat / 2 = M := by rw [Int.toNat_natCast,Nat.mul_div_cancel_left M (by decide)]
     refine rLoad_in p a M st F w h hok hl (by omega) (by omega) (by omega) h0 _ _ rfl rfl _ ?_ KM
     have key : ¬ ¬ st.mayC (a : Int) ((2 * M : Nat) : Int) := fun hh => hh ⟨m1,m2,m3⟩
     conv => rhs; unfold St.load; rw [if_neg key,if_neg h0,e0,e1,e2]
 · rw [decide_eq_false hm] at KM
   have e : st.load o n = ((0,noText),2) := by unfold St.load; rw [if_pos hm]
   rw [e]
   exact rLoad_no p o n w KM
end Go.Proofs.YtchhojkhfdkhfaaGreatDoor
