/- Joined texts. -/
import Derived.Test.YtchhojkhfdkhfaaGreatDoorP31
import Derived.Test.YtchhojkhfdkhfaaGreatDoorP07
import Derived.Test.YtchhojkhfdkhfaaGreatDoorP05
namespace Go.Proofs.YtchhojkhfdkhfaaGreatDoor
open Go Go.RowKit Frm
def bl7 (l : List UInt8) : List Value := l.map fun b => .int .u8 (b.toNat : Int)
theorem own_bytes {base n : Nat} {lv : Value} {u : World} {l : List UInt8} (h : u.ownsRow base 5 1 lv n (bl7 l)) (hl : l ≠ []) :
   (convert 77 9 lv).run Tryz.prog u = .ok (.string ⟨l.toArray⟩) u := by
 have hlen : l.length = n := by have := h.1; simp [bl7] at this; exact this
 rcases h.2 with ⟨_,h0⟩ | ⟨g,cap,cur,rfl,_,hg,hn,_,_,ht⟩
 · exact absurd (List.length_eq_zero_iff.1 (hlen.trans h0)) hl
 · rw [<- hlen]
   refine run_convert_bytes_back u 77 9 5 ⟨g,0,none⟩ cap l Tryz.underlying77 Tryz.underlying5 Tryz.underlying9 (fun j hj => ?_)
   have hadd : (⟨g,0,none⟩ : Addr).add j = ⟨g,j,none⟩ := by unfold Addr.add; split <;> simp_all
   rw [hadd,cell_of_row u g j cur 5 (0,0) hg]
   have hq : (bl7 l)[j]? = some (.int .u8 (l[j].toNat : Int)) := by unfold bl7; simp [hj]
   rw [<- ht,Nat.mul_one,List.getElem?_take,if_pos (by omega),Array.getElem?_toList] at hq
   exact hq
theorem bl_low (x k : Nat) : bl7 (lowL x k) ++ [.int .u8 (((lowAt x k).toNat : Nat) : Int)] = bl7 (lowL x (k + 1)) := by
 rw [lowL_succ]; unfold bl7; rw [List.map_append]; rfl
set_option maxRecDepth 10000 in
set_option maxHeartbeats 2000000 in
theorem rLow_any (x n : Nat) (w : World) (hn : 1 <= n) (h8 : n <= 8) :
   Calls Tryz.prog 126 #[.int .u64 (x : Int),.int .i64 (n : Int)] w fun e w' => e = .returned (.string ⟨(lowL x n).toArray⟩) /\ Below w.heap.size w w' := by
 obtain ⟨i0,hi,hz0,hz1,hz2⟩ := info_parts info5
 have HI := hide (And.intro hi (And.intro hz0 (And.intro hz1 hz2)))
 clear hi hz0 hz1 hz2
 go_enter Tryz.func126,Tryz.ntmps126
 go_wp2_with fail
 go_loopw [5,6] (fun lv i wr => ∃ k : Nat,k <= n /\ i = .int .i64 (k : Int) /\ wr.ownsRow w.heap.size 5 1 lv k (bl7 (lowL x k)) /\ Below w.heap.size w wr) (fun _ i _ => n - (intOf i).toNat)
 case atStart => exact ⟨0,Nat.zero_le _,rfl,by exact World.ownsRow_nil _ _ _ _,Below.refl _ _⟩
 case round =>
   obtain ⟨k,hk,rfl,hown,hbl⟩ := hrel
   have HO := hide hown
   have HB := hide hbl
   have hsz := hbl.size
   clear hown hbl
   by_cases hlt : k < n
   · have hz : (k : Int) < (n : Int) := by omega
     have hw1 : wrap64 (8 * (k : Int)) = 8 * (k : Int) := by unfold wrap64; omega
     have h80 : ¬ (8 * (k : Int) < 0) := by omega
     have h81 : (8 * (k : Int)) % 18446744073709551616 = 8 * (k : Int) := by omega
     have HLo := hide (low_int x k)
     go_wp2_with (at_builtin; refine wpList_append_own _ rfl _ _ 77 rfl w.heap.size 5 i0 (.int .u8 0) 1 1 Tryz.underlying77 HI.out.1 HI.out.2.1 HI.out.2.2.1 HI.out.2.2.2 rfl (by decide) _ _ _ rfl (HO.out.alloc _) ⟨wr.heap.size,0,none⟩ 1 1 [.int .u8 ((x : Int) / 2 ^ (8 * k) % 256)] rfl rfl ?c1 ?c2 ?c3 ?c4 ?c5 ?_)
     case c2 => first | rfl | (intro u hu; simp at hu; subst hu; rfl)
     case c3 => unfold maxLen; omega
     case c4 => omega
     case c5 => first | omega | (simp; omega)
     · intro lv' w1 hown1 hgrow1 _
       rw [HLo.out,bl_low] at hown1
       have HO1 := hide hown1
       have HB1 := hide ((HB.out.alloc hsz (.cells #[.int .u8 ((x : Int) / 2 ^ (8 * k) % 256)] 5)).grown hgrow1 (by simp; omega) (fun j hj => (World.ownsRow.lt HO.out j hj).1))
       clear hown1 hgrow1
       go_wp2
       go_roundw
       case rel => exact ⟨k + 1,hlt,by go_num,HO1.out,HB1.out⟩
       case measure => simp [intOf]; omega
   · have hke : k = n := by omega
     subst hke
     have hz : ¬ ((k : Int) < (k : Int)) := by omega
     have hcv := own_bytes HO.out (fun e => by have := lowL_length x k; rw [e] at this; simp at this; omega)
     go_wp2
     go_ret
     exact ⟨rfl,HB.out⟩


def zc (n : Nat) : Array Value := madeCells (Value.int .u8 0).cells n
theorem zc_at (n j : Nat) (h : j < n) : (zc n)[j]? = some (.int .u8 0) := by
 unfold zc madeCells
 simp [h,Value.cells,Nat.mod_one]
theorem zcmake (n : Nat) (hn : n <= 256) (u : World) : (Instr.makeSlice 77 (.int .i64 (n : Int)) (.int .i64 (n : Int))).run Tryz.prog u = .ok (.slice (some ⟨u.heap.size,0,none⟩) n n) (u.alloc (.cells (zc n) 5)) := by
 obtain ⟨i,hi,hz0,hz1,hz2⟩ := info_parts info5
 have h := run_make (P := Tryz.prog) u 77 5 i (.int .u8 0) Tryz.underlying77 hi hz0 .i64 .i64 (n : Int) (n : Int) (by omega) (by omega) (by rw [hz2]; omega) (by omega)
 rw [hz1] at h
 simpa [zc] using h
theorem zctext (n : Nat) (u v : World) (h : v.heap[u.heap.size]? = some (.cells (zc n) 5)) : (convert 77 9 (.slice (some ⟨u.heap.size,0,none⟩) n n)).run Tryz.prog v = .ok (.string (zs n)) v := by
 have key := run_convert_bytes_back (P := Tryz.prog) v 77 9 5 ⟨u.heap.size,0,none⟩ n (List.replicate n 0) Tryz.underlying77 Tryz.underlying5 Tryz.underlying9 (fun j hj => by
   have hj' : j < n := by rw [List.length_replicate] at hj; exact hj
   rw [add_at,cell_of_row _ _ _ _ _ _ h,zc_at n j hj',List.getElem_replicate]
   rfl)
 rw [List.length_replicate] at key
 exact key
theorem head_text (g : Nat) (t : ByteArray) : (⟨(lowL g 8).toArray⟩ ++ ⟨(lowL t.size 4).toArray⟩ ++ ⟨(lowL (sumT t) 4).toArray⟩ ++ zs 239 ++ ⟨#[165]⟩ : ByteArray) = headT g t := by
 apply ByteArray.ext
 unfold headT headL
 simp only [ByteArray.data_append]
 show (lowL g 8).toArray ++ (lowL t.size 4).toArray ++ (lowL (sumT t) 4).toArray ++ (List.replicate 239 0).toArray ++ [165].toArray = _
 generalize List.replicate 239 (0 : UInt8) = z
 simp only [List.append_toArray]
set_option maxRecDepth 10000 in
set_option maxHeartbeats 2000000 in
theorem rHead_any (g : Nat) (t : ByteArray) (w : World) (ht : t.size <= 100000000) :
   Calls Tryz.prog 100 #[.int .u64 (g : Int),.string t] w fun e w' => e = .returned (.string (headT g t)) /\ Below w.heap.size w w' := by
 have K1 := hide (rLow_any g 8 w (by decide) (by decide))
 have K2 := hide (fun u => rLow_any t.size 4 u (by decide) (by decide))
 have KO : Hid (∀ u,Calls Tryz.prog 127 #[.string t] u fun e w' => e = .returned (.int .u32 ((sumT t : Nat) : Int)) /\ w' = u) := fun u => refOf_any t u (by unfold maxLen; omega)
 have K3 := hide (fun u => rLow_any (sumT t) 4 u (by decide) (by decide))
 have HE := hide (head_text g t)
 have hsm : ((sumT t : Nat) : Int) % 18446744073709551616 = ((sumT t : Nat) : Int) := by have := sumT_lt t; omega
 have hsm2 : IntKind.u64.wrap ((sumT t : Nat) : Int) = ((sumT t : Nat) : Int) := by rw [IntKind.wrap_u64]; exact hsm
 have HZ := hide (fun u => zcmake 239 (by decide) u)
 have s1 : (⟨(lowL g 8).toArray⟩ : ByteArray).size = 8 := by show (lowL g 8).toArray.size = 8; rw [List.size_toArray,lowL_length]
 have s2 : (⟨(lowL t.size 4).toArray⟩ : ByteArray).size = 4 := by show (lowL t.size 4).toArray.size = 4; rw [List.size_toArray,lowL_length]
 have s3 : (⟨(lowL (sumT t) 4).toArray⟩ : ByteArray).size = 4 := by show (lowL (sumT t) 4).toArray.size = 4; rw [List.size_toArray,lowL_length]
 have hts : ((t.size : Nat) : Int) % 18446744073709551616 = ((t.size : Nat) : Int) := by omega
 have hts2 : IntKind.u64.wrap ((t.size : Nat) : Int) = ((t.size : Nat) : Int) := by rw [IntKind.wrap_u64]; exact hts
 generalize (⟨(lowL g 8).toArray⟩ : ByteArray) = b1 at *
 generalize (⟨(lowL t.size 4).toArray⟩ : ByteArray) = b2 at *
 generalize (⟨(lowL (sumT t) 4).toArray⟩ : ByteArray) = b3 at *
 have hz9 := zs_size 239
 go_enter Tryz.func100,Tryz.ntmps100
 go_wp2_with fail
 refine K1.out.mono ?_
 rintro e w1 ⟨rfl,hb1⟩
 have HB1 := hide hb1
 clear hb1 K1
 go_wp2_with fail
 refine (K2.out w1).mono ?_
 rintro e w2 ⟨rfl,hb2⟩
 have HB2 := hide (bnext HB1.out hb2)
 clear hb2 HB1
 go_wp2_with fail
 refine (KO.out w2).mono ?_
 rintro e w3 ⟨rfl,rfl⟩
 generalize sumT t = sm at *
 clear KO
 go_wp2_with fail
 refine (K3.out _).mono ?_
 rintro e w4 ⟨rfl,hb4⟩
 have HB4 := hide (bnext HB2.out hb4)
 clear hb4 HB2 K2 K3
 have hzm : (Instr.makeSlice 77 (.int .i64 239) (.int .i64 239)).run Tryz.prog w4 = .ok (.slice (some ⟨w4.heap.size,0,none⟩) 239 239) (w4.alloc (.cells (zc 239) 5)) := zcmake 239 (by decide) w4
 have hzt := zctext 239 w4 (w4.alloc (.cells (zc 239) 5)) (heap_alloc_last w4 _)
 clear HZ
 generalize zs 239 = z at *
 go_wp2
 go_ret
 exact ⟨by rw [HE.out]; rfl,HB4.out.alloc HB4.out.size _⟩

theorem num_next (l : List UInt8) (k : Nat) (hk : k < l.length) : numL (l.drop k) = l[k].toNat + 256 * numL (l.drop (k + 1)) := by
 rw [List.drop_eq_getElem_cons hk]; rfl
theorem or_low (x b : Nat) (hx : x < 72057594037927936) (hb : b < 256) : bits .or .u64 (IntKind.u64.wrap ((x : Int) * 256)) (IntKind.u64.wrap (b : Int)) = ((b + 256 * x : Nat) : Int) := by
 rw [IntKind.wrap_u64,IntKind.wrap_u64,show (x : Int) * 256 % 18446744073709551616 = ((x * 256 : Nat) : Int) from by omega,show (b : Int) % 18446744073709551616 = (b : Int) from by omega]
 have h := u64_or_nat (x * 256) b (by omega) (by omega)
 have h2 := Nat.two_pow_add_eq_or_of_lt (i := 8) (b := b) hb x
 rw [show 2 ^ 8 * x = x * 256 from by omega] at h2
 rw [h, <- h2]
 congr 1
 omega
set_option maxRecDepth 10000 in
set_option maxHeartbeats 1000000 in
theorem rNumber_any (s : ByteArray) (w : World) (h8 : s.size <= 8) :
   Calls Tryz.prog 124 #[.string s] w fun e w' => e = .returned (.int .u64 ((numL s.data.toList : Nat) : Int)) /\ w' = w := by
 have hlen : s.data.toList.length = s.size := by simp
 have HN := hide (num_next s.data.toList)
 have HT := hide (numL_lt s.data.toList)
 have HL := hide hlen
 clear hlen
 go_enter Tryz.func124,Tryz.ntmps124
 go_wp2_with fail
 go_loop [3,4] (fun n i => ∃ k : Nat,k <= s.size /\ i = .int .i64 ((k : Int) - 1) /\ n = .int .u64 ((numL (s.data.toList.drop k) : Nat) : Int)) (fun _ i => (intOf i + 1).toNat)
 case atStart => exact ⟨s.size,Nat.le_refl _,by first | rfl | (congr 1; unfold wrap64; omega),by rw [List.drop_of_length_le (by rw [HL.out]; omega)]; rfl⟩
 case round =>
   obtain ⟨k,hk,rfl,rfl⟩ := hrel
   cases k with
   | zero =>
     go_wp2
     go_ret
     exact ⟨rfl,rfl⟩
   | succ k =>
     go_wp2
     have hkl : k < s.data.toList.length := by rw [HL.out]; omega
     have h1 := HN.out k hkl
     have h2 := numL_lt (s.data.toList.drop (k + 1))
     rw [List.length_drop,HL.out] at h2
     have h3 : 256 ^ (s.size - (k + 1)) <= 256 ^ 7 := Nat.pow_le_pow_right (by decide) (by omega)
     have h4 := or_low (numL (s.data.toList.drop (k + 1))) s[k].toNat (by have : 256 ^ 7 = 72057594037927936 := by decide
                                                                          omega) (s[k].toNat_lt)
     refine ⟨⟨k,by omega,rfl,?_⟩,?_⟩
     · rw [h4,h1]; rfl
     · simp [intOf]

theorem blk_cut (t : ByteArray) (k lo hi : Nat) (hlo : lo = min (k * 256) t.size) (hhi : hi = min (lo + 256) t.size) : t.extract lo hi ++ zs (256 - (hi - lo)) = blkT t k := by
 unfold blkT
 have h1 : 256 - (hi - lo) = 256 - min 256 (t.size - k * 256) := by omega
 rw [h1]
 congr 1
 by_cases e : k * 256 <= t.size
 · rw [show lo = k * 256 from by omega]
   apply ByteArray.ext
   rw [ByteArray.data_extract,ByteArray.data_extract]
   have hsz : t.data.size = t.size := rfl
   apply Array.ext
   · simp; omega
   · intro i a b; simp
 · refine bytes_ext (by rw [ByteArray.size_extract,ByteArray.size_extract]; omega) (fun j hj => ?_)
   rw [ByteArray.size_extract] at hj
   omega
set_option maxRecDepth 10000 in
set_option maxHeartbeats 2000000 in
theorem rBlock_any7 (t : ByteArray) (k : Nat) (w : World) (hk : k <= 1000000) (ht : t.size <= 140737488351232) :
   Calls Tryz.prog 99 #[.string t,.int .i64 (k : Int)] w fun e w' => e = .returned (.string (blkT t k)) /\ Below w.heap.size w w' := by
 obtain ⟨lo,hlo⟩ : ∃ lo,lo = min (k * 256) t.size := ⟨_,rfl⟩
 obtain ⟨hi,hhi⟩ : ∃ hi,hi = min (lo + 256) t.size := ⟨_,rfl⟩
 have hz3 : wrap64 ((k : Int) * 256) = (k : Int) * 256 := by unfold wrap64; omega
 have hm1 : (if (t.size : Int) < (k : Int) * 256 then (t.size : Int) else (k : Int) * 256) = (lo : Int) := by split <;> omega
 have hz4 : wrap64 ((lo : Int) + 256) = (lo : Int) + 256 := by unfold wrap64; omega
 have hm2 : (if (t.size : Int) < (lo : Int) + 256 then (t.size : Int) else (lo : Int) + 256) = (hi : Int) := by split <;> omega
 obtain ⟨m,hm⟩ : ∃ m,m = hi - lo := ⟨_,rfl⟩
 obtain ⟨z,hz⟩ : ∃ z,z = 256 - m := ⟨_,rfl⟩
 have HE : Hid (t.extract lo hi ++ zs z = blkT t k) := by show _ = _; rw [hz,hm]; exact blk_cut t k lo hi hlo hhi
 have HSz : Hid ((t.extract lo hi).size = m) := by show _ = _; rw [ByteArray.size_extract]; omega
 have HI : Hid ((lo : Int) <= (hi : Int) /\ (hi : Int) <= (t.size : Int) /\ wrap64 ((hi : Int) - (lo : Int)) = (m : Int) /\ wrap64 (256 - (m : Int)) = (z : Int) /\ z <= 256 /\ m <= 256 /\ IntKind.i64.wrap ((hi : Int) - (lo : Int)) = (m : Int) /\ IntKind.i64.wrap (256 - (m : Int)) = (z : Int)) := by
   have e1 : wrap64 ((hi : Int) - (lo : Int)) = (m : Int) := by unfold wrap64; omega
   have e2 : wrap64 (256 - (m : Int)) = (z : Int) := by unfold wrap64; omega
   exact ⟨by omega,by omega,e1,e2,by omega,by omega,by rw [IntKind.wrap_i64]; omega,by rw [IntKind.wrap_i64]; omega⟩
 clear hlo hhi hm hz
 go_enter Tryz.func99,Tryz.ntmps99
 go_upto_region 3 with fail
 obtain ⟨h1,h2,h3,h4,h5,h6,h7,h8⟩ := HI.out
 have hzm := fun u => zcmake z h5 u
 have hzt := zctext z w (w.alloc (.cells (zc z) 5)).drew (heap_alloc_last w _)
 have hsz := HSz.out
 have hzs := zs_size z
 have hrev : ¬ ((hi : Int) < (lo : Int)) := by omega
 have hcat : ¬ (9223372036854775807 < m + z) := by omega
 clear hm1 hm2 hz3 hz4 HI
 generalize zs z = zz at *
 have hsz2 : t.extract lo hi ++ zz = blkT t k := HE.out
 go_region_law (fail)
 have HB : Below w.heap.size w (w.alloc (.cells (zc z) 5)).drew := ((Below.refl _ _).alloc (Nat.le_refl _) _).drew
 go_wp2
 go_ret
 exact ⟨rfl,HB⟩
end Go.Proofs.YtchhojkhfdkhfaaGreatDoor
