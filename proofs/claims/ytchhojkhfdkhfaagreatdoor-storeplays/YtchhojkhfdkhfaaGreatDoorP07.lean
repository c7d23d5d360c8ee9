/- Joined texts. -/
import Derived.Test.YtchhojkhfdkhfaaGreatDoorProg
import Derived.Test.YtchhojkhfdkhfaaGreatDoorP00
import Derived.WalkKit
import Derived.WalkSpells
import Derived.Laws.BitsAllLaws
namespace Go.Proofs.YtchhojkhfdkhfaaGreatDoor.Frm
open Go Go.RowKit

theorem val_u32 {a : Int} {b : Nat} (h : a = (b : Int)) : Value.int .u32 a = .int .u32 (b : Int) := by rw [h]
theorem ret_u32 {a : Int} {b : Nat} (h : a = (b : Int)) : Ending.returned (.int .u32 a) = .returned (.int .u32 (b : Int)) := by rw [h]
theorem and_one (c : Nat) (hc : c < 4294967296) : bits .and .u32 (c : Int) 1 = ((c % 2 : Nat) : Int) := by
 have h := u32_and_nat c 1 hc (by decide)
 rw [Nat.and_one_is_mod] at h
 exact h
theorem xor_poly (c : Nat) (hc : c < 4294967296) : bits .xor .u32 ((c : Int) / 2) 2197175160 = ((c / 2 ^^^ 2197175160 : Nat) : Int) := by
 have h := u32_xor_nat (c / 2) 2197175160 (by omega) (by decide)
 rw [show ((c / 2 : Nat) : Int) = (c : Int) / 2 from by omega] at h
 exact h
theorem not_u32 (c : Nat) (hc : c < 4294967296) : bits .xor .u32 IntKind.u32.max (c : Int) = ((cpl c : Nat) : Int) := by
 have h := u32_xor_nat 4294967295 c (by decide) hc
 rw [Nat.xor_comm] at h
 exact h
theorem byte_mod (b : UInt8) : ((b.toNat : Nat) : Int) % 4294967296 = ((b.toNat : Nat) : Int) := by have := b.toNat_lt; omega
theorem stp_odd {c : Nat} (h : c % 2 = 1) : stp c = c / 2 ^^^ 2197175160 := by unfold stp; rw [if_pos h]
theorem stp_even {c : Nat} (h : c % 2 = 0) : stp c = c / 2 := by unfold stp; rw [if_neg (by omega)]

set_option maxHeartbeats 1000000 in
theorem refMore_core (c : Nat) (s : ByteArray) (F : Nat -> Nat) (w : World) (hc : c < 4294967296) (hs : s.size <= maxLen)
   (h0 : F 0 = cpl c) (hF : ∀ k,F k < 4294967296) (hn : ∀ k (h : k < s.size),F (k + 1) = stps 8 (F k ^^^ s[k].toNat)) :
   Calls Tryz.prog 150 #[.int .u32 (c : Int),.string s] w fun e w' => e = .returned (.int .u32 ((cpl (F s.size) : Nat) : Int)) /\ w' = w := by
 unfold maxLen at hs
 have H0 : Hid (F 0 = cpl c) := h0
 have HF : Hid (∀ k,F k < 4294967296) := hF
 have HN : Hid (∀ k (h : k < s.size),F (k + 1) = stps 8 (F k ^^^ s[k].toNat)) := hn
 have HC : Hid (c < 4294967296) := hc
 clear h0 hF hn hc
 go_enter Tryz.func150,Tryz.ntmps150
 go_wp2_with fail
 go_loop [5,6,7] (fun t i _ => ∃ k : Nat,k <= s.size /\ i = .int .i64 k /\ t = .int .u32 ((F k : Nat) : Int)) (fun _ i _ => s.size - (intOf i).toNat)
 case atStart => exact ⟨0,Nat.zero_le _,rfl,val_u32 (by rw [H0.out]; exact not_u32 c HC.out)⟩
 case round =>
   obtain ⟨k,hk,rfl,rfl⟩ := hrel
   by_cases hlt : k < s.size
   · have HX : Hid (bits .xor .u32 ((F k : Nat) : Int) ((s[k].toNat : Nat) : Int) = ((F k ^^^ s[k].toNat : Nat) : Int)) := u32_xor_nat (F k) s[k].toNat (HF.out k) (by have := s[k].toNat_lt; omega)
     have HL : Hid (F k ^^^ s[k].toNat < 4294967296) := Nat.xor_lt_two_pow (n := 32) (HF.out k) (by have := s[k].toNat_lt; omega)
     have HS := HN.out k hlt
     have HS2 : Hid (F (k + 1) = stps 8 (F k ^^^ s[k].toNat)) := HS
     clear HS
     go_wp2_with fail
     go_loop [5,7] (fun t q => ∃ j : Nat,j <= 8 /\ q = .int .i64 j /\ t = .int .u32 ((stps j (F k ^^^ s[k].toNat) : Nat) : Int)) (fun _ q => 8 - (intOf q).toNat)
     case atStart => exact ⟨0,Nat.zero_le _,rfl,val_u32 (by rw [byte_mod]; exact HX.out)⟩
     case round =>
       obtain ⟨j,hj,rfl,rfl⟩ := hrel
       have HY : Hid (stps j (F k ^^^ s[k].toNat) < 4294967296) := stps_lt j HL.out
       have HT : Hid (stps (j + 1) (F k ^^^ s[k].toNat) = stp (stps j (F k ^^^ s[k].toNat))) := stps_succ _ _
       by_cases hj8 : j < 8
       · generalize stps j (F k ^^^ s[k].toNat) = y at *
         have ha := and_one y HY.out
         by_cases hodd : y % 2 = 1
         · have hb : bits .and .u32 (y : Int) 1 = 1 := by rw [ha,hodd]; rfl
           have HO : Hid (y % 2 = 1) := hodd
           clear ha hodd
           go_wp2
           go_round
           case rel => exact ⟨j + 1,by omega,by go_num,val_u32 (by rw [HT.out,stp_odd HO.out]; exact xor_poly y HY.out)⟩
           case measure => simp [intOf]; omega
         · have hev : y % 2 = 0 := by omega
           have hb : bits .and .u32 (y : Int) 1 = 0 := by rw [ha,hev]; rfl
           have HO : Hid (y % 2 = 0) := hev
           clear ha hodd hev
           go_wp2
           go_round
           case rel => exact ⟨j + 1,by omega,by go_num,val_u32 (by rw [HT.out,stp_even HO.out]; omega)⟩
           case measure => simp [intOf]; omega
       · have hje : 8 = j := by omega
         subst hje
         rw [<- HS2.out]
         go_wp2
         go_round
         case rel => exact ⟨k + 1,by omega,by go_num,rfl⟩
         case measure => simp [intOf]; omega
   · go_wp2_with fail
     go_ret
     have hke : k = s.size := by omega
     subst hke
     exact ⟨ret_u32 (not_u32 _ (HF.out _)),rfl⟩

theorem refMore_any (c : Nat) (s : ByteArray) (w : World) (hc : c < 4294967296) (hs : s.size <= maxLen) :
   Calls Tryz.prog 150 #[.int .u32 (c : Int),.string s] w fun e w' => e = .returned (.int .u32 ((more c (s.data.toList.map UInt8.toNat) : Nat) : Int)) /\ w' = w := by
 have hb : ∀ b ∈ s.data.toList.map UInt8.toNat,b < 256 := by
   intro b hb
   obtain ⟨x,_,rfl⟩ := List.mem_map.1 hb
   exact x.toNat_lt
 have h := refMore_core c s (fun k => fold (cpl c) ((s.data.toList.map UInt8.toNat).take k)) w hc hs rfl
   (fun k => fold_lt _ (cpl_lt hc) (fun b hm => hb b (List.mem_of_mem_take hm)))
   (fun k hk => by
     have e : (s.data.toList.map UInt8.toNat).take (k + 1) = (s.data.toList.map UInt8.toNat).take k ++ [s[k].toNat] := by
       have hk2 : k < (s.data.toList.map UInt8.toNat).length := by simpa using hk
       rw [List.take_succ_eq_append_getElem hk2]
       simp
       rfl
     show fold (cpl c) ((s.data.toList.map UInt8.toNat).take (k + 1)) = _
     rw [e,fold_append]
     rfl)
 have e : (s.data.toList.map UInt8.toNat).take s.size = s.data.toList.map UInt8.toNat := List.take_of_length_le (by simp)
 simp only [e] at h
 exact h

set_option maxHeartbeats 400000 in
theorem refOf_any (s : ByteArray) (w : World) (hs : s.size <= maxLen) :
   Calls Tryz.prog 127 #[.string s] w fun e w' => e = .returned (.int .u32 ((more 0 (s.data.toList.map UInt8.toNat) : Nat) : Int)) /\ w' = w := by
 have HM : Hid (∀ u,Calls Tryz.prog 150 #[.int .u32 0,.string s] u fun e w' => e = .returned (.int .u32 ((more 0 (s.data.toList.map UInt8.toNat) : Nat) : Int)) /\ w' = u) := fun u => refMore_any 0 s u (by decide) hs
 go_enter Tryz.func127,Tryz.ntmps127
 go_wp2_with fail
 refine (HM.out _).mono ?_
 rintro e w1 ⟨rfl,rfl⟩
 go_wp2
 go_ret
 exact ⟨rfl,rfl⟩
end Go.Proofs.YtchhojkhfdkhfaaGreatDoor.Frm
