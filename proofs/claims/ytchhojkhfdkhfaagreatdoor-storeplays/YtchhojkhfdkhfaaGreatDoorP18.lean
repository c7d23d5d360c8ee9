/- Joined texts. -/
import Derived.Test.YtchhojkhfdkhfaaGreatDoorP14
import Derived.Test.YtchhojkhfdkhfaaGreatDoorP17
import Derived.Test.YtchhojkhfdkhfaaGreatDoorP15
import Derived.Test.YtchhojkhfdkhfaaGreatDoorP09
import Derived.Test.YtchhojkhfdkhfaaGreatDoorP00
import Derived.Laws.BitsAllLaws
import Derived.Test.YtchhojkhfdkhfaaGreatDoorP04
namespace Go.Proofs.YtchhojkhfdkhfaaGreatDoor
open Go Go.RowKit
def DAt (u : World) (p : Nat) (st : St) (F : Nat -> Prop) : Prop := ∃ vS vL x,F = DF p vS vL /\ PAt u p vS vL x st
theorem stays {u v : World} (h : v = u) : Below u.heap.size u v := by rw [h]; exact Below.refl _ _
theorem con : Con DAt where
 lt := by
   rintro u p st F ⟨vS,vL,x,rfl,h⟩ k hk
   exact h.lt k hk
 same := by
   rintro u v p st F ⟨vS,vL,x,rfl,h⟩ hb
   exact ⟨vS,vL,x,rfl,h.same hb⟩
 new := by
   intro n u h1 h2
   refine (pNew n u h1 h2).mono ?_
   rintro e v ⟨p,vS,vL,x,rfl,h,hF,hb⟩
   exact ⟨p,_,rfl,⟨vS,vL,x,rfl,h⟩,hF,hb⟩
 newNot := by
   intro n u _ hn
   refine (pNew_not n u hn).mono ?_
   rintro e v ⟨rfl,hv⟩
   exact ⟨rfl,stays hv⟩
 size := by
   rintro p st F u ⟨vS,vL,x,rfl,h⟩ _
   refine (pSize p vS vL x st u h).mono ?_
   rintro e v ⟨rfl,hv⟩
   exact ⟨rfl,stays hv⟩
 read := by
   rintro p st F b u ⟨vS,vL,x,rfl,h⟩ hok hl _
   exact pRead p vS vL x st b u h hok hl
 write := by
   rintro p st F b d u ⟨vS,vL,x,rfl,h⟩ hok hl _ _
   refine (pWrite p vS vL x st b d u h hok hl).mono ?_
   rintro e v ⟨rfl,vL',y,h2,l2⟩
   exact ⟨rfl,_,⟨vS,vL',y,rfl,h2⟩,l2⟩
 sync := by
   rintro p st F u ⟨vS,vL,x,rfl,h⟩ hok hl
   refine (pSync p vS vL x st u h hok hl).mono ?_
   rintro e v ⟨rfl,vL',y,h2,l2⟩
   exact ⟨rfl,_,⟨vS,vL',y,rfl,h2⟩,l2⟩
 fuse := by
   rintro p st F n u ⟨vS,vL,x,rfl,h⟩ hok hn
   refine (pFuse p vS vL x st n u h hok hn).mono ?_
   rintro e v ⟨rfl,h2,l2⟩
   exact ⟨rfl,_,⟨vS,vL,n,rfl,h2⟩,l2⟩
 crash := by
   rintro p st F a c picks u ⟨vS,vL,x,rfl,h⟩ hok hl hP hap hpl hpi
   refine (pCrash p vS vL x st a c picks u h hok hl hP hap hpl hpi).mono ?_
   rintro e v ⟨rfl,vL',y,h2,l2⟩
   exact ⟨rfl,_,⟨vS,vL',y,rfl,h2⟩,l2⟩
 loose := by
   rintro p st F u ⟨vS,vL,x,rfl,h⟩ hok hl
   exact pLoose p vS vL x st u h hok hl
 sure := by
   rintro p st F u ⟨vS,vL,x,rfl,h⟩ hok
   exact pSure p vS vL x st u h hok
end Go.Proofs.YtchhojkhfdkhfaaGreatDoor
namespace Go.Proofs.YtchhojkhfdkhfaaGreatDoor
open Go Go.RowKit Frm
theorem tmod2 {n : Int} (h : 0 <= n) : Int.tmod n 2 = n % 2 := Int.tmod_eq_emod_of_nonneg h
theorem tdiv2 {n : Int} (h : 0 <= n) : Int.tdiv n 2 = n / 2 := Int.tdiv_eq_ediv_of_nonneg h
set_option maxHeartbeats 400000 in
theorem room_any7 (n : Int) (w : World) (hn : -9223372036854775808 <= n /\ n <= 9223372036854775807) :
   Calls Tryz.prog 87 #[.int .i64 n] w fun e w' => e = .returned (.int .i64 (room n)) /\ w' = w := by
 by_cases h1 : n < 4
 · have hr : room n = 0 := by unfold room; rw [if_pos (Or.inl h1)]
   rw [hr]
   have HN := hide hn
   clear hn hr
   go_enter Tryz.func87,Tryz.ntmps87
   go_wp2
   go_ret
   exact ⟨rfl,rfl⟩
 · by_cases h2 : 4096 < n
   · have hr : room n = 0 := by unfold room; rw [if_pos (Or.inr (Or.inl h2))]
     rw [hr]
     have HN := hide hn
     clear hn hr
     go_enter Tryz.func87,Tryz.ntmps87
     go_wp2
     go_ret
     exact ⟨rfl,rfl⟩
   · have ht := tmod2 (n := n) (by omega)
     have hq := tdiv2 (n := n) (by omega)
     by_cases h3 : n % 2 = 0
     · have hr : room n = (n / 2 - 1) * 256 := by unfold room; rw [if_neg (by omega)]
       have hw1 : wrap64 (n / 2) = n / 2 := by unfold wrap64; omega
       have hw2 : wrap64 (n / 2 - 1) = n / 2 - 1 := by unfold wrap64; omega
       have hw3 : wrap64 ((n / 2 - 1) * 256) = (n / 2 - 1) * 256 := by unfold wrap64; omega
       rw [hr]
       have HN := hide hn
       clear hn hr
       go_enter Tryz.func87,Tryz.ntmps87
       go_wp2
       go_ret
       exact ⟨rfl,rfl⟩
     · have hr : room n = 0 := by unfold room; rw [if_pos (Or.inr (Or.inr h3))]
       rw [hr]
       have HN := hide hn
       clear hn hr
       go_enter Tryz.func87,Tryz.ntmps87
       go_wp2
       go_ret
       exact ⟨rfl,rfl⟩
set_option maxHeartbeats 400000 in
theorem mayBe_any (g : Nat) (w : World) :
   Calls Tryz.prog 107 #[.int .u64 (g : Int)] w fun e w' => e = .returned (.bool (decide (1 <= g /\ g <= 4611686018427387904))) /\ w' = w := by
 by_cases h1 : 1 <= g
 · by_cases h2 : g <= 4611686018427387904
   · have hd : decide (1 <= g /\ g <= 4611686018427387904) = true := decide_eq_true ⟨h1,h2⟩
     rw [hd]
     have h1' : (1 : Int) <= (g : Int) := by omega
     have h2' : (g : Int) <= 4611686018427387904 := by omega
     clear hd h1 h2
     go_enter Tryz.func107,Tryz.ntmps107
     go_wp2
     go_ret
     exact ⟨rfl,rfl⟩
   · have hd : decide (1 <= g /\ g <= 4611686018427387904) = false := decide_eq_false (fun h => h2 h.2)
     rw [hd]
     have h1' : (1 : Int) <= (g : Int) := by omega
     have h2' : ¬ (g : Int) <= 4611686018427387904 := by omega
     clear hd h1 h2
     go_enter Tryz.func107,Tryz.ntmps107
     go_wp2
     go_ret
     exact ⟨rfl,rfl⟩
 · have hd : decide (1 <= g /\ g <= 4611686018427387904) = false := decide_eq_false (fun h => h1 h.1)
   rw [hd]
   have h1' : ¬ (1 : Int) <= (g : Int) := by omega
   clear hd h1
   go_enter Tryz.func107,Tryz.ntmps107
   go_wp2
   go_ret
   exact ⟨rfl,rfl⟩
set_option maxHeartbeats 400000 in
theorem blocksFor_any (n : Nat) (w : World) (hn : n <= 281474976710656) :
   Calls Tryz.prog 115 #[.int .i64 (n : Int)] w fun e w' => e = .returned (.int .i64 ((nb n : Nat) : Int)) /\ w' = w := by
 have h1 : wrap64 ((n : Int) + 256) = (n : Int) + 256 := by unfold wrap64; omega
 have h2 : wrap64 ((n : Int) + 256 - 1) = (n : Int) + 255 := by unfold wrap64; omega
 have h3 : Int.tdiv ((n : Int) + 255) 256 = ((nb n : Nat) : Int) := by rw [Int.tdiv_eq_ediv_of_nonneg (by omega)]; unfold nb; omega
 have h4 : wrap64 ((nb n : Nat) : Int) = ((nb n : Nat) : Int) := by unfold nb wrap64; omega
 generalize nb n = k at *
 have HN := hide hn
 clear hn
 go_enter Tryz.func115,Tryz.ntmps115
 go_wp2
 go_ret
 exact ⟨congrArg (fun x => Ending.returned (.int .i64 x)) h4,rfl⟩
theorem rRoom_any (n : Int) (w : World) (hn : -9223372036854775808 <= n /\ n <= 9223372036854775807) :
   Calls Tryz.prog 98 #[.int .i64 n] w fun e w' => e = .returned (.int .i64 (room n)) /\ w' = w := by
 by_cases h1 : n < 4
 · have hr : room n = 0 := by unfold room; rw [if_pos (Or.inl h1)]
   rw [hr]
   have HN := hide hn
   clear hn hr
   go_enter Tryz.func98,Tryz.ntmps98
   go_wp2
   go_ret
   exact ⟨rfl,rfl⟩
 · have hm := tmod2 (n := n) (by omega)
   by_cases h3 : n % 2 = 0
   · by_cases h2 : 4096 < n
     · have hr : room n = 0 := by unfold room; rw [if_pos (Or.inr (Or.inl h2))]
       rw [hr]
       have HN := hide hn
       clear hn hr
       rw [h3] at hm
       go_enter Tryz.func98,Tryz.ntmps98
       go_wp2
       go_ret
       exact ⟨rfl,rfl⟩
     · have hr : room n = (n / 2 - 1) * 256 := by unfold room; rw [if_neg (by omega)]
       have hd := tdiv2 (n := n) (by omega)
       have hw1 : wrap64 (n / 2 - 1) = n / 2 - 1 := by unfold wrap64; omega
       have hw2 : wrap64 ((n / 2 - 1) * 256) = (n / 2 - 1) * 256 := by unfold wrap64; omega
       have hw3 : wrap64 (n / 2) = n / 2 := by unfold wrap64; omega
       rw [hr]
       have HN := hide hn
       clear hn hr
       rw [h3] at hm
       go_enter Tryz.func98,Tryz.ntmps98
       go_wp2
       go_ret
       exact ⟨rfl,rfl⟩
   · have hr : room n = 0 := by unfold room; rw [if_pos (Or.inr (Or.inr h3))]
     have h4 : n % 2 = 1 := by omega
     rw [hr]
     have HN := hide hn
     clear hn hr
     rw [h4] at hm
     go_enter Tryz.func98,Tryz.ntmps98
     go_wp2
     go_ret
     exact ⟨rfl,rfl⟩
theorem room_gt {n : Int} : 0 < room n ↔ room n ≠ 0 := by
 constructor
 · intro h; omega
 · intro h
   have := room_pos h
   omega
set_option maxHeartbeats 400000 in
theorem rMayC (p : Nat) (vS vL : Value) (st : St) (o n : Int) (w : World) (h : RAt w p vS vL st) (hl : st.sure.length <= 4096) (hn : -9223372036854775808 <= n /\ n <= 9223372036854775807) :
   Calls Tryz.prog 89 #[.pointer (some ⟨p,0,none⟩),.int .i64 o,.int .i64 n] w fun e w' => e = .returned (.bool (decide (st.mayC o n))) /\ w' = w := by
 obtain ⟨a,c,rfl,_⟩ := slice_of h.sure
 have hc := h.cell0
 have KR := hide (rRoom_any n w hn)
 clear h
 by_cases h0 : room n = 0
 · have hd : decide (st.mayC o n) = false := decide_eq_false (fun h => h.1 h0)
   rw [hd]
   rw [h0] at KR
   have HN := hide hn
   clear hd h0 hn
   go_enter Tryz.func89,Tryz.ntmps89
   go_wp2_with fail
   refine KR.out.mono ?_
   rintro e w1 ⟨rfl,rfl⟩
   go_wp2
   go_ret
   exact ⟨rfl,rfl⟩
 · have h0g : 0 < room n := room_gt.2 h0
   have hr := room_pos h0
   have hn4 := hr.1
   have hnm := hr.2.1
   clear hr
   have HN := hide hn
   clear hn
   by_cases h1 : 0 <= o
   · by_cases h2 : o < (st.sure.length : Int)
     · have hw : wrap64 ((st.sure.length : Int) - o) = (st.sure.length : Int) - o := by unfold wrap64; omega
       by_cases h3 : n <= (st.sure.length : Int) - o
       · have hd : decide (st.mayC o n) = true := decide_eq_true ⟨h0,h1,by omega⟩
         rw [hd]
         have HL := hide hl
         clear hl hd h0
         generalize room n = rm at *
         go_enter Tryz.func89,Tryz.ntmps89
         go_wp2_with fail
         refine KR.out.mono ?_
         rintro e w1 ⟨rfl,rfl⟩
         go_wp2
         go_ret
         exact ⟨rfl,rfl⟩
       · have hd : decide (st.mayC o n) = false := decide_eq_false (fun h => h3 (by have := h.2.2; omega))
         rw [hd]
         have HD3 := hide (decide_eq_false h3)
         have HL := hide hl
         clear hl hd h0
         generalize room n = rm at *
         go_enter Tryz.func89,Tryz.ntmps89
         go_wp2_with fail
         refine KR.out.mono ?_
         rintro e w1 ⟨rfl,rfl⟩
         go_wp2
         go_ret
         exact ⟨by show Ending.returned (.bool (decide (n <= (st.sure.length : Int) - o))) = _; rw [HD3.out],rfl⟩
     · have hd : decide (st.mayC o n) = false := decide_eq_false (fun h => h2 (by have := h.2.2; omega))
       rw [hd]
       clear hd h0
       generalize room n = rm at *
       go_enter Tryz.func89,Tryz.ntmps89
       go_wp2_with fail
       refine KR.out.mono ?_
       rintro e w1 ⟨rfl,rfl⟩
       go_wp2
       go_ret
       exact ⟨rfl,rfl⟩
   · have hd : decide (st.mayC o n) = false := decide_eq_false (fun h => h1 h.2.1)
     rw [hd]
     clear hd h0
     generalize room n = rm at *
     go_enter Tryz.func89,Tryz.ntmps89
     go_wp2_with fail
     refine KR.out.mono ?_
     rintro e w1 ⟨rfl,rfl⟩
     go_wp2
     go_ret
     exact ⟨rfl,rfl⟩
theorem rd_mayC (p : Nat) (st : St) (F : Nat -> Prop) (o n : Int) (w : World) (h : RD w p st F) (hl : st.sure.length <= 4096) (hn : -9223372036854775808 <= n /\ n <= 9223372036854775807) :
   Calls Tryz.prog 89 #[.pointer (some ⟨p,0,none⟩),.int .i64 o,.int .i64 n] w fun e w' => e = .returned (.bool (decide (st.mayC o n))) /\ w' = w := by
 obtain ⟨vS,vL,rfl,h⟩ := h
 exact rMayC p vS vL st o n w h hl hn
end Go.Proofs.YtchhojkhfdkhfaaGreatDoor
