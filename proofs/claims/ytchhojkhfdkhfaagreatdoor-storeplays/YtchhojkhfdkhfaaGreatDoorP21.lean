/- Joined texts. -/
import Derived.Test.YtchhojkhfdkhfaaGreatDoorP10
import Derived.Test.YtchhojkhfdkhfaaGreatDoorP20
import Derived.Deep.RegionHeld3
namespace Go.Proofs.YtchhojkhfdkhfaaGreatDoor.Frm
open Go Go.RowKit
theorem ret_three {t u : ByteArray} {a b c d : Int} (ht : t = u) (h : a = b) (k : c = d) : Ending.returned (.tuple #[.string t,.int .i64 a,.int .i64 c]) = .returned (.tuple #[.string u,.int .i64 b,.int .i64 d]) := by rw [ht,h,k]
set_option maxRecDepth 10000 in
set_option maxHeartbeats 1000000 in
theorem read_any (s : ByteArray) (w : World) (hs : s.size <= 140737488351232) :
   Calls Tryz.prog 158 #[.string s] w fun e w' => e = .returned (.tuple #[.string (rdf s).1,.int .i64 (((rdf s).2.1 : Nat) : Int),.int .i64 (((rdf s).2.2 : Nat) : Int)]) /\ Below w.heap.size w w' := by
 by_cases h4 : s.size < 4
 · have HR : Hid (rdf s = (⟨#[]⟩,0,40)) := by unfold Hid rdf; rw [if_pos h4]
   have hz : (s.size : Int) < 4 := by omega
   clear h4
   go_enter Tryz.func158,Tryz.ntmps158
   go_wp2
   go_ret3
   exact ⟨by rw [HR.out]; rfl,Below.refl _ _⟩
 · have hz4 : ¬ ((s.size : Int) < 4) := by omega
   have hml : s.size <= maxLen := by unfold maxLen; omega
   have KN := hide (fun u => numberOf_any s u (by omega) hml)
   have hnl : num4 (bytesOf s) < 4294967296 := num4_lt _ (bytesOf_lt s)
   by_cases hl : 65536 < num4 (bytesOf s)
   · have HR : Hid (rdf s = (⟨#[]⟩,0,4)) := by unfold Hid rdf; rw [if_neg h4,if_pos hl]
     generalize num4 (bytesOf s) = k at *
     have hz : (65536 : Int) < (k : Int) := by omega
     clear h4 hl
     go_enter Tryz.func158,Tryz.ntmps158
     go_wp2_with fail
     refine (KN.out _).mono ?_
     rintro e w1 ⟨rfl,n,rfl⟩
     go_wp2
     go_ret3
     exact ⟨by rw [HR.out]; rfl,below_drewN (Below.refl _ _) _⟩
   · by_cases ht : s.size < num4 (bytesOf s) + 8
     · have HR : Hid (rdf s = (⟨#[]⟩,0,40)) := by unfold Hid rdf; rw [if_neg h4,if_neg hl,if_pos ht]
       generalize num4 (bytesOf s) = k at *
       have hz : ¬ ((65536 : Int) < (k : Int)) := by omega
       have hz2 : (s.size : Int) < (k : Int) + 8 := by omega
       clear h4 hl
       go_enter Tryz.func158,Tryz.ntmps158
       go_wp2_with fail
       refine (KN.out _).mono ?_
       rintro e w1 ⟨rfl,n,rfl⟩
       go_wp2
       go_ret3
       exact ⟨by rw [HR.out]; rfl,below_drewN (Below.refl _ _) _⟩
     · have hk : num4 (bytesOf s) + 4 <= s.size := by omega
       have e1 : bytesOf (s.extract 0 (num4 (bytesOf s) + 4)) = (bytesOf s).take (num4 (bytesOf s) + 4) := by rw [bytesOf_extract,List.drop_zero]
       have e2 : bytesOf (s.extract (num4 (bytesOf s) + 4) s.size) = (bytesOf s).drop (num4 (bytesOf s) + 4) := by
         rw [bytesOf_extract,List.take_of_length_le (by rw [bytesOf_length]; exact Nat.le_refl _)]
       have KO := hide (fun u => of_any (s.extract 0 (num4 (bytesOf s) + 4)) u (by rw [ByteArray.size_extract]; omega))
       have KM := hide (fun u => numberOf_any (s.extract (num4 (bytesOf s) + 4) s.size) u (by rw [ByteArray.size_extract]; omega) (by rw [ByteArray.size_extract]; omega))
       rw [e1] at KO
       rw [e2] at KM
       have KC := hide (fun u => clone_any (s.extract 4 (num4 (bytesOf s) + 4)) u (by rw [ByteArray.size_extract]; omega))
       have HR : Hid (rdf s = if more 0 ((bytesOf s).take (num4 (bytesOf s) + 4)) ≠ num4 ((bytesOf s).drop (num4 (bytesOf s) + 4)) then (⟨#[]⟩,0,41) else (s.extract 4 (num4 (bytesOf s) + 4),num4 (bytesOf s) + 8,0)) := by unfold Hid rdf; rw [if_neg h4,if_neg hl,if_neg ht]
       generalize more 0 ((bytesOf s).take (num4 (bytesOf s) + 4)) = a at *
       generalize num4 ((bytesOf s).drop (num4 (bytesOf s) + 4)) = b at *
       clear e1 e2
       generalize num4 (bytesOf s) = k at *
       obtain ⟨m,hm⟩ : ∃ m : Nat,m = k + 4 := ⟨_,rfl⟩
       rw [<- hm] at KO KM KC HR hk
       have hz : ¬ ((65536 : Int) < (k : Int)) := by omega
       have hz2 : ¬ ((s.size : Int) < (k : Int) + 8) := by omega
       have HMZ : Hid ((4 : Int) + (k : Int) = (m : Int)) := by unfold Hid; omega
       have hz5 : (m : Int) <= (s.size : Int) := by omega
       have hz6 : (4 : Int) <= (m : Int) := by omega
       clear h4 hl hm
       go_enter Tryz.func158,Tryz.ntmps158
       go_wp2_with fail
       refine (KN.out _).mono ?_
       rintro e w1 ⟨rfl,n,rfl⟩
       go_wp2_with fail
       rw [HMZ.out]
       have HB0 := hide (below_drewN (Below.refl w.heap.size w) n)
       generalize w.drewN n = W at *
       go_region_held3 (fun u => Below w.heap.size w u) (first | (with_reducible exact HB0.out.drew) | ((with_reducible refine bnext ?_ hb2); with_reducible assumption) | ((with_reducible refine below_drewN ?_ n3); with_reducible assumption) | (with_reducible assumption))
         (first
         | (go_at_call 133; refine (KO.out _).mono ?_; rintro e w2 ⟨rfl,hb2⟩)
         | (go_at_call 165; refine (KM.out _).mono ?_; rintro e w3 ⟨rfl,n3,rfl⟩))
       all_goals
         rename_i hHeld
         have HH := hide hHeld
         clear hHeld
         by_cases hab : a = b
         · subst hab
           have hne : (((a : Int) != (a : Int)) = true) = False := by simp
           go_wp2_with fail
           refine (KC.out _).mono ?_
           rintro e w4 ⟨rfl,hb4⟩
           have HB4 := hide (bnext HH.out hb4)
           clear hb4
           go_wp2
           go_ret3
           exact ⟨by rw [HR.out,if_neg (by simp)]; exact ret_three rfl (by have h := HMZ.out; show (m : Int) + 4 = ((k + 8 : Nat) : Int); omega) rfl,HB4.out⟩
         · have hne : ¬ ((a : Int) = (b : Int)) := by omega
           have hneb : ((a : Int) != (b : Int)) = true := by simpa using hne
           go_wp2
           go_ret3
           exact ⟨by rw [HR.out,if_pos hab]; rfl,HH.out⟩
set_option maxRecDepth 10000 in
set_option maxHeartbeats 1000000 in
theorem refRead_any (s : ByteArray) (w : World) (hs : s.size <= 140737488351232) :
   Calls Tryz.prog 125 #[.string s] w fun e w' => e = .returned (.tuple #[.string (rdf s).1,.int .i64 (((rdf s).2.1 : Nat) : Int),.int .i64 (((rdf s).2.2 : Nat) : Int)]) /\ Below w.heap.size w w' := by
 by_cases h4 : s.size < 4
 · have HR : Hid (rdf s = (⟨#[]⟩,0,40)) := by unfold Hid rdf; rw [if_pos h4]
   have hz : (s.size : Int) < 4 := by omega
   clear h4
   go_enter Tryz.func125,Tryz.ntmps125
   go_wp2
   go_ret3
   exact ⟨by rw [HR.out]; rfl,Below.refl _ _⟩
 · have hz4 : ¬ ((s.size : Int) < 4) := by omega
   have hml : s.size <= maxLen := by unfold maxLen; omega
   have KN := hide (fun u => refNumber_any s u (by omega) hml)
   have hnl : num4 (bytesOf s) < 4294967296 := num4_lt _ (bytesOf_lt s)
   by_cases hl : 65536 < num4 (bytesOf s)
   · have HR : Hid (rdf s = (⟨#[]⟩,0,4)) := by unfold Hid rdf; rw [if_neg h4,if_pos hl]
     generalize num4 (bytesOf s) = k at *
     have hz : (65536 : Int) < (k : Int) := by omega
     clear h4 hl
     go_enter Tryz.func125,Tryz.ntmps125
     go_wp2_with fail
     refine (KN.out _).mono ?_
     rintro e w1 ⟨rfl,n,rfl⟩
     go_wp2
     go_ret3
     exact ⟨by rw [HR.out]; rfl,below_drewN (Below.refl _ _) _⟩
   · by_cases ht : s.size < num4 (bytesOf s) + 8
     · have HR : Hid (rdf s = (⟨#[]⟩,0,40)) := by unfold Hid rdf; rw [if_neg h4,if_neg hl,if_pos ht]
       generalize num4 (bytesOf s) = k at *
       have hz : ¬ ((65536 : Int) < (k : Int)) := by omega
       have hz2 : (s.size : Int) < (k : Int) + 8 := by omega
       clear h4 hl
       go_enter Tryz.func125,Tryz.ntmps125
       go_wp2_with fail
       refine (KN.out _).mono ?_
       rintro e w1 ⟨rfl,n,rfl⟩
       go_wp2
       go_ret3
       exact ⟨by rw [HR.out]; rfl,below_drewN (Below.refl _ _) _⟩
     · have hk : num4 (bytesOf s) + 4 <= s.size := by omega
       have e1 : bytesOf (s.extract 0 (num4 (bytesOf s) + 4)) = (bytesOf s).take (num4 (bytesOf s) + 4) := by rw [bytesOf_extract,List.drop_zero]
       have e2 : bytesOf (s.extract (num4 (bytesOf s) + 4) s.size) = (bytesOf s).drop (num4 (bytesOf s) + 4) := by
         rw [bytesOf_extract,List.take_of_length_le (by rw [bytesOf_length]; exact Nat.le_refl _)]
       have KO := hide (fun u => refOf_any (s.extract 0 (num4 (bytesOf s) + 4)) u (by rw [ByteArray.size_extract]; omega))
       have KM := hide (fun u => refNumber_any (s.extract (num4 (bytesOf s) + 4) s.size) u (by rw [ByteArray.size_extract]; omega) (by rw [ByteArray.size_extract]; omega))
       change Hid (∀ u,Calls Tryz.prog 127 #[.string (s.extract 0 (num4 (bytesOf s) + 4))] u fun e w1 => e = .returned (.int .u32 ((more 0 (bytesOf (s.extract 0 (num4 (bytesOf s) + 4))) : Nat) : Int)) /\ w1 = u) at KO
       rw [e1] at KO
       rw [e2] at KM
       have HR : Hid (rdf s = if more 0 ((bytesOf s).take (num4 (bytesOf s) + 4)) ≠ num4 ((bytesOf s).drop (num4 (bytesOf s) + 4)) then (⟨#[]⟩,0,41) else (s.extract 4 (num4 (bytesOf s) + 4),num4 (bytesOf s) + 8,0)) := by unfold Hid rdf; rw [if_neg h4,if_neg hl,if_neg ht]
       generalize more 0 ((bytesOf s).take (num4 (bytesOf s) + 4)) = a at *
       generalize num4 ((bytesOf s).drop (num4 (bytesOf s) + 4)) = b at *
       clear e1 e2
       generalize num4 (bytesOf s) = k at *
       have hz : ¬ ((65536 : Int) < (k : Int)) := by omega
       have hz2 : ¬ ((s.size : Int) < (k : Int) + 8) := by omega
       obtain ⟨m,hm⟩ : ∃ m : Nat,m = k + 4 := ⟨_,rfl⟩
       rw [<- hm] at KO KM HR hk
       have HMZ : Hid ((k : Int) + 4 = (m : Int)) := by unfold Hid; omega
       have hz5 : (m : Int) <= (s.size : Int) := by omega
       have hz6 : (4 : Int) <= (m : Int) := by omega
       clear h4 hl hm
       go_enter Tryz.func125,Tryz.ntmps125
       go_wp2_with fail
       refine (KN.out _).mono ?_
       rintro e w1 ⟨rfl,n,rfl⟩
       go_wp2_with fail
       have HB0 := hide (below_drewN (Below.refl w.heap.size w) n)
       generalize w.drewN n = W at *
       have hw : IntKind.i64.wrap ((k : Int) + 4) = (m : Int) := by rw [IntKind.wrap_i64,HMZ.out]; omega
       go_region_held3 (fun u => Below w.heap.size w u) (first | (with_reducible exact HB0.out.drew) | (with_reducible exact below_drewN HB0.out _) | ((with_reducible refine below_drewN ?_ n3); with_reducible assumption) | (with_reducible assumption))
         (first
         | (go_at_call 127; refine (KO.out _).mono ?_; rintro e w2 ⟨rfl,rfl⟩)
         | (go_at_call 149; refine (KM.out _).mono ?_; rintro e w3 ⟨rfl,n3,rfl⟩))
       all_goals
         rename_i hHeld
         have HH := hide hHeld
         clear hHeld
         by_cases hab : a = b
         · subst hab
           have hne : (((a : Int) != (a : Int)) = true) = False := by simp
           clear hw
           go_wp2_with (rw [HMZ.out])
           go_ret3
           exact ⟨by rw [HR.out,if_neg (by simp)]; rfl,HH.out⟩
         · have hne : ¬ ((a : Int) = (b : Int)) := by omega
           have hneb : ((a : Int) != (b : Int)) = true := by simpa using hne
           go_wp2
           go_ret3
           exact ⟨by rw [HR.out,if_pos hab]; rfl,HH.out⟩
def StrsAt (w : World) (a : Option Addr) (l : List ByteArray) : Prop :=
 l = [] \/ ∃ b off,a = some ⟨b,off,none⟩ /\ ∀ j (hj : j < l.length),w.cell? ⟨b,off + j,none⟩ = some (.string l[j])
set_option maxHeartbeats 1000000 in
theorem same_any (a a' : Option Addr) (c c' : Nat) (l : List ByteArray) (w : World) (h : StrsAt w a l) (h' : StrsAt w a' l) (hl : l.length <= 140737488351232) :
   Calls Tryz.prog 30 #[.slice a l.length c,.slice a' l.length c'] w fun e w' => e = .returned (.bool true) /\ ∃ q,w' = w.drewN q := by
 have H := hide h
 have H' := hide h'
 clear h h'
 go_enter Tryz.func30,Tryz.ntmps30
 go_wp2_with fail
 go_loopw [5] (fun i wr => ∃ k q : Nat,k <= l.length /\ i = .int .i64 (k : Int) /\ wr = w.drewN q) (fun i _ => l.length - (intOf i).toNat)
 case atStart => exact ⟨0,0,Nat.zero_le _,rfl,rfl⟩
 case round =>
   obtain ⟨k,q,hk,rfl,rfl⟩ := hrel
   by_cases hlt : k < l.length
   · rcases H.out with rfl | ⟨b,off,rfl,hc⟩
     · exact absurd hlt (by simp)
     rcases H'.out with rfl | ⟨b',off',rfl,hc'⟩
     · exact absurd hlt (by simp)
     have h1 := hc k hlt
     have h2 := hc' k hlt
     clear hc hc'
     generalize l[k] = t at *
     generalize hn : l.length = n at *
     clear hn
     go_wp2_with fail
     go_quiet (fail)
     go_wp2
     go_roundw
     case rel => exact ⟨k + 1,_,hlt,by go_num,rfl⟩
     case measure => simp [intOf]; omega
   · go_wp2
     go_ret
     exact ⟨rfl,_,rfl⟩

theorem StrsAt.below {w w' : World} {a : Option Addr} {l : List ByteArray} (h : StrsAt w a l) (hb : Below w.heap.size w w') : StrsAt w' a l := by
 rcases h with rfl | ⟨b,off,rfl,hc⟩
 · exact Or.inl rfl
 · refine Or.inr ⟨b,off,rfl,fun j hj => ?_⟩
   have h := hc j hj
   exact (hb.cell (p := ⟨b,off + j,none⟩) (World.block_lt_of_cell? w _ h)).trans h
theorem StrsAt.take {w : World} {a : Option Addr} {l : List ByteArray} (h : StrsAt w a l) (k : Nat) : StrsAt w a (l.take k) := by
 rcases h with rfl | ⟨b,off,rfl,hc⟩
 · exact Or.inl (by simp)
 · refine Or.inr ⟨b,off,rfl,fun j hj => ?_⟩
   have hj' : j < l.length := by simp at hj; omega
   rw [hc j hj',List.getElem_take]
def OwnL (w : World) (base : Nat) (v : Value) (l : List ByteArray) : Prop := w.ownsRow base 9 1 v l.length (l.map Value.string)
theorem OwnL.below {w w' : World} {base : Nat} {v : Value} {l : List ByteArray} (h : OwnL w base v l) (hb : Below w.heap.size w w') : OwnL w' base v l := by
 refine ⟨h.1,?_⟩
 rcases h.2 with h0 | ⟨g,cap,cur,rfl,h1,hg,hr⟩
 · exact Or.inl h0
 · exact Or.inr ⟨g,cap,cur,rfl,h1,(hb.block g (Array.getElem?_eq_some_iff.1 hg).1).trans hg,hr⟩
theorem OwnL.strs {w : World} {base : Nat} {v : Value} {l : List ByteArray} (h : OwnL w base v l) : ∃ a c,v = .slice a l.length c /\ StrsAt w a l := by
 have h0 := h
 rcases h.2 with ⟨rfl,hz⟩ | ⟨g,cap,cur,rfl,h1,hg,hr⟩
 · have hl : l = [] := List.length_eq_zero_iff.1 hz
   subst hl
   exact ⟨none,0,rfl,Or.inl rfl⟩
 · refine ⟨_,cap,rfl,Or.inr ⟨g,0,rfl,fun j hj => ?_⟩⟩
   rw [Nat.zero_add]
   have := World.ownsRow.cellAt h0 j (by omega)
   rw [this]
   simp [hj]
theorem own_base {w : World} {base : Nat} {v : Value} {l : List ByteArray} (h : OwnL w base v l) : ∀ j,v.ownBlock = some j -> base <= j := fun j hj => (World.ownsRow.lt h j hj).1
theorem map_snoc (l : List ByteArray) (t : ByteArray) : l.map Value.string ++ [.string t] = (l ++ [t]).map Value.string := by simp
theorem extract_all (s : ByteArray) : s.extract 0 s.size = s := by
 apply bytesOf_inj; rw [bytesOf_extract,List.drop_zero,List.take_of_length_le (by rw [bytesOf_length]; exact Nat.le_refl _)]
theorem extract_extract (s : ByteArray) (g k : Nat) : (s.extract g s.size).extract k (s.extract g s.size).size = s.extract (g + k) s.size := by
 apply bytesOf_inj
 rw [bytesOf_extract,bytesOf_extract,bytesOf_extract,ByteArray.size_extract,Nat.min_self]
 rw [List.take_of_length_le (l := bytesOf s) (by rw [bytesOf_length]; exact Nat.le_refl _)]
 rw [List.take_of_length_le (by rw [List.length_drop,bytesOf_length]; exact Nat.le_refl _),List.drop_drop]
def Told (s : ByteArray) (w : World) (e : Ending) (w' : World) : Prop :=
 ∃ a c,e = .returned (.tuple #[.slice a (scn s).1.length c,.int .i64 (((scn s).2.1 : Nat) : Int),.int .i64 (((scn s).2.2 : Nat) : Int)]) /\ OwnL w' w.heap.size (.slice a (scn s).1.length c) (scn s).1 /\ Below w.heap.size w w'
theorem Told.mk {s : ByteArray} {w w' : World} {l : List ByteArray} {g x : Nat} (hs : scn s = (l,g,x)) (a : Option Addr) (c : Nat) (hst : OwnL w' w.heap.size (.slice a l.length c) l) (hb : Below w.heap.size w w') :
   Told s w (.returned (.tuple #[.slice a l.length c,.int .i64 (g : Int),.int .i64 (x : Int)])) w' := by
 refine ⟨a,c,?_,?_,hb⟩
 · rw [hs]
 · rw [hs]; exact hst
set_option maxRecDepth 10000 in
set_option maxHeartbeats 2000000 in
theorem refScan_any (s : ByteArray) (w : World) (hs : s.size <= 65536) :
   Calls Tryz.prog 94 #[.string s] w (Told s w) := by
 obtain ⟨i0,hi,hz0,hz1,hz2⟩ := info_parts (P := Tryz.prog) (e := 9) (z := .string ⟨#[]⟩) (size := 1) (bytes := 16) (by kernel_rfl)
 have HI := hide (And.intro hi (And.intro hz0 (And.intro hz1 hz2)))
 clear hi hz0 hz1 hz2
 go_enter Tryz.func94,Tryz.ntmps94
 go_wp2_with fail
 go_loopw [5,6,7,8,9] (fun lv i _ _ _ wr => ∃ (g : Nat) (pre : List ByteArray),i = .int .i64 (g : Int) /\ g <= s.size /\ pre.length <= g /\
     scn s = (pre ++ (scn (s.extract g s.size)).1,g + (scn (s.extract g s.size)).2.1,(scn (s.extract g s.size)).2.2) /\ OwnL wr w.heap.size lv pre /\ Below w.heap.size w wr) (fun _ i _ _ _ _ => s.size - (intOf i).toNat)
 case atStart => exact ⟨0,[],rfl,Nat.zero_le _,Nat.le_refl _,by rw [extract_all]; simp,World.ownsRow_nil _ _ _ _,Below.refl _ _⟩
 case round =>
   obtain ⟨g,pre,rfl,hg,hpl,hscn,hown,hbl⟩ := hrel
   by_cases hlt : g < s.size
   · have hgz : (g : Int) < (s.size : Int) := by omega
     have hne : (s.extract g s.size).size ≠ 0 := by rw [ByteArray.size_extract]; omega
     have KR := hide (fun u => refRead_any (s.extract g s.size) u (by rw [ByteArray.size_extract]; omega))
     have hsz := hbl.size
     have HO := hide hown
     have HB := hide hbl
     clear hown hbl
     by_cases he : (rdf (s.extract g s.size)).2.2 = 0
     · have hok := rdf_ok _ he
       rw [ByteArray.size_extract] at hok
       rw [scn_ok _ hne he,extract_extract s g _] at hscn
       have HS := hide hscn
       clear hscn
       rw [he] at KR
       generalize (rdf (s.extract g s.size)).1 = t at *
       generalize (rdf (s.extract g s.size)).2.1 = k at *
       clear he hne
       go_wp2_with fail
       refine (KR.out _).mono ?_
       rintro e w1 ⟨rfl,hb⟩
       have HO1 := hide (HO.out.below hb)
       have HB1 := hide (bnext HB.out hb)
       have hsz1 : w.heap.size <= w1.heap.size := Nat.le_trans hsz hb.size
       clear hb
       go_wp2_with (at_builtin; refine wpList_append_own _ rfl _ _ 46 rfl w.heap.size 9 i0 (.string ⟨#[]⟩) 1 16 Tryz.underlying46 HI.out.1 HI.out.2.1 HI.out.2.2.1 HI.out.2.2.2 rfl (by decide) _ _ _ rfl (World.ownsRow.alloc HO1.out _) ⟨w1.heap.size,0,none⟩ 1 1 [.string t] rfl rfl ?c1 ?c2 ?c3 ?c4 ?c5 ?_)
       case c1 =>
         intro j u hj
         match j,hj with
         | 0,hj => simp at hj; subst hj; simp [Addr.add,go_sem]
       case c2 => first | rfl | (intro u hu; simp at hu; subst hu; rfl)
       case c3 => unfold maxLen; omega
       case c4 => omega
       case c5 => first | omega | (simp; omega)
       · intro lv' w2 hown2 hgrow2 _
         rw [map_snoc] at hown2
         have HO2 : Hid (OwnL w2 w.heap.size lv' (pre ++ [t])) := by
           unfold Hid OwnL; rw [List.length_append]; exact hown2
         have HB2 := hide ((HB1.out.alloc hsz1 (.cells #[.string t] 9)).grown hgrow2 (by simp; omega) (own_base HO1.out))
         clear hown2 hgrow2
         go_wp2
         go_roundw
         case rel => exact ⟨g + k,pre ++ [t],by go_num,by omega,by simp; omega,by rw [HS.out]; simp [Nat.add_assoc],HO2.out,HB2.out⟩
         case measure => simp [intOf]; omega
     · rw [scn_err _ hne he,List.append_nil,Nat.add_zero] at hscn
       have HS := hide hscn
       clear hscn
       have hez : ¬ ((((rdf (s.extract g s.size)).2.2 : Nat) : Int) = 0) := by omega
       generalize (rdf (s.extract g s.size)).1 = t at *
       generalize (rdf (s.extract g s.size)).2.1 = k at *
       generalize (rdf (s.extract g s.size)).2.2 = x at *
       clear he hne
       obtain ⟨a0,c0,rfl, -⟩ := HO.out.strs
       have HST := HO
       go_wp2_with fail
       refine (KR.out _).mono ?_
       rintro e w1 ⟨rfl,hb⟩
       have HST1 := hide (HST.out.below hb)
       have HB1 := hide (bnext HB.out hb)
       clear hb
       go_wp2
       go_ret3
       exact Told.mk HS.out a0 c0 HST1.out HB1.out
   · have hge : g = s.size := by omega
     subst hge
     rw [scn_nil (s.extract s.size s.size) (by rw [ByteArray.size_extract]; omega),List.append_nil,Nat.add_zero] at hscn
     have HS := hide hscn
     clear hscn
     obtain ⟨a0,c0,rfl, -⟩ := hown.strs
     have HST := hide hown
     have HB := hide hbl
     clear hown hbl
     go_wp2
     go_ret3
     exact Told.mk HS.out a0 c0 HST.out HB.out
end Go.Proofs.YtchhojkhfdkhfaaGreatDoor.Frm
