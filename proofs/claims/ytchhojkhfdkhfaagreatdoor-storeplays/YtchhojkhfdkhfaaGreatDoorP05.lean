/- Joined texts. -/
import Derived.Test.YtchhojkhfdkhfaaGreatDoorP04
import Derived.Laws.AppendOwnNone
namespace Go.Proofs.YtchhojkhfdkhfaaGreatDoor
open Go Go.RowKit
theorem ints_of_own {w : World} {base : Nat} {v : Value} {l : List Int} (h : w.ownsRow base 3 1 v l.length (l.map (Value.int .i64))) : ∃ a c,v = .slice a l.length c /\ IntsAt w a l /\ (∀ b off,a = some ⟨b,off,none⟩ -> base <= b) := by
 have h0 := h
 rcases h.2 with ⟨rfl,hz⟩ | ⟨g,cap,cur,rfl,h1,hg,hr⟩
 · have hl : l = [] := List.length_eq_zero_iff.1 hz
   subst hl
   exact ⟨none,0,rfl,Or.inl rfl,fun b off e => by cases e⟩
 · refine ⟨_,cap,rfl,Or.inr ⟨g,0,rfl,fun j hj => ?_⟩,fun b off e => by cases e; exact h1⟩
   rw [Nat.zero_add,World.ownsRow.cellAt h0 j (by omega)]
   simp [hj]
theorem news_ints {w : World} {b off : Nat} {l : List Int} (h : ∀ j (hj : j < l.length),w.cell? ⟨b,off + j,none⟩ = some (.int .i64 l[j])) : ∀ (j : Nat) (u : Value),(l.map (Value.int .i64))[j]? = some u -> w.cell? ((⟨b,off,none⟩ : Addr).add j) = some u := fun j u hj => by
 have hj' : j < l.length := by
   have := (List.getElem?_eq_some_iff.1 hj).1
   simpa using this
 have hadd : (⟨b,off,none⟩ : Addr).add j = ⟨b,off + j,none⟩ := by unfold Addr.add; split <;> simp_all
 rw [hadd,h j hj']
 simpa [hj'] using hj
theorem one_ints (l : List Int) : ∀ u ∈ l.map (Value.int .i64),u.oneCell' = true := fun u hu => by
 obtain ⟨x,_,rfl⟩ := List.mem_map.1 hu
 rfl
theorem info3 : (Tryz.prog.info? 3).map (fun i => (i.zero,i.size,i.bytes)) = some (some (.int .i64 0),1,8) := by kernel_rfl
structure Stp where
 act : Nat
 text : ByteArray
 times : Nat
 n : Int
 pa : Option Addr
 picks : List Int
 pc : Nat
structure Stp.Ok (x : Stp) : Prop where
 act : x.act < 256
 text : x.text.size <= 140737488351232
 times : x.times < 256
 n : -9223372036854775808 <= x.n /\ x.n <= 9223372036854775807
 many : x.picks.length <= 140737488351232
 picks : ∀ y ∈ x.picks, -9223372036854775808 <= y /\ y <= 9223372036854775807
 nil : x.pa = none -> x.pc = 0
def Stp.val (x : Stp) : Value := .agg #[.int .u8 (x.act : Int),.string x.text,.int .u8 (x.times : Int),.int .i64 x.n,.slice x.pa x.picks.length x.pc]
def StepAt (w : World) (b o : Nat) (x : Stp) : Prop :=
 w.cell? ⟨b,o,none⟩ = some (.int .u8 (x.act : Int)) /\ w.cell? ⟨b,o + 1,none⟩ = some (.string x.text) /\ w.cell? ⟨b,o + 2,none⟩ = some (.int .u8 (x.times : Int)) /\ w.cell? ⟨b,o + 3,none⟩ = some (.int .i64 x.n) /\ w.cell? ⟨b,o + 4,none⟩ = some (.slice x.pa x.picks.length x.pc) /\ IntsAt w x.pa x.picks
def StepsAt (w : World) (a : Option Addr) (l : List Stp) : Prop := l = [] \/ ∃ b off,a = some ⟨b,off,none⟩ /\ ∀ j (hj : j < l.length),StepAt w b (off + j * 5) l[j]
theorem IntsAt.old {u v : World} {a : Option Addr} {l : List Int} (h : IntsAt u a l) (hb : Below u.heap.size u v) : IntsAt v a l := by
 rcases h with h0 | ⟨b,off,rfl,hc⟩
 · exact Or.inl h0
 · exact Or.inr ⟨b,off,rfl,fun j hj => (hb.cell (p := ⟨b,off + j,none⟩) (World.block_lt_of_cell? u _ (hc j hj))).trans (hc j hj)⟩
theorem StepAt.old {u v : World} {b o : Nat} {x : Stp} (h : StepAt u b o x) (hb : Below u.heap.size u v) : StepAt v b o x := by
 have g : ∀ (k : Nat) (y : Value),u.cell? ⟨b,k,none⟩ = some y -> v.cell? ⟨b,k,none⟩ = some y := fun k y hy => (hb.cell (p := ⟨b,k,none⟩) (World.block_lt_of_cell? u _ hy)).trans hy
 exact ⟨g _ _ h.1,g _ _ h.2.1,g _ _ h.2.2.1,g _ _ h.2.2.2.1,g _ _ h.2.2.2.2.1,h.2.2.2.2.2.old hb⟩
def HeavySays (l : List Stp) (w : World) (e : Ending) (w' : World) : Prop :=
 ∃ r : Bool,e = .returned (.bool r) /\ (∃ q,w' = w.drewN q) /\ (r = false -> l.length <= 50 /\ ∀ x ∈ l,x.picks.length + 8 * x.text.size <= 8192)
theorem HeavySays.yes {l : List Stp} {w : World} (q : Nat) : HeavySays l w (.returned (.bool true)) (w.drewN q) := ⟨true,rfl,⟨q,rfl⟩,fun h => by cases h⟩
theorem HeavySays.no {l : List Stp} {w : World} (q : Nat) (h : l.length <= 50 /\ ∀ x ∈ l,x.picks.length + 8 * x.text.size <= 8192) : HeavySays l w (.returned (.bool false)) (w.drewN q) := ⟨false,rfl,⟨q,rfl⟩,fun _ => h⟩
set_option maxRecDepth 10000 in
set_option maxHeartbeats 1000000 in
theorem heavy_any (a : Option Addr) (c : Nat) (l : List Stp) (w : World) (h : StepsAt w a l) (hok : ∀ x ∈ l,x.Ok) (hl : l.length <= 140737488351232) :
   Calls Tryz.prog 8 #[.slice a l.length c] w (HeavySays l w) := by
 have H := hide h
 have HOk := hide hok
 clear h hok
 go_enter Tryz.func8,Tryz.ntmps8
 go_wp2_with fail
 go_loopw [3,4] (fun nv i wr => ∃ k m q : Nat,wr = w.drewN q /\ k <= l.length /\ i = .int .i64 (k : Int) /\ nv = .int .i64 (m : Int) /\ l.length <= m /\ m <= 1562949953421312 /\ (∀ j (hj : j < l.length),j < k -> l[j].picks.length + 8 * l[j].text.size <= m)) (fun _ i _ => l.length - (intOf i).toNat)
 case atStart => exact ⟨0,l.length,0,rfl,Nat.zero_le _,rfl,rfl,Nat.le_refl _,by omega,fun j _ hj => absurd hj (by omega)⟩
 case round =>
   obtain ⟨k,m,q,hwr,hk,rfl,rfl,hlm,hm,hall⟩ := hrel
   have HWr := hide hwr
   clear hwr
   have HA := hide hall
   clear hall
   by_cases hlt : k < l.length
   · by_cases h4 : m <= 8192
     · obtain ⟨b,off,rfl,hc⟩ : ∃ b off,a = some ⟨b,off,none⟩ /\ ∀ j (hj : j < l.length),StepAt w b (off + j * 5) l[j] := by
         rcases H.out with h0 | h1
         · rw [h0] at hlt; exact absurd hlt (by simp)
         · exact h1
       have e4 : wr.cell? ⟨b,off + k * 5 + 4,none⟩ = some (.slice l[k].pa l[k].picks.length l[k].pc) := by rw [HWr.out]; exact (hc k hlt).2.2.2.2.1
       have e1 : wr.cell? ⟨b,off + k * 5 + 1,none⟩ = some (.string l[k].text) := by rw [HWr.out]; exact (hc k hlt).2.1
       have hpm := (HOk.out _ (List.getElem_mem hlt)).many
       have htx := (HOk.out _ (List.getElem_mem hlt)).text
       have HNext : Hid (∀ j (hj : j < l.length),j < k + 1 -> l[j].picks.length + 8 * l[j].text.size <= m + l[k].picks.length + 8 * l[k].text.size) := fun j hj hjk => by
         by_cases e : j = k
         · subst e; omega
         · have := HA.out j hj (by omega); omega
       clear hc
       generalize l[k].picks.length = y at *
       generalize l[k].pa = ya at *
       generalize l[k].pc = yc at *
       generalize l[k].text = t at *
       have h4z : (m : Int) <= 8192 := by omega
       have hw1 : wrap64 (8 * (t.size : Int)) = 8 * (t.size : Int) := by unfold wrap64; omega
       have hw2 : wrap64 ((m : Int) + (y : Int)) = (m : Int) + (y : Int) := by unfold wrap64; omega
       have hw3 : wrap64 ((m : Int) + (y : Int) + 8 * (t.size : Int)) = (m : Int) + (y : Int) + 8 * (t.size : Int) := by unfold wrap64; omega
       go_wp2_with fail
       go_quiet (fail)
       go_wp2
       go_roundw
       case rel => exact ⟨k + 1,m + y + 8 * t.size,q + nq,by rw [HWr.out,World.drewN_drewN],hlt,by go_num,by go_num,by omega,by omega,HNext.out⟩
       case measure => simp [intOf]; omega
     · have h4z : ¬ ((m : Int) <= 8192) := by omega
       have h4y : (8192 : Int) < (m : Int) := by omega
       go_wp2
       go_ret
       rw [HWr.out]
       exact HeavySays.yes _
   · have hke : k = l.length := by omega
     by_cases h4 : m <= 8192
     · have h4z : ¬ ((8192 : Int) < (m : Int)) := by omega
       have HF : Hid (∀ x ∈ l,x.picks.length + 8 * x.text.size <= 8192) := fun x hx => by
         obtain ⟨j,hj,rfl⟩ := List.getElem_of_mem hx
         have := HA.out j hj (by omega)
         omega
       subst hke
       by_cases hn1 : 50 < l.length
       · have hn2 : (50 : Int) < (l.length : Int) := by omega
         go_wp2
         go_ret
         rw [HWr.out]
         exact HeavySays.yes _
       · have hn2 : ¬ ((50 : Int) < (l.length : Int)) := by omega
         go_wp2
         go_ret
         rw [HWr.out]
         exact HeavySays.no _ ⟨by omega,HF.out⟩
     · have h4z : (8192 : Int) < (m : Int) := by omega
       subst hke
       go_wp2
       go_ret
       rw [HWr.out]
       exact HeavySays.yes _
def rep (t : ByteArray) : Nat -> ByteArray
 | 0 => t
 | k + 1 => rep t k ++ t
theorem rep_size (t : ByteArray) : ∀ k,(rep t k).size = (k + 1) * t.size
 | 0 => by show t.size = _; omega
 | k + 1 => by
   show (rep t k ++ t).size = _
   rw [ByteArray.size_append,rep_size t k,Nat.add_mul (k + 1) 1]
   omega
def Stp.says (x : Stp) : ByteArray := rep x.text (x.times % 8)
theorem says_size (x : Stp) : x.says.size <= 8 * x.text.size := by
 unfold Stp.says
 rw [rep_size]
 exact Nat.mul_le_mul_right _ (by have := Nat.mod_lt x.times (show 0 < 8 by decide); omega)
theorem mod8 (a : Nat) : Int.tmod (a : Int) 8 = ((a % 8 : Nat) : Int) := by rw [Int.tmod_eq_emod_of_nonneg (by omega)]; omega
set_option maxRecDepth 10000 in
set_option maxHeartbeats 1000000 in
theorem text_any (x : Stp) (w : World) (hx : x.Ok) (ht : x.text.size <= 100000) :
   Calls Tryz.prog 21 #[x.val] w fun e w' => e = .returned (.string x.says) /\ Below w.heap.size w w' := by
 have htm := hx.times
 have hm := mod8 x.times
 have hm2 : x.times % 8 < 8 := Nat.mod_lt _ (by decide)
 have hw0 : wrap64 (x.times : Int) = (x.times : Int) := by unfold wrap64; omega
 have hwi : IntKind.i64.wrap (x.times : Int) = (x.times : Int) := by rw [IntKind.wrap_i64]; omega
 have HSz := hide (rep_size x.text)
 unfold Stp.says Stp.val
 clear hx
 generalize x.text = t at *
 generalize x.times % 8 = M at *
 generalize x.times = T at *
 go_enter Tryz.func21,Tryz.ntmps21
 go_wp2_with fail
 generalize hW : w.alloc (.cells #[.int .u8 (x.act : Int),.string t,.int .u8 (T : Int),.int .i64 x.n,.slice x.pa x.picks.length x.pc] 43) = W at *
 have hb : Below w.heap.size w W := by rw [<- hW]; exact (Below.refl _ _).alloc (Nat.le_refl _) _
 have hbox : W.heap[w.heap.size]? = some (.cells #[.int .u8 (x.act : Int),.string t,.int .u8 (T : Int),.int .i64 x.n,.slice x.pa x.picks.length x.pc] 43 (0,0)) := by rw [<- hW]; exact heap_alloc_last w _
 have hc1 : W.cell? ⟨w.heap.size,1,none⟩ = some (.string t) := by simp [World.cell?,hbox]
 have hc2 : W.cell? ⟨w.heap.size,2,none⟩ = some (.int .u8 (T : Int)) := by simp [World.cell?,hbox]
 have HB := hide hb
 clear hb hbox hW
 go_loopw [3,4] (fun sv i wr => ∃ k : Nat,k <= M /\ i = .int .i64 (k : Int) /\ sv = .string (rep t k) /\ wr = W) (fun _ i _ => M - (intOf i).toNat)
 case atStart => exact ⟨0,Nat.zero_le _,rfl,rfl,rfl⟩
 case round =>
   obtain ⟨k,hk,rfl,rfl,hwr⟩ := hrel
   obtain rfl := hwr.symm
   clear hwr
   have hsz := HSz.out k
   have hmul : (k + 1) * t.size <= 8 * t.size := Nat.mul_le_mul_right _ (by omega)
   have HR : Hid (rep t (k + 1) = rep t k ++ t) := rfl
   by_cases hlt : k < M
   · have hz : (k : Int) < (M : Int) := by omega
     generalize rep t k = r at *
     have hlen : r.size + t.size <= maxLen := by unfold maxLen; omega
     go_wp2
     go_roundw
     case rel => exact ⟨k + 1,hlt,by go_num,by rw [HR.out],by first | rfl | trivial⟩
     case measure => simp [intOf]; omega
   · have hke : k = M := by omega
     subst hke
     have hz : ¬ ((k : Int) < (k : Int)) := by omega
     go_wp2
     go_ret
     exact ⟨rfl,HB.out⟩
end Go.Proofs.YtchhojkhfdkhfaaGreatDoor
