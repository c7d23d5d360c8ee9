/- Joined texts. -/
import Derived.Test.YtchhojkhfdkhfaaGreatDoorP02
import Derived.Deep.RegionLaw
import Derived.Deep.WholeRow
import Derived.Deep.AppendLies
namespace Go.Proofs.YtchhojkhfdkhfaaGreatDoor
open Go Go.RowKit

theorem info9 : (Tryz.prog.info? 9).map (fun i => (i.zero,i.size,i.bytes)) = some (some (.string ⟨#[]⟩),1,16) := by kernel_rfl
theorem info5 : (Tryz.prog.info? 5).map (fun i => (i.zero,i.size,i.bytes)) = some (some (.int .u8 0),1,1) := by kernel_rfl
def zcells : Array Value := madeCells (Value.int .u8 0).cells 256
theorem zcells_at (j : Nat) (h : j < 256) : zcells[j]? = some (.int .u8 0) := by
 unfold zcells madeCells
 simp [h,Value.cells,Nat.mod_one]
theorem zmake (u : World) : (Instr.makeSlice 77 (.int .i64 256) (.int .i64 256)).run Tryz.prog u = .ok (.slice (some ⟨u.heap.size,0,none⟩) 256 256) (u.alloc (.cells zcells 5)) := by
 obtain ⟨i,hi,hz0,hz1,hz2⟩ := info_parts info5
 have h := run_makeSlice (P := Tryz.prog) (w := u) 77 5 i (.int .u8 0) Tryz.underlying77 hi hz0 .i64 .i64 256 256 (by omega) (by omega) (by rw [hz1]; decide) (by rw [hz2]; decide) (by omega)
 rw [hz1] at h
 exact h
theorem add_at (g j : Nat) : (⟨g,0,none⟩ : Addr).add j = ⟨g,j,none⟩ := by unfold Addr.add; split <;> simp_all
theorem ztext (u : World) : (convert 77 9 (.slice (some ⟨u.heap.size,0,none⟩) 256 256)).run Tryz.prog (u.alloc (.cells zcells 5)) = .ok (.string zblock) (u.alloc (.cells zcells 5)) := by
 have key := run_convert_bytes_back (P := Tryz.prog) (u.alloc (.cells zcells 5)) 77 9 5 ⟨u.heap.size,0,none⟩ 256 (List.replicate 256 0) Tryz.underlying77 Tryz.underlying5 Tryz.underlying9 (fun j hj => by
   have hj' : j < 256 := by rw [List.length_replicate] at hj; exact hj
   have hadd : (⟨u.heap.size,0,none⟩ : Addr).add j = ⟨u.heap.size,j,none⟩ := add_at _ _
   have hb : (u.alloc (.cells zcells 5)).heap[u.heap.size]? = some (.cells zcells 5) := heap_alloc_last u _
   rw [hadd,cell_of_row _ _ _ _ _ _ hb,zcells_at j hj',List.getElem_replicate]
   rfl)
 rw [List.length_replicate] at key
 exact key
theorem ztext2 (u : World) : (convert 77 9 (.slice (some ⟨u.heap.size,0,none⟩) 256 256)).run Tryz.prog (u.alloc (.cells zcells 5)).drew = .ok (.string zblock) (u.alloc (.cells zcells 5)).drew := by
 have key := run_convert_bytes_back (P := Tryz.prog) (u.alloc (.cells zcells 5)).drew 77 9 5 ⟨u.heap.size,0,none⟩ 256 (List.replicate 256 0) Tryz.underlying77 Tryz.underlying5 Tryz.underlying9 (fun j hj => by
   have hj' : j < 256 := by rw [List.length_replicate] at hj; exact hj
   have hadd : (⟨u.heap.size,0,none⟩ : Addr).add j = ⟨u.heap.size,j,none⟩ := add_at _ _
   have hb : (u.alloc (.cells zcells 5)).drew.heap[u.heap.size]? = some (.cells zcells 5) := heap_alloc_last u _
   rw [hadd,cell_of_row _ _ _ _ _ _ hb,zcells_at j hj',List.getElem_replicate]
   rfl)
 rw [List.length_replicate] at key
 exact key
theorem RAt.headS {wr W w1 : World} {p : Nat} {vS vL : Value} {st : St} (h : RAt wr p vS vL st) (hW : Below wr.heap.size wr W) (hg : W.grownBy w1 vS.ownBlock) : w1.heap[p]? = some (.cells #[vS,vL,.int .i64 st.left] 49 (0,0)) := by
 have hp := h.lt p (Or.inl rfl)
 exact (hg.block p (Nat.lt_of_lt_of_le hp hW.size) (fun e => h.ne0 e.symm)).trans ((hW.block p hp).trans h.head)
theorem RAt.grewS {wr W w1 : World} {p : Nat} {vS vL v' : Value} {st : St} {t : ByteArray} (h : RAt wr p vS vL st) (hW : Below wr.heap.size wr W) (hg : W.grownBy w1 vS.ownBlock) (hown : w1.ownsRow 0 9 1 v' (st.sure.length + 1) (st.sure.map Value.string ++ [.string t])) :
   RAt (w1.setCell ⟨p,0,none⟩ v') p v' vL ⟨st.sure ++ [t],st.loose,st.left⟩ := by
 have e1 := h.headS hW hg
 have hL : w1.ownsRow 0 123 2 vL st.loose.length (looseCells st.loose) := own_same h.loose (fun g hgL => by
   have hlt := own_lt h.loose hgL
   exact (hg.block g (Nat.lt_of_lt_of_le hlt hW.size) (fun e => h.ne2 e.symm hgL)).trans (hW.block g hlt))
 have hS : w1.ownsRow 0 9 1 v' (st.sure ++ [t]).length ((st.sure ++ [t]).map Value.string) := by
   rw [List.length_append,List.map_append]; exact hown
 have nS : v'.ownBlock ≠ some p := fun e => by
   obtain ⟨cur,hc⟩ := row_type hS e
   rw [e1] at hc
   cases hc
 refine ⟨by rw [heap_set3 e1]; rfl,?_,?_⟩
 · exact own_same hS (fun g hgS => Below.heap_setCell w1 ⟨p,0,none⟩ v' g (fun e => nS (by rw [<- show g = p from e]; exact hgS)))
 · exact own_same hL (fun g hgL => Below.heap_setCell w1 ⟨p,0,none⟩ v' g (fun e => h.ne1 (by rw [<- show g = p from e]; exact hgL)))
theorem newsZ (wr : World) (Z : Array Value) : ∀ (j : Nat) (u : Value),([.string zblock] : List Value)[j]? = some u -> ((wr.alloc (.cells Z 5)).alloc (.cells #[.string zblock] 9)).drew.cell? ((⟨wr.heap.size + 1,0,none⟩ : Addr).add j) = some u := by
 intro j u hj
 match j,hj with
 | 0,hj =>
   rw [List.getElem?_cons_zero] at hj
   cases hj
   have hb : ((wr.alloc (.cells Z 5)).alloc (.cells #[.string zblock] 9)).drew.heap[wr.heap.size + 1]? = some (.cells #[.string zblock] 9) := by
     have := heap_alloc_last (wr.alloc (.cells Z 5)) (.cells #[.string zblock] 9)
     rw [show (wr.alloc (.cells Z 5)).heap.size = wr.heap.size + 1 from by simp] at this
     exact this
   rw [add_at,cell_of_row _ _ _ _ _ _ hb]
   rfl
theorem oneZ : ∀ u ∈ ([.string zblock] : List Value),u.oneCell' = true := fun u hu => by rw [List.mem_singleton.1 hu]; rfl
theorem belowZ (wr : World) (Z : Array Value) : Below wr.heap.size wr ((wr.alloc (.cells Z 5)).alloc (.cells #[.string zblock] 9)).drew := (((Below.refl _ _).alloc (Nat.le_refl _) _).alloc (by simp) _).drew
set_option maxRecDepth 10000 in
set_option maxHeartbeats 2000000 in
theorem rNew (n : Nat) (w : World) (h1 : 1 <= n) (h2 : n <= 4096) :
   Calls Tryz.prog 11 #[.int .i64 (n : Int)] w fun e w' => ∃ p vS,e = .returned (.tuple #[.pointer (some ⟨p,0,none⟩),.int .i64 0]) /\ RAt w' p vS (.slice none 0 0) (St.new n) /\ w.heap.size <= p /\ (∀ k,RF p vS (.slice none 0 0) k -> w.heap.size <= k) /\ Below w.heap.size w w' := by
 obtain ⟨i0,hi,hz0,hz1,hz2⟩ := info_parts info9
 have HI := hide (And.intro hi (And.intro hz0 (And.intro hz1 hz2)))
 clear hi hz0 hz1 hz2
 have hzm := zmake
 have hzt := ztext2
 generalize zcells = Z at *
 go_enter Tryz.func11,Tryz.ntmps11
 go_wp2_with fail
 go_loopw [5] (fun i wr => ∃ (k : Nat) (vS : Value),k <= n /\ i = .int .i64 (k : Int) /\ RAt wr w.heap.size vS (.slice none 0 0) ⟨List.replicate k zblock,[], -1⟩ /\ (∀ j,vS.ownBlock = some j -> w.heap.size <= j) /\ Below w.heap.size w wr) (fun i _ => n - (intOf i).toNat)
 case atStart => exact ⟨0,.slice none 0 0,Nat.zero_le _,rfl,⟨heap_alloc_last w _,World.ownsRow_nil _ _ _ _,World.ownsRow_nil _ _ _ _⟩,fun j hj => (by cases hj),(Below.refl _ _).alloc (Nat.le_refl _) _⟩
 case round =>
   obtain ⟨k,vS,hk,rfl,hR,hge,hB⟩ := hrel
   have HR := hide hR
   have HG := hide hge
   have HB := hide hB
   have hc0 := hR.cell0
   have hf0 := hR.free 0
   have hrow : wr.ownsRow 0 9 1 vS k ((List.replicate k zblock).map Value.string) := by
     have h := hR.sure
     rw [show (St.mk (List.replicate k zblock) [] (-1)).sure.length = k from List.length_replicate ..] at h
     exact h
   have HRow := hide hrow
   clear hR hge hB hrow
   by_cases hlt : k < n
   · go_wp2_with fail
     obtain ⟨p,hpe⟩ : ∃ p,w.heap.size = p := ⟨_,rfl⟩
     rw [hpe] at HR HG HB hc0 hf0 ⊢
     have HPE := hide hpe
     clear hpe
     have hp : p < wr.heap.size := HR.out.lt p (Or.inl rfl)
     go_region_law ((refine step_append_lies _ (by rfl) _ _ _ (by rfl) 0 9 i0 (.string ⟨#[]⟩) 1 16 Tryz.underlying46 HI.out.1 HI.out.2.1 HI.out.2.2.1 HI.out.2.2.2 rfl (by decide) vS k _ (by rfl) (World.ownsRow.drew (World.ownsRow.alloc (World.ownsRow.alloc HRow.out _) _)) ⟨wr.heap.size + 1,0,none⟩ 1 1 [.string zblock] (by rfl) rfl (newsZ _ _) oneZ (by decide) (by unfold maxLen; omega) (by omega) (by omega) _ rfl ?_; intro g cap w1 hown1 hgrow hat hlt1; have hh := HR.out.headS (belowZ wr Z) hgrow; have hcw : w1.cell? ⟨p,0,none⟩ = some vS := (by simp [World.cell?,hh]); have hfw : w1.frozen? ⟨p,0,none⟩ = false := (by simp [World.frozen?,hh]); clear hh))
     all_goals
       have hR2 := HR.out.grewS (belowZ wr Z) hgrow (by rw [show (St.mk (List.replicate k zblock) [] (-1)).sure.length = k from List.length_replicate ..]; exact hown1)
       have HR2 := hide hR2
       have HB2 : Hid (Below p w (w1.setCell ⟨p,0,none⟩ (.slice (some ⟨g,0,none⟩) (k + 1) cap))) := (((HB.out.trans ((belowZ wr Z).mono (Nat.le_of_lt hp))).grown hgrow (Nat.le_trans (Nat.le_of_lt hp) (belowZ wr Z).size) (fun j e => HG.out j e)).setCell (p := ⟨p,0,none⟩) (Nat.le_refl _) _)
       have HG2 : Hid (p <= g) := by
         unfold Hid
         rcases hat with h3 | h3
         · exact HG.out g h3
         · have := (belowZ wr Z).size
           omega
       clear hR2 hown1 hgrow hat
       have hpe := HPE.out
       subst hpe
       clear HPE
       go_wp2
       go_roundw
       case rel => exact ⟨k + 1,_,hlt,by go_num,by rw [List.replicate_succ']; exact HR2.out,fun j hj => (by cases hj; exact HG2.out),HB2.out⟩
       case measure => simp [intOf]; omega
   · have hke : k = n := by omega
     subst hke
     clear hc0 hf0
     go_wp2
     go_ret2
     have hF : ∀ j,RF w.heap.size vS (.slice none 0 0) j -> w.heap.size <= j := fun j hj => by
       rcases hj with h3 | h3 | h3
       · omega
       · exact HG.out j h3
       · cases h3
     exact ⟨_,vS,rfl,HR.out,Nat.le_refl _,hF,HB.out⟩

structure Con (DAt : World -> Nat -> St -> (Nat -> Prop) -> Prop) : Prop where
 lt : ∀ {u : World} {p : Nat} {st : St} {F : Nat -> Prop},DAt u p st F -> ∀ k,F k -> k < u.heap.size
 same : ∀ {u v : World} {p : Nat} {st : St} {F : Nat -> Prop},DAt u p st F -> (∀ k,F k -> v.heap[k]? = u.heap[k]?) -> DAt v p st F
 new : ∀ (n : Nat) (u : World),1 <= n -> n <= 4096 -> Calls Tryz.prog 10 #[.int .i64 (n : Int)] u fun e v => ∃ p F,e = .returned (.tuple #[.pointer (some ⟨p,0,none⟩),.int .i64 0]) /\ DAt v p (St.new n) F /\ (∀ k,F k -> u.heap.size <= k) /\ Below u.heap.size u v
 newNot : ∀ (n : Int) (u : World),(-9223372036854775808 <= n /\ n <= 9223372036854775807) -> (n < 1 \/ 4096 < n) -> Calls Tryz.prog 10 #[.int .i64 n] u fun e v => e = .returned (.tuple #[.pointer none,.int .i64 2]) /\ Below u.heap.size u v
 size : ∀ (p : Nat) (st : St) (F : Nat -> Prop) (u : World),DAt u p st F -> st.Ok -> Calls Tryz.prog 58 #[.pointer (some ⟨p,0,none⟩)] u fun e v => e = .returned (.int .i64 (st.sure.length : Int)) /\ Below u.heap.size u v
 read : ∀ (p : Nat) (st : St) (F : Nat -> Prop) (b : Int) (u : World),DAt u p st F -> st.Ok -> st.loose.length <= 10000 -> (-9223372036854775808 <= b /\ b <= 9223372036854775807) ->
   Calls Tryz.prog 112 #[.pointer (some ⟨p,0,none⟩),.int .i64 b] u fun e v => e = .returned (.tuple #[.string (st.read b).1,.int .i64 (((st.read b).2 : Nat) : Int)]) /\ Below u.heap.size u v
 write : ∀ (p : Nat) (st : St) (F : Nat -> Prop) (b : Int) (d : ByteArray) (u : World),DAt u p st F -> st.Ok -> st.loose.length <= 10000 -> (-9223372036854775808 <= b /\ b <= 9223372036854775807) -> d.size <= 140737488351232 ->
   Calls Tryz.prog 34 #[.pointer (some ⟨p,0,none⟩),.int .i64 b,.string d] u fun e v => e = .returned (.int .i64 (((st.write b d).1 : Nat) : Int)) /\ ∃ F',DAt v p (st.write b d).2 F' /\ Loc F F' u v
 sync : ∀ (p : Nat) (st : St) (F : Nat -> Prop) (u : World),DAt u p st F -> st.Ok -> st.loose.length <= 10000 ->
   Calls Tryz.prog 54 #[.pointer (some ⟨p,0,none⟩)] u fun e v => e = .returned (.int .i64 ((st.sync.1 : Nat) : Int)) /\ ∃ F',DAt v p st.sync.2 F' /\ Loc F F' u v
 fuse : ∀ (p : Nat) (st : St) (F : Nat -> Prop) (n : Int) (u : World),DAt u p st F -> st.Ok -> (-9223372036854775808 <= n /\ n <= 9223372036854775807) ->
   Calls Tryz.prog 25 #[.pointer (some ⟨p,0,none⟩),.int .i64 n] u fun e v => e = .returned (.int .i64 0) /\ ∃ F',DAt v p (st.fuse n) F' /\ Loc F F' u v
 crash : ∀ (p : Nat) (st : St) (F : Nat -> Prop) (a : Option Addr) (c : Nat) (picks : List Int) (u : World),DAt u p st F -> st.Ok -> st.loose.length <= 10000 -> IntsAt u a picks -> Apart a picks F -> picks.length <= 140737488351232 -> (∀ x ∈ picks, -9223372036854775808 <= x /\ x <= 9223372036854775807) ->
   Calls Tryz.prog 26 #[.pointer (some ⟨p,0,none⟩),.slice a picks.length c] u fun e v => e = .returned (.int .i64 0) /\ ∃ F',DAt v p (st.crash picks) F' /\ Loc F F' u v
 loose : ∀ (p : Nat) (st : St) (F : Nat -> Prop) (u : World),DAt u p st F -> st.Ok -> st.loose.length <= 10000 ->
   Calls Tryz.prog 16 #[.pointer (some ⟨p,0,none⟩)] u fun e v => ∃ a c,e = .returned (.slice a st.loose.length c) /\ IntsAt v a (st.loose.map fun w => (w.1 : Int)) /\ Below u.heap.size u v
 sure : ∀ (p : Nat) (st : St) (F : Nat -> Prop) (u : World),DAt u p st F -> st.Ok ->
   Calls Tryz.prog 14 #[.pointer (some ⟨p,0,none⟩)] u fun e v => e = .returned (.string st.text) /\ Below u.heap.size u v
theorem Con.below {DAt : World -> Nat -> St -> (Nat -> Prop) -> Prop} (C : Con DAt) {u v : World} {p : Nat} {st : St} {F : Nat -> Prop} (h : DAt u p st F) (hb : Below u.heap.size u v) : DAt v p st F := C.same h (fun k hk => hb.block k (C.lt h k hk))

def BytesAt (u : World) (b : Nat) (l : List UInt8) : Prop := ∀ j (hj : j < l.length),u.cell? ⟨b,j,none⟩ = some (.int .u8 ((l[j].toNat : Nat) : Int)) /\ u.frozen? ⟨b,j,none⟩ = false
theorem BytesAt.set {u : World} {b : Nat} {l : List UInt8} (h : BytesAt u b l) (k v : Nat) (hk : k < l.length) (hv : v < 256) :
   BytesAt (u.setCell ⟨b,k,none⟩ (.int .u8 (v : Int))) b (l.set k (UInt8.ofNat v)) := by
 intro j hj
 have hj' : j < l.length := by simpa using hj
 refine ⟨?_,by rw [World.frozen?_setCell]; exact (h j hj').2⟩
 by_cases e : k = j
 · subst e
   rw [World.cell?_setCell_same _ _ _ (h k hk).1,List.getElem_set_self]
   rw [UInt8.toNat_ofNat',Nat.mod_eq_of_lt hv]
 · rw [World.cell?_setCell_other u ⟨b,k,none⟩ ⟨b,j,none⟩ _ (fun hh => e (congrArg Addr.off hh)),List.getElem_set_ne e]
   exact (h j hj').1
theorem free_of {u : World} {b : Nat} {cs : Array Value} {t : TypeId} (h : u.heap[b]? = some (.cells cs t (0,0))) (j : Nat) : u.frozen? ⟨b,j,none⟩ = false := by simp [World.frozen?,h]
abbrev St.may (st : St) (o n : Int) : Prop := 1 <= n /\ 0 <= o /\ o < (st.sure.length : Int) /\ n <= (st.sure.length : Int) - o
set_option maxHeartbeats 400000 in
theorem rMay (p : Nat) (vS vL : Value) (st : St) (o n : Int) (w : World) (h : RAt w p vS vL st) (hl : st.sure.length <= 4096) :
   Calls Tryz.prog 92 #[.pointer (some ⟨p,0,none⟩),.int .i64 o,.int .i64 n] w fun e w' => e = .returned (.bool (decide (st.may o n))) /\ w' = w := by
 obtain ⟨a,c,rfl,_⟩ := slice_of h.sure
 have hc := h.cell0
 clear h
 by_cases h0 : 1 <= n
 · by_cases h1 : 0 <= o
   · by_cases h2 : o < (st.sure.length : Int)
     · have hw : wrap64 ((st.sure.length : Int) - o) = (st.sure.length : Int) - o := by unfold wrap64; omega
       by_cases h3 : n <= (st.sure.length : Int) - o
       · have hd : decide (st.may o n) = true := decide_eq_true ⟨h0,h1,h2,h3⟩
         rw [hd]
         clear hd
         have HL := hide hl
         clear hl
         go_enter Tryz.func92,Tryz.ntmps92
         go_wp2
         go_ret
         exact ⟨rfl,rfl⟩
       · have hd : decide (st.may o n) = false := decide_eq_false (fun h => h3 h.2.2.2)
         rw [hd]
         clear hd
         have HL := hide hl
         clear hl
         go_enter Tryz.func92,Tryz.ntmps92
         go_wp2
         go_ret
         exact ⟨rfl,rfl⟩
     · have hd : decide (st.may o n) = false := decide_eq_false (fun h => h2 h.2.2.1)
       rw [hd]
       clear hd
       go_enter Tryz.func92,Tryz.ntmps92
       go_wp2
       go_ret
       exact ⟨rfl,rfl⟩
   · have hd : decide (st.may o n) = false := decide_eq_false (fun h => h1 h.2.1)
     rw [hd]
     clear hd
     go_enter Tryz.func92,Tryz.ntmps92
     go_wp2
     go_ret
     exact ⟨rfl,rfl⟩
 · have hd : decide (st.may o n) = false := decide_eq_false (fun h => h0 h.1)
   rw [hd]
   clear hd
   go_enter Tryz.func92,Tryz.ntmps92
   go_wp2
   go_ret
   exact ⟨rfl,rfl⟩
def RD (u : World) (p : Nat) (st : St) (F : Nat -> Prop) : Prop := ∃ vS vL,F = RF p vS vL /\ RAt u p vS vL st
theorem RD.lt {u : World} {p : Nat} {st : St} {F : Nat -> Prop} (h : RD u p st F) : ∀ k,F k -> k < u.heap.size := by
 obtain ⟨vS,vL,rfl,h⟩ := h
 exact h.lt
theorem RD.same {u v : World} {p : Nat} {st : St} {F : Nat -> Prop} (h : RD u p st F) (hb : ∀ k,F k -> v.heap[k]? = u.heap[k]?) : RD v p st F := by
 obtain ⟨vS,vL,rfl,h⟩ := h
 exact ⟨vS,vL,rfl,h.same hb⟩
theorem RD.below {u v : World} {p : Nat} {st : St} {F : Nat -> Prop} (h : RD u p st F) (hb : Below u.heap.size u v) : RD v p st F := h.same (fun k hk => hb.block k (h.lt k hk))
theorem rd_may (p : Nat) (st : St) (F : Nat -> Prop) (o n : Int) (w : World) (h : RD w p st F) (hl : st.sure.length <= 4096) :
   Calls Tryz.prog 92 #[.pointer (some ⟨p,0,none⟩),.int .i64 o,.int .i64 n] w fun e w' => e = .returned (.bool (decide (st.may o n))) /\ w' = w := by
 obtain ⟨vS,vL,rfl,h⟩ := h
 exact rMay p vS vL st o n w h hl
theorem rd_write (p : Nat) (st : St) (F : Nat -> Prop) (b : Int) (d : ByteArray) (u : World) (h : RD u p st F) (hok : st.Ok) (hl : st.loose.length <= 100000) :
   Calls Tryz.prog 35 #[.pointer (some ⟨p,0,none⟩),.int .i64 b,.string d] u fun e v => e = .returned (.int .i64 (((st.write b d).1 : Nat) : Int)) /\ ∃ F',RD v p (st.write b d).2 F' /\ Loc F F' u v := by
 obtain ⟨vS,vL,rfl,h⟩ := h
 refine (rWrite p vS vL st b d u h hok hl).mono ?_
 rintro e v ⟨rfl,vL',h2,l2⟩
 exact ⟨rfl,_,⟨vS,vL',rfl,h2⟩,l2⟩
theorem rd_sync (p : Nat) (st : St) (F : Nat -> Prop) (u : World) (h : RD u p st F) (hok : st.Ok) (hl : st.loose.length <= 100000) :
   Calls Tryz.prog 97 #[.pointer (some ⟨p,0,none⟩)] u fun e v => e = .returned (.int .i64 ((st.sync.1 : Nat) : Int)) /\ ∃ F',RD v p st.sync.2 F' /\ Loc F F' u v := by
 obtain ⟨vS,vL,rfl,h⟩ := h
 refine (rSync p vS vL st u h hok hl).mono ?_
 rintro e v ⟨rfl,vL',h2,l2⟩
 exact ⟨rfl,_,⟨vS,vL',rfl,h2⟩,l2⟩
theorem rd_read (p : Nat) (st : St) (F : Nat -> Prop) (b : Int) (u : World) (h : RD u p st F) (hok : st.Ok) (hl : st.loose.length <= 100000) :
   Calls Tryz.prog 90 #[.pointer (some ⟨p,0,none⟩),.int .i64 b] u fun e v => e = .returned (.tuple #[.string (st.read b).1,.int .i64 (((st.read b).2 : Nat) : Int)]) /\ v = u := by
 obtain ⟨vS,vL,rfl,h⟩ := h
 exact rRead p vS vL st b u h hok hl
theorem rd_fuse (p : Nat) (st : St) (F : Nat -> Prop) (n : Int) (u : World) (h : RD u p st F) (hn : n <= 9223372036854775807) :
   Calls Tryz.prog 32 #[.pointer (some ⟨p,0,none⟩),.int .i64 n] u fun e v => (∃ x,e = .returned x) /\ RD v p (st.fuse n) F /\ Loc F F u v := by
 obtain ⟨vS,vL,rfl,h⟩ := h
 refine (rFuse p vS vL st n u h hn).mono ?_
 rintro e v ⟨he,h2,l2⟩
 exact ⟨he,⟨vS,vL,rfl,h2⟩,l2⟩
theorem rd_sure (p : Nat) (st : St) (F : Nat -> Prop) (u : World) (h : RD u p st F) (hok : st.Ok) :
   Calls Tryz.prog 15 #[.pointer (some ⟨p,0,none⟩)] u fun e v => e = .returned (.string st.text) /\ v = u := by
 obtain ⟨vS,vL,rfl,h⟩ := h
 exact rSure p vS vL st u h hok
theorem rd_crash (p : Nat) (st : St) (F : Nat -> Prop) (a : Option Addr) (c : Nat) (picks : List Int) (u : World) (h : RD u p st F) (hok : st.Ok) (hl : st.loose.length <= 100000) (hP : IntsAt u a picks) (hap : Apart a picks F) (hpl : picks.length <= 140737488351232) :
   Calls Tryz.prog 31 #[.pointer (some ⟨p,0,none⟩),.slice a picks.length c] u fun e v => (∃ x,e = .returned x) /\ ∃ F',RD v p (st.crash picks) F' /\ Loc F F' u v := by
 obtain ⟨vS,vL,rfl,h⟩ := h
 refine (rCrash p vS vL st a c picks u h hok hl hP hap hpl).mono ?_
 rintro e v ⟨he,vL',h2,l2⟩
 exact ⟨he,_,⟨vS,vL',rfl,h2⟩,l2⟩
theorem rd_new (n : Nat) (u : World) (h1 : 1 <= n) (h2 : n <= 4096) :
   Calls Tryz.prog 11 #[.int .i64 (n : Int)] u fun e v => ∃ p F,e = .returned (.tuple #[.pointer (some ⟨p,0,none⟩),.int .i64 0]) /\ RD v p (St.new n) F /\ (∀ k,F k -> u.heap.size <= k) /\ Below u.heap.size u v := by
 refine (rNew n u h1 h2).mono ?_
 rintro e v ⟨p,vS,rfl,h,_,hF,hb⟩
 exact ⟨p,_,rfl,⟨vS,_,rfl,h⟩,hF,hb⟩
end Go.Proofs.YtchhojkhfdkhfaaGreatDoor
