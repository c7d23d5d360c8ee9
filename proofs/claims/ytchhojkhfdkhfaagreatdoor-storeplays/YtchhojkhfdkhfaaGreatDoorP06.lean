/- Joined texts. -/
import Derived.Test.YtchhojkhfdkhfaaGreatDoorP04
import Derived.Test.YtchhojkhfdkhfaaGreatDoorP00
import Derived.Deep.Onto
import Derived.Deep.AppendLies
namespace Go.Proofs.YtchhojkhfdkhfaaGreatDoor
open Go Go.RowKit Frm
def Buf (B : Nat) (w0 u : World) (v : Value) (n : Nat) (l : List Value) : Prop :=
 ∃ g cap,v = .slice (some ⟨g,0,none⟩) n cap /\ B <= g /\ g < u.heap.size /\ n <= cap /\ l.length = n /\ (∀ j x,l[j]? = some x -> u.cell? ⟨g,j,none⟩ = some x) /\
   (∀ j,n <= j -> j < cap -> (u.cell? ⟨g,j,none⟩).isSome = true /\ u.frozen? ⟨g,j,none⟩ = false) /\ Below B w0 u
theorem Buf.form {B : Nat} {w0 u : World} {v : Value} {n : Nat} {l : List Value} (h : Buf B w0 u v n l) : ∃ g cap,v = .slice (some ⟨g,0,none⟩) n cap := by
 obtain ⟨g,cap,h1,_⟩ := h
 exact ⟨g,cap,h1⟩
theorem Buf.alloc {B : Nat} {w0 u : World} {v : Value} {n : Nat} {l : List Value} (h : Buf B w0 u v n l) (hB : B <= u.heap.size) (o : Obj) : Buf B w0 (u.alloc o) v n l := by
 obtain ⟨g,cap,h1,h2,h3,h4,h5,h6,h7,h8⟩ := h
 have hb : (u.alloc o).heap[g]? = u.heap[g]? := Below.heap_alloc u o g h3
 refine ⟨g,cap,h1,h2,by simp; omega,h4,h5,fun j x hx => ?_,fun j a b => ?_,h8.alloc hB o⟩
 · rw [World.cell?_of_block (a := ⟨g,j,none⟩) hb]; exact h6 j x hx
 · rw [World.cell?_of_block (a := ⟨g,j,none⟩) hb,World.frozen?_of_block (a := ⟨g,j,none⟩) hb]; exact h7 j a b
theorem Buf.own {B C : Nat} {w0 u : World} {v : Value} {n : Nat} {l : List Value} (h : u.ownsRow C 5 1 v n l) (hn : 0 < n) (hC : B <= C) (hb : Below B w0 u) : Buf B w0 u v n l := by
 rcases h.2 with ⟨_,h0⟩ | ⟨g,cap,cur,rfl,hg,hh,hc,_,hs,ht⟩
 · omega
 · have hlt := (Array.getElem?_eq_some_iff.1 hh).1
   have hl := h.1
   rw [Nat.mul_one] at hs ht hl
   refine ⟨g,cap,rfl,by omega,hlt,hc,hl,fun j x hx => ?_,fun j a b => ?_,hb⟩
   · have hj : j < l.length := (List.getElem?_eq_some_iff.1 hx).1
     rw [<- ht,List.getElem?_take_of_lt (by omega)] at hx
     simp only [World.cell?,hh]
     simpa using hx
   · simp [World.cell?,World.frozen?,hh]
     omega
theorem wpList_append_buf {ops : Array Oper} {rest : List Oper} {o : Oper} {a : Act} {Q : Exit -> Act -> World -> Prop} {B : Nat} {w0 u : World} {v : Value} {n : Nat} {l : List Value} (hg : o.guard = none) (s x : Operand) (t : TypeId) (hop : o.op = Op.call { callee := Callee.builtin Builtin.append,args := #[s,x],argTypes := #[t,t] })
   (ht : Tryz.prog.underlying t = some (.slice 5)) (i : TypeInfo) (h2 : Tryz.prog.info? 5 = some i) (h3 : i.zero = some (.int .u8 0)) (h4 : i.size = 1) (h5 : i.bytes = 1) (hs : a.eval s = v) (c : Int) (hx : a.eval x = .slice (some ⟨u.heap.size,0,none⟩) 1 1) (hb : Buf B w0 u v n l) (hB : B <= u.heap.size) (hn : n <= 1000000)
   (hK : ∀ v' w',Buf B w0 w' v' (n + 1) (l ++ [.int .u8 c]) -> wpList Tryz.prog ops Q rest (a.put o.dst v') w') : wpList Tryz.prog ops Q (o :: rest) a (u.alloc (.cells #[.int .u8 c] 5)) := by
 have hb' := hb.alloc hB (.cells #[.int .u8 c] 5)
 obtain ⟨g,cap,rfl,q2,q3,q4,q5,q6,q7,q8⟩ := hb'
 refine wpList_append_arg _ hg s x t hop 5 i (.int .u8 0) 1 1 ht h2 h3 h4 h5 rfl (by decide) g 0 n cap l hs (by omega) (fun j y hy => by rw [Nat.zero_add]; exact q6 j y hy) ⟨u.heap.size,0,none⟩ 1 1 [.int .u8 c] hx rfl (fun j y hj => ?_) (fun y hy => by simp at hy; subst hy; rfl) (fun hr j hj => ?_) (by unfold maxLen; omega) (by omega) (fun hr => ?_) (fun hr v' w' ho hgr => ?_)
 · match j,hj with
   | 0,hj => simp at hj; subst hj; simp [Addr.add,go_sem]
 · simp at hj
   subst hj
   have := q7 n (Nat.le_refl _) (by omega)
   simpa using this
 · refine hK _ _ ?_
   generalize u.alloc (.cells #[.int .u8 c] 5) = U at *
   have hin := World.cell?_setCells_in g [.int .u8 c] n U (fun j hj => by simp at hj; subst hj; exact (q7 n (Nat.le_refl _) (by omega)).1)
   rw [show 0 + n * 1 = n from by omega]
   refine ⟨g,cap,rfl,q2,by simp [World.setCells,World.setCell]; exact q3,hr,by simp; exact q5,fun j y hj => ?_,fun j c1 c2 => ?_,by simp only [World.setCells]; exact q8.setCell q2 _⟩
   · by_cases e : j < n
     · rw [World.cell?_setCells_out g _ n U _ (fun _ _ => Or.inl e)]
       rw [List.getElem?_append_left (by omega)] at hj
       exact q6 j y hj
     · have hjl : j < (l ++ [Value.int .u8 c]).length := (List.getElem?_eq_some_iff.1 hj).1
       simp at hjl
       have hjn : j = n := by omega
       subst hjn
       rw [List.getElem?_append_right (by omega)] at hj
       have := hin 0 (by simp)
       rw [Nat.add_zero] at this
       rw [this]
       rw [show j - l.length = 0 from by omega] at hj
       simpa using hj
   · rw [World.cell?_setCells_out g _ n U _ (fun _ _ => Or.inr (by simp; omega)),World.frozen?_setCells]
     exact q7 j (by omega) c2
 · have hsz : B <= (u.alloc (.cells #[.int .u8 c] 5)).heap.size := by simp; omega
   exact hK _ _ (Buf.own ho (by omega) hsz (q8.grown hgr hsz (fun k hk => by cases hk)))
def bl (l : List UInt8) : List Value := l.map fun b => .int .u8 (b.toNat : Int)
def lenOf : Value -> Nat
 | .slice _ n _ => n
 | _ => 0
theorem buf_start (w : World) (t : ByteArray) (cap : Nat) (h : t.size <= cap) : Buf w.heap.size w (w.alloc (.cells (bytesRow t cap) 5 ((bytesRow t cap).size,(bytesRow t cap).size + 1))).drew (.slice (some ⟨w.heap.size,0,none⟩) t.size cap) t.size (bl t.data.toList) := by
 have hs : (bytesRow t cap).size = cap := by
   have : t.data.size = t.size := rfl
   unfold bytesRow
   simp
   omega
 have hc : ∀ j,(w.alloc (.cells (bytesRow t cap) 5 ((bytesRow t cap).size,(bytesRow t cap).size + 1))).drew.cell? ⟨w.heap.size,j,none⟩ = (bytesRow t cap)[j]? := fun j => World.cell?_alloc_mark w _ _ _ j
 have hf : ∀ j,(w.alloc (.cells (bytesRow t cap) 5 ((bytesRow t cap).size,(bytesRow t cap).size + 1))).drew.frozen? ⟨w.heap.size,j,none⟩ = (decide ((bytesRow t cap).size <= j) && decide (j < (bytesRow t cap).size + 1)) := fun j => World.frozen?_alloc_mark w _ _ _ _ j
 refine ⟨w.heap.size,cap,rfl,Nat.le_refl _,by show w.heap.size < (w.heap.push _).size; simp,h,by unfold bl; simp,fun j x hx => ?_,fun j a b => ?_,((Below.refl _ _).alloc (Nat.le_refl _) _).drew⟩
 · have hj : j < t.data.size := by have := (List.getElem?_eq_some_iff.1 hx).1; simpa [bl] using this
   rw [hc,bytesRow_at t cap j hj, <- hx]
   simp only [bl,List.getElem?_map,Array.getElem?_toList,Array.getElem?_eq_getElem hj]
   rfl
 · rw [hc,hf]
   refine ⟨by simp; omega,by simp; omega⟩
theorem buf_text {B : Nat} {w0 u : World} {v : Value} {n : Nat} {l : List UInt8} (h : Buf B w0 u v n (bl l)) (src dst : TypeId) (hs : Tryz.prog.underlying src = some (.slice 5)) (hd : Tryz.prog.underlying dst = some .string) : (convert src dst v).run Tryz.prog u = .ok (.string ⟨l.toArray⟩) u := by
 obtain ⟨g,cap,rfl,_,_,_,h5,h6,_⟩ := h
 have e : n = l.length := by rw [<- h5]; simp [bl]
 rw [e]
 refine run_convert_bytes_back u src dst 5 ⟨g,0,none⟩ cap l hs Tryz.underlying5 hd (fun j hj => ?_)
 have := h6 j (.int .u8 (l[j].toNat : Int)) (by simp [bl,hj])
 rw [show (⟨g,0,none⟩ : Addr).add j = ⟨g,j,none⟩ from by simp [Addr.add]; intro h; exact h.symm]
 exact this
theorem bl_snoc (l : List UInt8) (c : Nat) (hc : c < 256) : bl l ++ [.int .u8 (c : Int)] = bl (l ++ [UInt8.ofNat c]) := by
 unfold bl
 rw [List.map_append]
 simp
 omega
theorem Buf.size {B : Nat} {w0 u : World} {v : Value} {n : Nat} {l : List Value} (h : Buf B w0 u v n l) : B <= u.heap.size := by
 obtain ⟨g,cap,_,h2,h3,_⟩ := h
 omega
theorem Buf.below {B : Nat} {w0 u : World} {v : Value} {n : Nat} {l : List Value} (h : Buf B w0 u v n l) : Below B w0 u := by
 obtain ⟨g,cap,_,_,_,_,_,_,_,h8⟩ := h
 exact h8
theorem blk_list (s : ByteArray) (k lo hi : Nat) (hlo : lo = min (k * 255) s.size) (hhi : hi = min (lo + 255) s.size) : (⟨((s.extract lo hi).data.toList ++ List.replicate (255 - (hi - lo)) 0 ++ [UInt8.ofNat (hi - lo)]).toArray⟩ : ByteArray) = blkOf s k := by
 have h1 : hi - lo = cnt k s.size := by unfold cnt; omega
 have h2 : s.extract lo hi = s.extract (k * 255) (k * 255 + 255) := by
   by_cases e : k * 255 <= s.size
   · refine bytes_ext (by rw [ByteArray.size_extract,ByteArray.size_extract]; omega) (fun j hj => ?_)
     rw [ByteArray.size_extract] at hj
     by_cases e2 : k * 255 + 255 <= s.size
     · rw [show lo = k * 255 from by omega,show hi = k * 255 + 255 from by omega]
     · apply congrArg (byteAt · j)
       apply ByteArray.ext
       rw [ByteArray.data_extract,ByteArray.data_extract,show lo = k * 255 from by omega]
       apply Array.ext
       · have : s.data.size = s.size := rfl
         simp; omega
       · intro i a b; simp
   · refine bytes_ext (by rw [ByteArray.size_extract,ByteArray.size_extract]; omega) (fun j hj => ?_)
     rw [ByteArray.size_extract] at hj
     omega
 unfold blkOf
 rw [h1,h2]
 apply ByteArray.ext
 rw [ByteArray.data_append,ByteArray.data_append]
 unfold zs oneB
 simp
end Go.Proofs.YtchhojkhfdkhfaaGreatDoor
