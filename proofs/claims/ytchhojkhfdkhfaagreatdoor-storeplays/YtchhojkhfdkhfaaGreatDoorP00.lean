/- Joined texts. -/
namespace Go.Proofs.YtchhojkhfdkhfaaGreatDoor.Frm
def stp (c : Nat) : Nat := if c % 2 = 1 then (c / 2) ^^^ 2197175160 else c / 2
def stps : Nat -> Nat -> Nat
 | 0,c => c
 | n + 1,c => stps n (stp c)

theorem stp_lt {c : Nat} (h : c < 4294967296) : stp c < 4294967296 := by
 unfold stp
 split
 · exact Nat.xor_lt_two_pow (n := 32) (by omega) (by decide)
 · omega
theorem stps_lt : ∀ n {c : Nat},c < 4294967296 -> stps n c < 4294967296
 | 0,_,h => h
 | n + 1,_,h => stps_lt n (stp_lt h)
theorem stps_add : ∀ n m c,stps (n + m) c = stps m (stps n c)
 | 0,m,c => by rw [Nat.zero_add]; rfl
 | n + 1,m,c => by rw [Nat.succ_add]; exact stps_add n m (stp c)
theorem stps_succ (n c : Nat) : stps (n + 1) c = stp (stps n c) := by
 rw [stps_add n 1 c]; rfl

theorem xor4 (a b p : Nat) : a ^^^ b = (a ^^^ p) ^^^ (b ^^^ p) := by
 rw [Nat.xor_assoc, <- Nat.xor_assoc p b p,Nat.xor_comm p b,Nat.xor_assoc b p p,Nat.xor_self,Nat.xor_zero]
theorem xor_left (a b p : Nat) : a ^^^ b ^^^ p = (a ^^^ p) ^^^ b := by
 rw [Nat.xor_assoc,Nat.xor_comm b p, <- Nat.xor_assoc]
theorem stp_xor (a b : Nat) : stp (a ^^^ b) = stp a ^^^ stp b := by
 have hm : (a ^^^ b) % 2 = 1 ↔ ¬ ((a % 2 = 1) ↔ (b % 2 = 1)) := Nat.xor_mod_two_eq_one
 have hd : (a ^^^ b) / 2 = a / 2 ^^^ b / 2 := Nat.xor_div_two
 unfold stp
 rw [hd]
 by_cases ha : a % 2 = 1 <;> by_cases hb : b % 2 = 1
 · rw [if_neg (fun h => hm.1 h ⟨fun _ => hb,fun _ => ha⟩),if_pos ha,if_pos hb]; exact xor4 _ _ _
 · rw [if_pos (hm.2 fun h => hb (h.1 ha)),if_pos ha,if_neg hb]; exact xor_left _ _ _
 · rw [if_pos (hm.2 fun h => ha (h.2 hb)),if_neg ha,if_pos hb]; exact Nat.xor_assoc _ _ _
 · rw [if_neg (fun h => hm.1 h ⟨fun k => absurd k ha,fun k => absurd k hb⟩),if_neg ha,if_neg hb]
theorem stps_xor : ∀ n a b,stps n (a ^^^ b) = stps n a ^^^ stps n b
 | 0,_,_ => rfl
 | n + 1,a,b => by
   show stps n (stp (a ^^^ b)) = stps n (stp a) ^^^ stps n (stp b)
   rw [stp_xor,stps_xor n]
def upd (c b : Nat) : Nat := stps 8 (c ^^^ b)
def fold (c : Nat) : List Nat -> Nat
 | [] => c
 | b :: l => fold (upd c b) l
theorem fold_append : ∀ l m c,fold c (l ++ m) = fold (fold c l) m
 | [],_,_ => rfl
 | b :: l,m,c => fold_append l m (upd c b)
theorem upd_lt {c b : Nat} (h : c < 4294967296) (hb : b < 256) : upd c b < 4294967296 :=
 stps_lt 8 (Nat.xor_lt_two_pow (n := 32) h (by omega))
theorem fold_lt : ∀ l {c : Nat},c < 4294967296 -> (∀ b ∈ l,b < 256) -> fold c l < 4294967296
 | [],_,h,_ => h
 | b :: l,_,h,hb => fold_lt l (upd_lt h (hb b (by simp))) (fun x hx => hb x (by simp [hx]))
theorem stps_shift : ∀ n c,stps n (2 ^ n * c) = c
 | 0,c => by simp [stps]
 | n + 1,c => by
   have e : stp (2 ^ (n + 1) * c) = 2 ^ n * c := by
     unfold stp
     rw [Nat.pow_succ,Nat.mul_comm (2 ^ n) 2,Nat.mul_assoc,if_neg (by omega)]
     omega
   show stps n (stp (2 ^ (n + 1) * c)) = c
   rw [e]; exact stps_shift n c
theorem split_xor (n c : Nat) : c = (2 ^ n * (c / 2 ^ n)) ^^^ (c % 2 ^ n) := by
 apply Nat.eq_of_testBit_eq
 intro i
 rw [Nat.testBit_xor,Nat.testBit_mod_two_pow,Nat.mul_comm,Nat.testBit_mul_two_pow,Nat.testBit_div_two_pow]
 by_cases h : i < n
 · have h2 : ¬ n <= i := by omega
   simp [h,h2]
 · have h2 : n <= i := by omega
   simp [h,h2,Nat.sub_add_cancel h2]
theorem stps_table (n c : Nat) : stps n c = (c / 2 ^ n) ^^^ stps n (c % 2 ^ n) := by
 have e := congrArg (stps n) (split_xor n c)
 rw [stps_xor,stps_shift] at e
 exact e
theorem upd_table (c b : Nat) (hb : b < 256) : upd c b = (c / 256) ^^^ stps 8 ((c ^^^ b) % 256) := by
 unfold upd
 rw [stps_table 8 (c ^^^ b)]
 have e : (c ^^^ b) / 2 ^ 8 = c / 2 ^ 8 := by
   rw [Nat.xor_div_two_pow]
   rw [Nat.div_eq_of_lt (a := b) (by omega),Nat.xor_zero]
 rw [e]

def cpl (c : Nat) : Nat := c ^^^ 4294967295
theorem cpl_lt {c : Nat} (h : c < 4294967296) : cpl c < 4294967296 := Nat.xor_lt_two_pow (n := 32) h (by decide)
def more (from_ : Nat) (l : List Nat) : Nat := cpl (fold (cpl from_) l)
def join (a b n : Nat) : Nat := cpl (stps (8 * n) (cpl a)) ^^^ b ^^^ cpl (stps (8 * n) (cpl 0))
theorem add_xor (m k : Nat) : 2 ^ (m + 1) * k + 2 ^ m = (2 ^ (m + 1) * k) ^^^ 2 ^ m := by
 have hp : 2 ^ m < 2 ^ (m + 1) := Nat.pow_lt_pow_right (by decide) (by omega)
 have h := split_xor (m + 1) (2 ^ (m + 1) * k + 2 ^ m)
 rw [Nat.mul_add_div (by omega),Nat.div_eq_of_lt hp,Nat.add_zero,Nat.mul_add_mod,Nat.mod_eq_of_lt hp] at h
 exact h
theorem single_bit (j : Nat) (hj : j < 8) : stps 8 (2 ^ (7 - j)) = stps (j + 1) 1 := by
 have h := stps_add (7 - j) (j + 1) (2 ^ (7 - j))
 rw [show (7 - j) + (j + 1) = 8 from by omega] at h
 have h2 := stps_shift (7 - j) 1
 rw [Nat.mul_one] at h2
 rw [h,h2]
def lay (j k i : Nat) : Nat := if i % 2 ^ (8 - j) = 0 \/ (i % 2 ^ (7 - j) = 0 /\ i < k * 2 ^ (8 - j)) then stps 8 i else 0
theorem lay_start (i : Nat) (hi : i < 256) : lay 0 0 i = 0 := by
 unfold lay
 split
 · have : i = 0 := by simp at *; omega
   subst this; rfl
 · rfl
theorem lay_end (i : Nat) : lay 8 0 i = stps 8 i := by
 unfold lay; rw [if_pos (Or.inl (by simp; omega))]
theorem lay_next (j i : Nat) (hj : j < 8) (hi : i < 256) : lay j (2 ^ j) i = lay (j + 1) 0 i := by
 have hc : j = 0 \/ j = 1 \/ j = 2 \/ j = 3 \/ j = 4 \/ j = 5 \/ j = 6 \/ j = 7 := by omega
 unfold lay
 rcases hc with rfl | rfl | rfl | rfl | rfl | rfl | rfl | rfl <;> (simp only [Nat.reducePow,Nat.reduceSub,Nat.reduceAdd,Nat.reduceMul]; split <;> split <;> first | rfl | (exfalso; omega))
theorem lay_at (j k : Nat) : lay j k (k * 2 ^ (8 - j)) = stps 8 (k * 2 ^ (8 - j)) := by
 unfold lay; rw [if_pos (Or.inl (Nat.mul_mod_left _ _))]
theorem lay_new (j k : Nat) (hj : j < 8) : lay j k (k * 2 ^ (8 - j)) ^^^ stps (j + 1) 1 = stps 8 (k * 2 ^ (8 - j) + 2 ^ (7 - j)) := by
 rw [lay_at j k, <- single_bit j hj, <- stps_xor,show 8 - j = (7 - j) + 1 from by omega,Nat.mul_comm, <- add_xor]
theorem lay_if {p q : Prop} [Decidable p] [Decidable q] (x : Nat) (h : p ↔ q) : (if p then x else 0) = if q then x else 0 := by
 by_cases hp : p
 · rw [if_pos hp,if_pos (h.1 hp)]
 · rw [if_neg hp,if_neg (fun k => hp (h.2 k))]
theorem lay_succ (j k i : Nat) (hj : j < 8) : lay j (k + 1) i = if i = k * 2 ^ (8 - j) + 2 ^ (7 - j) then stps 8 (k * 2 ^ (8 - j) + 2 ^ (7 - j)) else lay j k i := by
 have hc : j = 0 \/ j = 1 \/ j = 2 \/ j = 3 \/ j = 4 \/ j = 5 \/ j = 6 \/ j = 7 := by omega
 by_cases e : i = k * 2 ^ (8 - j) + 2 ^ (7 - j)
 · rw [if_pos e, <- e]
   unfold lay
   refine if_pos (Or.inr ?_)
   rcases hc with rfl | rfl | rfl | rfl | rfl | rfl | rfl | rfl <;> (simp only [Nat.reducePow,Nat.reduceSub] at *; omega)
 · rw [if_neg e]
   unfold lay
   refine lay_if _ ?_
   rcases hc with rfl | rfl | rfl | rfl | rfl | rfl | rfl | rfl <;> (simp only [Nat.reducePow,Nat.reduceSub] at *; omega)
theorem lay_in (j k : Nat) (hj : j < 8) (hk : k < 2 ^ j) : k * 2 ^ (8 - j) + 2 ^ (7 - j) < 256 := by
 have hc : j = 0 \/ j = 1 \/ j = 2 \/ j = 3 \/ j = 4 \/ j = 5 \/ j = 6 \/ j = 7 := by omega
 rcases hc with rfl | rfl | rfl | rfl | rfl | rfl | rfl | rfl <;> (simp only [Nat.reducePow,Nat.reduceSub] at *; omega)
theorem lay_more (j k : Nat) (hj : j < 8) : k * 2 ^ (8 - j) < 256 ↔ k < 2 ^ j := by
 have hc : j = 0 \/ j = 1 \/ j = 2 \/ j = 3 \/ j = 4 \/ j = 5 \/ j = 6 \/ j = 7 := by omega
 rcases hc with rfl | rfl | rfl | rfl | rfl | rfl | rfl | rfl <;> (simp only [Nat.reducePow,Nat.reduceSub] at *; omega)
theorem lay_lt (j k i : Nat) (hi : i < 256) : lay j k i < 4294967296 := by
 unfold lay; split
 · exact stps_lt 8 (by omega)
 · decide

theorem upd_by (c b : Nat) (hb : b < 256) : stps 8 (c % 256 ^^^ b) ^^^ c / 256 = upd c b := by
 have e : (c ^^^ b) % 256 = c % 256 ^^^ b := by
   have h := Nat.xor_mod_two_pow (a := c) (b := b) (n := 8)
   rw [show (2 : Nat) ^ 8 = 256 from rfl,Nat.mod_eq_of_lt hb] at h
   exact h
 rw [upd_table c b hb,e,Nat.xor_comm]
end Go.Proofs.YtchhojkhfdkhfaaGreatDoor.Frm
namespace Go.Proofs.YtchhojkhfdkhfaaGreatDoor.Frm
def bytesOf (s : ByteArray) : List Nat := s.data.toList.map UInt8.toNat
theorem bytesOf_lt (s : ByteArray) : ∀ b ∈ bytesOf s,b < 256 := by
 intro b hb
 obtain ⟨x,_,rfl⟩ := List.mem_map.1 hb
 exact x.toNat_lt
theorem bytesOf_length (s : ByteArray) : (bytesOf s).length = s.size := by unfold bytesOf; simp
theorem bytesOf_append (s t : ByteArray) : bytesOf (s ++ t) = bytesOf s ++ bytesOf t := by
 unfold bytesOf; simp
theorem bytesOf_extract (s : ByteArray) (i j : Nat) : bytesOf (s.extract i j) = ((bytesOf s).take j).drop i := by
 unfold bytesOf
 simp [List.map_take,List.map_drop]
 exact List.drop_take.symm
theorem bytesOf_inj {s t : ByteArray} (h : bytesOf s = bytesOf t) : s = t := by
 unfold bytesOf at h
 have h2 : s.data.toList = t.data.toList := (List.map_inj_right (fun a b h => UInt8.toNat_inj.1 h)).1 h
 exact ByteArray.ext (Array.toList_inj.1 h2)
theorem more_lt {c : Nat} (hc : c < 4294967296) (s : ByteArray) : more c (bytesOf s) < 4294967296 := cpl_lt (fold_lt _ (cpl_lt hc) (bytesOf_lt s))

def num4 (l : List Nat) : Nat := l.getD 0 0 + 256 * l.getD 1 0 + 65536 * l.getD 2 0 + 16777216 * l.getD 3 0
def four (x : Nat) : List Nat := [x % 256,x / 256 % 256,x / 65536 % 256,x / 16777216 % 256]
def textOf (l : List Nat) : ByteArray := ⟨(l.map UInt8.ofNat).toArray⟩
theorem bytesOf_textOf (l : List Nat) (h : ∀ c ∈ l,c < 256) : bytesOf (textOf l) = l := by
 unfold bytesOf textOf
 simp only [List.map_map]
 have e : ∀ c ∈ l,(UInt8.toNat ∘ UInt8.ofNat) c = c := fun c hc => by
   show (UInt8.ofNat c).toNat = c
   rw [UInt8.toNat_ofNat',Nat.mod_eq_of_lt (h c hc)]
 rw [List.map_congr_left e,List.map_id']
theorem four_lt (x : Nat) : ∀ c ∈ four x,c < 256 := by
 intro c hc
 unfold four at hc
 simp at hc
 omega
theorem num4_four (x : Nat) (r : List Nat) (h : x < 4294967296) : num4 (four x ++ r) = x := by
 unfold num4 four
 simp
 omega
theorem num4_lt (l : List Nat) (h : ∀ b ∈ l,b < 256) : num4 l < 4294967296 := by
 have g : ∀ i,l.getD i 0 < 256 := fun i => by
   rw [List.getD_eq_getElem?_getD]
   by_cases hi : i < l.length
   · rw [List.getElem?_eq_getElem hi]; exact h _ (List.getElem_mem hi)
   · rw [List.getElem?_eq_none (by omega)]; decide
 have g0 := g 0; have g1 := g 1; have g2 := g 2; have g3 := g 3
 unfold num4
 omega
theorem num4_take (l : List Nat) (m : Nat) (h : 4 <= m) : num4 (l.take m) = num4 l := by
 unfold num4
 simp only [List.getD_eq_getElem?_getD,List.getElem?_take]
 rw [if_pos (by omega),if_pos (by omega),if_pos (by omega),if_pos (by omega)]
def w4 (x : Nat) : ByteArray := textOf (four x)
theorem w4_bytes (x : Nat) : bytesOf (w4 x) = four x := bytesOf_textOf _ (four_lt x)
theorem w4_size (x : Nat) : (w4 x).size = 4 := rfl

def frm (s : ByteArray) : ByteArray := (w4 s.size ++ s) ++ w4 (more 0 (bytesOf (w4 s.size ++ s)))
theorem frm_size (s : ByteArray) : (frm s).size = s.size + 8 := by
 unfold frm; simp only [ByteArray.size_append,w4_size]; omega
theorem frm_bytes (s : ByteArray) : bytesOf (frm s) = (four s.size ++ bytesOf s) ++ four (more 0 (four s.size ++ bytesOf s)) := by
 unfold frm; simp only [bytesOf_append,w4_bytes]

def rdf (s : ByteArray) : ByteArray × Nat × Nat :=
 if s.size < 4 then (⟨#[]⟩,0,40)
 else if 65536 < num4 (bytesOf s) then (⟨#[]⟩,0,4)
 else if s.size < num4 (bytesOf s) + 8 then (⟨#[]⟩,0,40)
 else if more 0 ((bytesOf s).take (num4 (bytesOf s) + 4)) ≠ num4 ((bytesOf s).drop (num4 (bytesOf s) + 4)) then (⟨#[]⟩,0,41)
 else (s.extract 4 (num4 (bytesOf s) + 4),num4 (bytesOf s) + 8,0)
theorem rdf_ok (s : ByteArray) (h : (rdf s).2.2 = 0) : 8 <= (rdf s).2.1 /\ (rdf s).2.1 <= s.size /\ (rdf s).2.1 <= 65544 := by
 unfold rdf at *
 split at h <;> rename_i h1
 · simp at h
 · split at h <;> rename_i h2
   · simp at h
   · split at h <;> rename_i h3
     · simp at h
     · split at h <;> rename_i h4
       · simp at h
       · rw [if_neg h1,if_neg h2,if_neg h3,if_neg h4]
         simp only
         omega
theorem rdf_n (s : ByteArray) : (rdf s).2.1 <= 65544 := by
 unfold rdf
 split
 · simp
 · split
   · simp
   · split
     · simp
     · split
       · simp
       · simp only; omega
def scnF : Nat -> ByteArray -> List ByteArray × Nat × Nat
 | 0,_ => ([],0,0)
 | m + 1,s => if s.size = 0 then ([],0,0)
   else if (rdf s).2.2 = 0 then
     ((rdf s).1 :: (scnF m (s.extract (rdf s).2.1 s.size)).1,(rdf s).2.1 + (scnF m (s.extract (rdf s).2.1 s.size)).2.1,(scnF m (s.extract (rdf s).2.1 s.size)).2.2)
   else ([],0,(rdf s).2.2)
theorem scnF_zero : ∀ (m : Nat) (s : ByteArray),s.size = 0 -> scnF m s = ([],0,0)
 | 0,_,_ => rfl
 | m + 1,s,h => by unfold scnF; rw [if_pos h]
theorem scnF_any : ∀ (m n : Nat) (s : ByteArray),s.size <= m -> s.size <= n -> scnF m s = scnF n s
 | 0,n,s,hm,_ => by rw [scnF_zero n s (by omega)]; rfl
 | m + 1,0,s,_,hn => by rw [scnF_zero (m + 1) s (by omega)]; rfl
 | m + 1,n + 1,s,hm,hn => by
   unfold scnF
   by_cases h0 : s.size = 0
   · rw [if_pos h0,if_pos h0]
   · rw [if_neg h0,if_neg h0]
     by_cases he : (rdf s).2.2 = 0
     · have hr := rdf_ok s he
       rw [if_pos he,if_pos he,scnF_any m n (s.extract (rdf s).2.1 s.size) (by rw [ByteArray.size_extract]; omega) (by rw [ByteArray.size_extract]; omega)]
     · rw [if_neg he,if_neg he]
def scn (s : ByteArray) : List ByteArray × Nat × Nat := scnF s.size s
theorem scn_nil (s : ByteArray) (h : s.size = 0) : scn s = ([],0,0) := scnF_zero _ s h
theorem scn_err (s : ByteArray) (h : s.size ≠ 0) (he : (rdf s).2.2 ≠ 0) : scn s = ([],0,(rdf s).2.2) := by
 obtain ⟨m,hm⟩ : ∃ m,s.size = m + 1 := ⟨s.size - 1,by omega⟩
 unfold scn
 rw [hm]
 unfold scnF
 rw [if_neg h,if_neg he]
theorem scn_ok (s : ByteArray) (h : s.size ≠ 0) (he : (rdf s).2.2 = 0) :
   scn s = ((rdf s).1 :: (scn (s.extract (rdf s).2.1 s.size)).1,(rdf s).2.1 + (scn (s.extract (rdf s).2.1 s.size)).2.1,(scn (s.extract (rdf s).2.1 s.size)).2.2) := by
 have hr := rdf_ok s he
 obtain ⟨m,hm⟩ : ∃ m,s.size = m + 1 := ⟨s.size - 1,by omega⟩
 have e : scn (s.extract (rdf s).2.1 s.size) = scnF m (s.extract (rdf s).2.1 s.size) := scnF_any _ _ _ (Nat.le_refl _) (by rw [ByteArray.size_extract]; omega)
 rw [e]
 show scnF s.size s = _
 rw [show scnF s.size s = scnF (m + 1) s from by rw [hm]]
 conv => lhs; unfold scnF
 rw [if_neg h,if_pos he]
def fndF : Nat -> ByteArray -> List (ByteArray × Nat × Nat)
 | 0,_ => []
 | m + 1,s => if s.size = 0 then [] else if (rdf s).2.2 = 0 then rdf s :: fndF m (s.extract (rdf s).2.1 s.size) else [rdf s]
theorem fndF_zero : ∀ (m : Nat) (s : ByteArray),s.size = 0 -> fndF m s = []
 | 0,_,_ => rfl
 | m + 1,s,h => by unfold fndF; rw [if_pos h]
theorem fndF_any : ∀ (m n : Nat) (s : ByteArray),s.size <= m -> s.size <= n -> fndF m s = fndF n s
 | 0,n,s,hm,_ => by rw [fndF_zero n s (by omega)]; rfl
 | m + 1,0,s,_,hn => by rw [fndF_zero (m + 1) s (by omega)]; rfl
 | m + 1,n + 1,s,hm,hn => by
   unfold fndF
   by_cases h0 : s.size = 0
   · rw [if_pos h0,if_pos h0]
   · rw [if_neg h0,if_neg h0]
     by_cases he : (rdf s).2.2 = 0
     · have hr := rdf_ok s he
       rw [if_pos he,if_pos he,fndF_any m n (s.extract (rdf s).2.1 s.size) (by rw [ByteArray.size_extract]; omega) (by rw [ByteArray.size_extract]; omega)]
     · rw [if_neg he,if_neg he]
def fnd (s : ByteArray) : List (ByteArray × Nat × Nat) := fndF s.size s
theorem fnd_nil (s : ByteArray) (h : s.size = 0) : fnd s = [] := fndF_zero _ s h
theorem fnd_err (s : ByteArray) (h : s.size ≠ 0) (he : (rdf s).2.2 ≠ 0) : fnd s = [rdf s] := by
 obtain ⟨m,hm⟩ : ∃ m,s.size = m + 1 := ⟨s.size - 1,by omega⟩
 unfold fnd
 rw [hm]
 unfold fndF
 rw [if_neg h,if_neg he]
theorem fnd_ok (s : ByteArray) (h : s.size ≠ 0) (he : (rdf s).2.2 = 0) : fnd s = rdf s :: fnd (s.extract (rdf s).2.1 s.size) := by
 have hr := rdf_ok s he
 obtain ⟨m,hm⟩ : ∃ m,s.size = m + 1 := ⟨s.size - 1,by omega⟩
 have e : fnd (s.extract (rdf s).2.1 s.size) = fndF m (s.extract (rdf s).2.1 s.size) := fndF_any _ _ _ (Nat.le_refl _) (by rw [ByteArray.size_extract]; omega)
 rw [e]
 show fndF s.size s = _
 rw [show fndF s.size s = fndF (m + 1) s from by rw [hm]]
 conv => lhs; unfold fndF
 rw [if_neg h,if_pos he]
def sumN (l : List (ByteArray × Nat × Nat)) : Nat := (l.map fun x => x.2.1).sum
theorem fnd_all : ∀ (m : Nat) (s : ByteArray),s.size <= m -> (∀ x ∈ fnd s,x.2.2 = 0) -> scn s = ((fnd s).map fun x => x.1,sumN (fnd s),0)
 | m,s,hm,h => by
   by_cases h0 : s.size = 0
   · rw [scn_nil s h0,fnd_nil s h0]; rfl
   · by_cases he : (rdf s).2.2 = 0
     · have hr := rdf_ok s he
       obtain ⟨m',rfl⟩ : ∃ m',m = m' + 1 := ⟨m - 1,by omega⟩
       rw [fnd_ok s h0 he] at h
       have ih := fnd_all m' (s.extract (rdf s).2.1 s.size) (by rw [ByteArray.size_extract]; omega) (fun x hx => h x (List.mem_cons_of_mem _ hx))
       rw [scn_ok s h0 he,fnd_ok s h0 he,ih]
       simp [sumN]
     · rw [fnd_err s h0 he] at h
       exact absurd (h _ (List.mem_singleton.2 rfl)) he
theorem fnd_stop : ∀ (pre : List (ByteArray × Nat × Nat)) (s : ByteArray) (x : ByteArray × Nat × Nat),pre ++ [x] <+: fnd s -> (∀ y ∈ pre,y.2.2 = 0) -> x.2.2 ≠ 0 ->
   scn s = (pre.map fun x => x.1,sumN pre,x.2.2)
 | [],s,x,hp,_,hx => by
   by_cases h0 : s.size = 0
   · rw [fnd_nil s h0] at hp; simp at hp
   · by_cases he : (rdf s).2.2 = 0
     · rw [fnd_ok s h0 he] at hp
       obtain ⟨t,ht⟩ := hp
       simp at ht
       rw [ht.1] at hx
       exact absurd he hx
     · rw [fnd_err s h0 he] at hp
       obtain ⟨t,ht⟩ := hp
       simp at ht
       rw [scn_err s h0 he,ht.1]; rfl
 | y :: pre,s,x,hp,hy,hx => by
   by_cases h0 : s.size = 0
   · rw [fnd_nil s h0] at hp; simp at hp
   · by_cases he : (rdf s).2.2 = 0
     · rw [fnd_ok s h0 he] at hp
       obtain ⟨t,ht⟩ := hp
       simp at ht
       obtain ⟨e1,e2⟩ := ht
       have ih := fnd_stop pre (s.extract (rdf s).2.1 s.size) x ⟨t,by rw [<- e2]; simp⟩ (fun z hz => hy z (List.mem_cons_of_mem _ hz)) hx
       rw [scn_ok s h0 he,ih,e1]
       simp [sumN]
     · rw [fnd_err s h0 he] at hp
       obtain ⟨t,ht⟩ := hp
       simp at ht
theorem fnd_length : ∀ (m : Nat) (s : ByteArray),s.size <= m -> (fnd s).length <= s.size
 | m,s,hm => by
   by_cases h0 : s.size = 0
   · rw [fnd_nil s h0]; exact Nat.zero_le _
   · by_cases he : (rdf s).2.2 = 0
     · have hr := rdf_ok s he
       obtain ⟨m',rfl⟩ : ∃ m',m = m' + 1 := ⟨m - 1,by omega⟩
       have ih := fnd_length m' (s.extract (rdf s).2.1 s.size) (by rw [ByteArray.size_extract]; omega)
       rw [fnd_ok s h0 he,List.length_cons]
       rw [ByteArray.size_extract] at ih
       omega
     · rw [fnd_err s h0 he]; simp; omega
theorem scn_bound : ∀ (m : Nat) (s : ByteArray),s.size <= m -> (scn s).2.1 <= s.size /\ (scn s).1.length <= s.size
 | m,s,hm => by
   by_cases h0 : s.size = 0
   · rw [scn_nil s h0]; exact ⟨Nat.zero_le _,Nat.zero_le _⟩
   · by_cases he : (rdf s).2.2 = 0
     · have hr := rdf_ok s he
       obtain ⟨m',rfl⟩ : ∃ m',m = m' + 1 := ⟨m - 1,by omega⟩
       have ih := scn_bound m' (s.extract (rdf s).2.1 s.size) (by rw [ByteArray.size_extract]; omega)
       rw [ByteArray.size_extract] at ih
       rw [scn_ok s h0 he]
       simp only [List.length_cons]
       omega
     · rw [scn_err s h0 he]; exact ⟨Nat.zero_le _,Nat.zero_le _⟩
end Go.Proofs.YtchhojkhfdkhfaaGreatDoor.Frm
namespace Go.Proofs.YtchhojkhfdkhfaaGreatDoor.Frm
theorem four_length (x : Nat) : (four x).length = 4 := rfl
theorem sum_lt (l : List Nat) (h : ∀ b ∈ l,b < 256) : more 0 l < 4294967296 := cpl_lt (fold_lt _ (cpl_lt (by decide)) h)
theorem frm_num (s r : ByteArray) (hs : s.size <= 65536) : num4 (bytesOf (frm s ++ r)) = s.size := by
 rw [bytesOf_append,frm_bytes,List.append_assoc,List.append_assoc]
 exact num4_four _ _ (by omega)
theorem rdf_frm (s r : ByteArray) (hs : s.size <= 65536) : rdf (frm s ++ r) = (s,s.size + 8,0) := by
 have hn := frm_num s r hs
 have hz : (frm s ++ r).size = s.size + 8 + r.size := by rw [ByteArray.size_append,frm_size]
 have hb : bytesOf (frm s ++ r) = (four s.size ++ bytesOf s) ++ (four (more 0 (four s.size ++ bytesOf s)) ++ bytesOf r) := by
   rw [bytesOf_append,frm_bytes]; simp
 have hl : (four s.size ++ bytesOf s).length = s.size + 4 := by rw [List.length_append,four_length,bytesOf_length]; omega
 have ht : (bytesOf (frm s ++ r)).take (s.size + 4) = four s.size ++ bytesOf s := by
   rw [hb,List.take_append_of_le_length (by omega),List.take_of_length_le (by omega)]
 have hd : (bytesOf (frm s ++ r)).drop (s.size + 4) = four (more 0 (four s.size ++ bytesOf s)) ++ bytesOf r := by
   rw [hb,List.drop_append_of_le_length (by omega),List.drop_eq_nil_of_le (by omega)]; rfl
 have hby : ∀ b ∈ four s.size ++ bytesOf s,b < 256 := fun b h => (List.mem_append.1 h).elim (four_lt _ b) (bytesOf_lt s b)
 have he : (frm s ++ r).extract 4 (s.size + 4) = s := by
   apply bytesOf_inj
   rw [bytesOf_extract,ht,List.drop_append_of_le_length (by rw [four_length]; exact Nat.le_refl _)]
   rfl
 unfold rdf
 rw [hn,hz,if_neg (by omega),if_neg (by omega),if_neg (by omega),ht,hd,num4_four _ _ (sum_lt _ hby),if_neg (by simp),he]
theorem rdf_cut (s r t : ByteArray) (m : Nat) (hs : s.size <= 65536) (ht : t = (frm s ++ r).extract 0 m) (hm : m < s.size + 8) : rdf t = (⟨#[]⟩,0,40) := by
 have hz : t.size <= m := by rw [ht,ByteArray.size_extract]; omega
 unfold rdf
 by_cases h4 : t.size < 4
 · rw [if_pos h4]
 · have hn : num4 (bytesOf t) = s.size := by
     rw [ht,bytesOf_extract,List.drop_zero,num4_take _ _ (by omega),frm_num s r hs]
   rw [if_neg h4,hn,if_neg (by omega),if_pos (by omega)]
theorem extract_append_left (s r : ByteArray) (n c : Nat) (hn : s.size = n) (hc : n <= c) : (s ++ r).extract 0 c = s ++ r.extract 0 (c - n) := by
 apply bytesOf_inj
 rw [bytesOf_extract,bytesOf_append,bytesOf_append,bytesOf_extract,List.drop_zero,List.drop_zero,List.take_append,List.take_of_length_le (by rw [bytesOf_length]; omega),bytesOf_length,hn]
theorem extract_append_right (s r : ByteArray) (n : Nat) (hn : s.size = n) : (s ++ r).extract n (s ++ r).size = r := by
 apply bytesOf_inj
 rw [bytesOf_extract,List.take_of_length_le (by rw [bytesOf_length]; exact Nat.le_refl _),bytesOf_append,List.drop_append_of_le_length (by rw [bytesOf_length]; omega),List.drop_eq_nil_of_le (by rw [bytesOf_length]; omega),List.nil_append]
theorem scn_frm (s r : ByteArray) (hs : s.size <= 65536) : scn (frm s ++ r) = (s :: (scn r).1,s.size + 8 + (scn r).2.1,(scn r).2.2) := by
 have hr := rdf_frm s r hs
 have hz : (frm s ++ r).size ≠ 0 := by rw [ByteArray.size_append,frm_size]; omega
 rw [scn_ok _ hz (by rw [hr]),hr]
 simp only
 rw [extract_append_right _ _ _ (frm_size s)]
def cat : List ByteArray -> ByteArray
 | [] => ⟨#[]⟩
 | t :: l => frm t ++ cat l
theorem append_nil (s : ByteArray) : s ++ ⟨#[]⟩ = s := by apply bytesOf_inj; rw [bytesOf_append]; simp [bytesOf]
theorem nil_append (s : ByteArray) : (⟨#[]⟩ : ByteArray) ++ s = s := by apply bytesOf_inj; rw [bytesOf_append]; simp [bytesOf]
theorem append_assoc (s t u : ByteArray) : s ++ t ++ u = s ++ (t ++ u) := by apply bytesOf_inj; simp only [bytesOf_append,List.append_assoc]
theorem cat_snoc : ∀ (l : List ByteArray) (t : ByteArray),cat (l ++ [t]) = cat l ++ frm t
 | [],t => by show frm t ++ ⟨#[]⟩ = ⟨#[]⟩ ++ frm t; rw [append_nil,nil_append]
 | u :: l,t => by
   show frm u ++ cat (l ++ [t]) = frm u ++ cat l ++ frm t
   rw [cat_snoc l t,append_assoc]
def ends (l : List ByteArray) (k : Nat) : Nat := (cat (l.take k)).size
theorem ends_zero (l : List ByteArray) : ends l 0 = 0 := rfl
theorem ends_cons (t : ByteArray) (l : List ByteArray) (k : Nat) : ends (t :: l) (k + 1) = t.size + 8 + ends l k := by
 unfold ends
 show (frm t ++ cat (l.take k)).size = _
 rw [ByteArray.size_append,frm_size]
theorem ends_le : ∀ (l : List ByteArray) (k : Nat),ends l k <= (cat l).size
 | [],k => by unfold ends; rw [List.take_nil]; exact Nat.le_refl _
 | t :: l,0 => Nat.zero_le _
 | t :: l,k + 1 => by
   rw [ends_cons]
   show _ <= (frm t ++ cat l).size
   rw [ByteArray.size_append,frm_size]
   have := ends_le l k
   omega
theorem ends_mono (l : List ByteArray) (k : Nat) : k < l.length -> ends l k + 8 <= ends l (k + 1) := by
 induction l generalizing k with
 | nil => intro h; exact absurd h (by simp)
 | cons t l ih =>
   intro h
   cases k with
   | zero => rw [ends_zero,ends_cons]; omega
   | succ k =>
     rw [ends_cons,ends_cons]
     have := ih k (by simpa using h)
     omega
theorem scn_cut : ∀ (l : List ByteArray) (c k : Nat),(∀ t ∈ l,t.size <= 65536) -> k <= l.length -> ends l k <= c -> c <= (cat l).size -> (k < l.length -> c < ends l (k + 1)) ->
   scn ((cat l).extract 0 c) = (l.take k,ends l k,if ends l k = c then 0 else 40)
 | [],c,k,_,hk,_,hc,_ => by
   have h0 : k = 0 := by simpa using hk
   have hc0 : c = 0 := by
     have : (cat []).size = 0 := rfl
     omega
   subst h0; subst hc0
   rw [scn_nil _ (by rw [ByteArray.size_extract]; omega),ends_zero]
   rfl
 | t :: l,c,k,ht,hk,hkc,hc,hlt => by
   have hts := ht t (by simp)
   cases k with
   | zero =>
     have h1 := hlt (by simp)
     rw [ends_cons,ends_zero,Nat.add_zero] at h1
     rw [ends_zero]
     by_cases h0 : c = 0
     · subst h0
       rw [scn_nil _ (by rw [ByteArray.size_extract]; omega)]
       rfl
     · have hr := rdf_cut t (cat l) _ c hts rfl h1
       have hz : ((frm t ++ cat l).extract 0 c).size ≠ 0 := by
         have hs2 : (cat (t :: l)).size = (frm t ++ cat l).size := rfl
         rw [ByteArray.size_extract]; omega
       show scn ((frm t ++ cat l).extract 0 c) = _
       rw [scn_err _ hz (by rw [hr]; decide),hr,if_neg (fun e => h0 e.symm)]
       rfl
   | succ k =>
     rw [ends_cons] at hkc
     have hcs : (cat (t :: l)).size = t.size + 8 + (cat l).size := by
       show (frm t ++ cat l).size = _
       rw [ByteArray.size_append,frm_size]
     have ih := scn_cut l (c - (t.size + 8)) k (fun u hu => ht u (List.mem_cons_of_mem _ hu)) (by simpa using hk) (by omega) (by omega) (fun h => by
       have := hlt (by simpa using h)
       rw [ends_cons] at this
       omega)
     show scn ((frm t ++ cat l).extract 0 c) = _
     rw [extract_append_left _ _ _ _ (frm_size t) (by omega),scn_frm _ _ hts,ih,ends_cons,List.take_succ_cons]
     simp only
     congr 2
     by_cases e : ends l k = c - (t.size + 8)
     · rw [if_pos e,if_pos (by omega)]
     · rw [if_neg e,if_neg (by omega)]

/-! What is turned. -/
end Go.Proofs.YtchhojkhfdkhfaaGreatDoor.Frm
namespace Go.Proofs.YtchhojkhfdkhfaaGreatDoor

structure St where
 sure : List ByteArray
 loose : List (Nat × ByteArray)
 left : Int
def zblock : ByteArray := ⟨(List.replicate 256 0).toArray⟩
theorem zblock_size : zblock.size = 256 := by
 show (List.replicate 256 (0 : UInt8)).toArray.size = 256
 rw [List.size_toArray,List.length_replicate]
def noText : ByteArray := ⟨#[]⟩
def put (s : List ByteArray) (b : Nat) (d : ByteArray) : List ByteArray := s.set b d
def laid (s : List ByteArray) : List (Nat × ByteArray) -> List ByteArray
 | [] => s
 | w :: l => laid (s.set w.1 w.2) l
def torn (old new : ByteArray) (p : Int) : ByteArray := new.extract 0 (max (min p 256) 0).toNat ++ old.extract (max (min p 256) 0).toNat old.size
def crashed (s : List ByteArray) (picks : List Int) : Nat -> List (Nat × ByteArray) -> List ByteArray
 | _,[] => s
 | i,w :: l => crashed (s.set w.1 (torn (s.getD w.1 noText) w.2 (picks.getD i 0))) picks (i + 1) l
def stands (s : List ByteArray) (b : Nat) : List (Nat × ByteArray) -> ByteArray
 | [] => s.getD b noText
 | w :: l => if w.1 = b then w.2 else stands s b l
def counted (left : Int) : Int := if 0 < left then left - 1 else left
def St.new (n : Nat) : St := ⟨List.replicate n zblock,[], -1⟩
def St.has (st : St) (b : Int) : Prop := 0 <= b /\ b < (st.sure.length : Int)
def St.write (st : St) (b : Int) (d : ByteArray) : Nat × St :=
 if st.left = 0 then (50,st) else if ¬ (0 <= b /\ b < (st.sure.length : Int)) then (5,st) else if d.size ≠ 256 then (2,st)
 else (0,⟨st.sure,st.loose ++ [(b.toNat,d)],counted st.left⟩)
def St.sync (st : St) : Nat × St := if st.left = 0 then (50,st) else (0,⟨laid st.sure st.loose,[],counted st.left⟩)
def St.fuse (st : St) (n : Int) : St := ⟨st.sure,st.loose,max n (-1)⟩
def St.crash (st : St) (picks : List Int) : St := ⟨crashed st.sure picks 0 st.loose,[], -1⟩
def St.read (st : St) (b : Int) : ByteArray × Nat :=
 if st.left = 0 then (noText,50) else if ¬ (0 <= b /\ b < (st.sure.length : Int)) then (noText,5) else (stands st.sure b.toNat st.loose.reverse,0)
def joined (l : List ByteArray) : ByteArray := l.foldl (fun s t => s ++ t) noText
def St.text (st : St) : ByteArray := joined st.sure
structure St.Ok (st : St) : Prop where
 few : st.sure.length <= 4096
 some : 1 <= st.sure.length
 full : ∀ s ∈ st.sure,s.size = 256
 there : ∀ w ∈ st.loose,w.1 < st.sure.length /\ w.2.size = 256
 left : -1 <= st.left /\ st.left <= 9223372036854775807
theorem torn_size (old new : ByteArray) (p : Int) (ho : old.size = 256) (hn : new.size = 256) : (torn old new p).size = 256 := by
 unfold torn
 rw [ByteArray.size_append,ByteArray.size_extract,ByteArray.size_extract]
 omega
theorem laid_length : ∀ (l : List (Nat × ByteArray)) (s : List ByteArray),(laid s l).length = s.length
 | [],_ => rfl
 | w :: l,s => by unfold laid; rw [laid_length l,List.length_set]
theorem crashed_length (picks : List Int) : ∀ (l : List (Nat × ByteArray)) (i : Nat) (s : List ByteArray),(crashed s picks i l).length = s.length
 | [],_,_ => rfl
 | w :: l,i,s => by unfold crashed; rw [crashed_length picks l,List.length_set]
theorem full_set {s : List ByteArray} (h : ∀ t ∈ s,t.size = 256) (b : Nat) (d : ByteArray) (hd : d.size = 256) : ∀ t ∈ s.set b d,t.size = 256 := fun t ht => by
 rcases List.mem_or_eq_of_mem_set ht with h1 | h1
 · exact h t h1
 · rw [h1]; exact hd
theorem getD_size {s : List ByteArray} (h : ∀ t ∈ s,t.size = 256) (b : Nat) (hb : b < s.length) : (s.getD b noText).size = 256 := by
 rw [List.getD_eq_getElem?_getD,List.getElem?_eq_getElem hb,Option.getD_some]
 exact h _ (List.getElem_mem hb)
theorem laid_full : ∀ (l : List (Nat × ByteArray)) (s : List ByteArray),(∀ t ∈ s,t.size = 256) -> (∀ w ∈ l,w.2.size = 256) -> ∀ t ∈ laid s l,t.size = 256
 | [],_,h,_ => h
 | w :: l,s,h,hl => by
   unfold laid
   exact laid_full l _ (full_set h w.1 w.2 (hl w (by simp))) (fun x hx => hl x (List.mem_cons_of_mem _ hx))
theorem crashed_full (picks : List Int) : ∀ (l : List (Nat × ByteArray)) (i : Nat) (s : List ByteArray),(∀ t ∈ s,t.size = 256) -> (∀ w ∈ l,w.1 < s.length /\ w.2.size = 256) -> ∀ t ∈ crashed s picks i l,t.size = 256
 | [],_,_,h,_ => h
 | w :: l,i,s,h,hl => by
   unfold crashed
   have hw := hl w (by simp)
   exact crashed_full picks l (i + 1) _ (full_set h w.1 _ (torn_size _ _ _ (getD_size h w.1 hw.1) hw.2)) (fun x hx => by rw [List.length_set]; exact hl x (List.mem_cons_of_mem _ hx))
theorem counted_ok {x : Int} (h : -1 <= x /\ x <= 9223372036854775807) : -1 <= counted x /\ counted x <= 9223372036854775807 := by
 unfold counted; split <;> omega
theorem St.Ok.new {n : Nat} (h1 : 1 <= n) (h2 : n <= 4096) : (St.new n).Ok :=
 ⟨by show (List.replicate n zblock).length <= _; rw [List.length_replicate]; exact h2,by show 1 <= (List.replicate n zblock).length; rw [List.length_replicate]; exact h1,fun s hs => by rw [List.eq_of_mem_replicate hs]; exact zblock_size,fun w hw => absurd hw (by simp [St.new]),by show (-1 : Int) <= -1 /\ (-1 : Int) <= _; omega⟩
theorem St.Ok.write {st : St} (h : st.Ok) (b : Int) (d : ByteArray) : (st.write b d).2.Ok := by
 unfold St.write
 split
 · exact h
 · split
   · exact h
   · split
     · exact h
     · rename_i h1 h2 h3
       exact ⟨h.few,h.some,h.full,fun w hw => by
         rcases List.mem_append.1 hw with h4 | h4
         · exact h.there w h4
         · simp at h4; rw [h4]; exact ⟨by show b.toNat < st.sure.length; omega,by show d.size = 256; omega⟩,counted_ok h.left⟩
theorem St.Ok.sync {st : St} (h : st.Ok) : st.sync.2.Ok := by
 unfold St.sync
 split
 · exact h
 · exact ⟨by show (laid _ _).length <= _; rw [laid_length]; exact h.few,by show 1 <= (laid _ _).length; rw [laid_length]; exact h.some,laid_full _ _ h.full (fun w hw => (h.there w hw).2),fun w hw => absurd hw (by simp),counted_ok h.left⟩
theorem St.Ok.fuse {st : St} (h : st.Ok) (n : Int) (hn : n <= 9223372036854775807) : (st.fuse n).Ok :=
 ⟨h.few,h.some,h.full,h.there,by show (-1 : Int) <= max n (-1) /\ max n (-1) <= _; omega⟩
theorem St.Ok.crash {st : St} (h : st.Ok) (picks : List Int) : (st.crash picks).Ok :=
 ⟨by show (crashed _ _ _ _).length <= _; rw [crashed_length]; exact h.few,by show 1 <= (crashed _ _ _ _).length; rw [crashed_length]; exact h.some,crashed_full picks _ _ _ h.full h.there,fun w hw => absurd hw (by simp [St.crash]),by show (-1 : Int) <= -1 /\ (-1 : Int) <= _; omega⟩
end Go.Proofs.YtchhojkhfdkhfaaGreatDoor
namespace Go.Proofs.YtchhojkhfdkhfaaGreatDoor

def byteAt (s : ByteArray) (j : Nat) : Option UInt8 := s.data[j]?
theorem byteAt_append_left {s t : ByteArray} {j : Nat} (h : j < s.size) : byteAt (s ++ t) j = byteAt s j := by
 unfold byteAt
 rw [ByteArray.data_append,Array.getElem?_append_left h]
theorem byteAt_append_right {s t : ByteArray} {j : Nat} (h : s.size <= j) : byteAt (s ++ t) j = byteAt t (j - s.size) := by
 unfold byteAt
 rw [ByteArray.data_append,Array.getElem?_append_right h]
 rfl
theorem byteAt_extract {s : ByteArray} {a b j : Nat} (hb : b <= s.size) (h : a + j < b) : byteAt (s.extract a b) j = byteAt s (a + j) := by
 unfold byteAt
 rw [ByteArray.data_extract,Array.getElem?_extract,if_pos (by have : s.data.size = s.size := rfl; omega)]
theorem getD_set_same (s : List ByteArray) (b : Nat) (d : ByteArray) (h : b < s.length) : (s.set b d).getD b noText = d := by
 rw [List.getD_eq_getElem?_getD,List.getElem?_set_self h,Option.getD_some]
theorem getD_set_other (s : List ByteArray) (b m : Nat) (d : ByteArray) (h : b ≠ m) : (s.set b d).getD m noText = s.getD m noText := by
 rw [List.getD_eq_getElem?_getD,List.getElem?_set_ne h, <- List.getD_eq_getElem?_getD]
theorem joined_byte : ∀ (l : List ByteArray) (s : ByteArray) (k : Nat),(∀ t ∈ l,t.size = 256) -> k < 256 * l.length -> byteAt (l.foldl (fun s t => s ++ t) s) (s.size + k) = byteAt (l.getD (k / 256) noText) (k % 256)
 | [],_,k,_,hk => absurd hk (by simp)
 | t :: l,s,k,h,hk => by
   rw [List.foldl_cons]
   have ht := h t (by simp)
   by_cases h1 : k < 256
   · rw [Nat.div_eq_of_lt h1,Nat.mod_eq_of_lt h1]
     have : ∀ (l : List ByteArray) (u : ByteArray) (i : Nat),i < u.size -> byteAt (l.foldl (fun s t => s ++ t) u) i = byteAt u i := by
       intro l
       induction l with
       | nil => intro u i _; rfl
       | cons t l ih => intro u i hi; rw [List.foldl_cons,ih _ _ (by rw [ByteArray.size_append]; omega),byteAt_append_left hi]
     rw [this l (s ++ t) (s.size + k) (by rw [ByteArray.size_append]; omega),byteAt_append_right (by omega)]
     show _ = byteAt t k
     congr 1
     omega
   · have ih := joined_byte l (s ++ t) (k - 256) (fun u hu => h u (List.mem_cons_of_mem _ hu)) (by rw [List.length_cons] at hk; omega)
     rw [ByteArray.size_append,ht,show s.size + 256 + (k - 256) = s.size + k from by omega] at ih
     rw [ih,show k / 256 = (k - 256) / 256 + 1 from by omega,show k % 256 = (k - 256) % 256 from by omega]
     rfl
theorem joined_at (l : List ByteArray) (k : Nat) (h : ∀ t ∈ l,t.size = 256) (hk : k < 256 * l.length) : byteAt (joined l) k = byteAt (l.getD (k / 256) noText) (k % 256) := by
 have := joined_byte l noText k h hk
 rw [show noText.size + k = k from by show 0 + k = k; omega] at this
 exact this
end Go.Proofs.YtchhojkhfdkhfaaGreatDoor
namespace Go.Proofs.YtchhojkhfdkhfaaGreatDoor
open Frm

def cnt (k m : Nat) : Nat := min 255 (m - k * 255)
def zs (n : Nat) : ByteArray := ⟨(List.replicate n 0).toArray⟩
theorem zs_size (n : Nat) : (zs n).size = n := by
 show (List.replicate n (0 : UInt8)).toArray.size = n
 rw [List.size_toArray,List.length_replicate]
def oneB (c : Nat) : ByteArray := ⟨#[UInt8.ofNat c]⟩
theorem oneB_size (c : Nat) : (oneB c).size = 1 := rfl
def blkOf (s : ByteArray) (k : Nat) : ByteArray := s.extract (k * 255) (k * 255 + 255) ++ zs (255 - cnt k s.size) ++ oneB (cnt k s.size)
theorem cut_size (s : ByteArray) (k : Nat) : (s.extract (k * 255) (k * 255 + 255)).size = cnt k s.size := by
 rw [ByteArray.size_extract]
 unfold cnt
 omega
theorem cnt_le (k m : Nat) : cnt k m <= 255 := by unfold cnt; omega
theorem blkOf_size (s : ByteArray) (k : Nat) : (blkOf s k).size = 256 := by
 unfold blkOf
 rw [ByteArray.size_append,ByteArray.size_append,cut_size,zs_size,oneB_size]
 have := cnt_le k s.size
 omega
theorem byteAt_zs (n j : Nat) (h : j < n) : byteAt (zs n) j = some 0 := by
 unfold byteAt zs
 rw [List.getElem?_toArray,List.getElem?_replicate,if_pos h]
theorem blkOf_data (s : ByteArray) (k j : Nat) (h : j < cnt k s.size) : byteAt (blkOf s k) j = byteAt s (k * 255 + j) := by
 unfold blkOf
 have h1 := cut_size s k
 have h2 : cnt k s.size <= s.size - k * 255 := by unfold cnt; omega
 rw [byteAt_append_left (by rw [ByteArray.size_append,h1,zs_size]; omega),byteAt_append_left (by rw [h1]; exact h)]
 unfold byteAt
 rw [ByteArray.data_extract,Array.getElem?_extract,if_pos (by have : s.data.size = s.size := rfl; have := cnt_le k s.size; omega)]
theorem blkOf_rest (s : ByteArray) (k j : Nat) (h : cnt k s.size <= j) (hj : j < 255) : byteAt (blkOf s k) j = some 0 := by
 unfold blkOf
 have h1 := cut_size s k
 have := cnt_le k s.size
 rw [byteAt_append_left (by rw [ByteArray.size_append,h1,zs_size]; omega),byteAt_append_right (by rw [h1]; exact h),h1,byteAt_zs _ _ (by omega)]
theorem blkOf_last (s : ByteArray) (k : Nat) : byteAt (blkOf s k) 255 = some (UInt8.ofNat (cnt k s.size)) := by
 unfold blkOf
 have h1 := cut_size s k
 have := cnt_le k s.size
 rw [byteAt_append_right (by rw [ByteArray.size_append,h1,zs_size]; omega),ByteArray.size_append,h1,zs_size,show 255 - (cnt k s.size + (255 - cnt k s.size)) = 0 from by omega]
 rfl
def countOf (b : ByteArray) : Nat := ((byteAt b 255).getD 0).toNat
theorem countOf_le (b : ByteArray) : countOf b <= 255 := by
 unfold countOf
 have := ((byteAt b 255).getD 0).toNat_lt
 omega
theorem countOf_blk (s : ByteArray) (k : Nat) : countOf (blkOf s k) = cnt k s.size := by
 unfold countOf
 rw [blkOf_last,Option.getD_some,UInt8.toNat_ofNat',Nat.mod_eq_of_lt (by have := cnt_le k s.size; omega)]
def streamOf : List ByteArray -> ByteArray
 | [] => noText
 | b :: l => if countOf b < 255 then b.extract 0 (countOf b) else b.extract 0 (countOf b) ++ streamOf l
structure Good (S : ByteArray) (k m : Nat) (c : ByteArray) : Prop where
 size : c.size = 256
 count : countOf c = cnt k m
 data : ∀ j,j < cnt k m -> byteAt c j = byteAt S (k * 255 + j)
theorem byteAt_pre (S : ByteArray) (m i : Nat) (hm : m <= S.size) (hi : i < m) : byteAt (S.extract 0 m) i = byteAt S i := by
 have := byteAt_extract (s := S) (a := 0) (b := m) (j := i) hm (by omega)
 rw [Nat.zero_add] at this
 exact this
theorem pre_size (S : ByteArray) (m : Nat) (hm : m <= S.size) : (S.extract 0 m).size = m := by rw [ByteArray.size_extract]; omega
theorem Good.pre (S : ByteArray) (k m : Nat) (hm : m <= S.size) : Good S k m (blkOf (S.extract 0 m) k) := by
 have hs := pre_size S m hm
 refine ⟨blkOf_size _ _,by rw [countOf_blk,hs],fun j hj => ?_⟩
 rw [blkOf_data _ _ _ (by rw [hs]; exact hj),byteAt_pre S m _ hm (by unfold cnt at hj; omega)]
theorem Good.torn {S : ByteArray} {k m m' : Nat} {c : ByteArray} (h : Good S k m c) (hm : m <= m') (hm' : m' <= S.size) (p : Int) : Good S k m (torn c (blkOf (S.extract 0 m') k) p) \/ Good S k m' (torn c (blkOf (S.extract 0 m') k) p) := by
 have hg := Good.pre S k m' hm'
 generalize blkOf (S.extract 0 m') k = d at *
 by_cases hp : 256 <= p
 · right
   have e : YtchhojkhfdkhfaaGreatDoor.torn c d p = d := by
     unfold YtchhojkhfdkhfaaGreatDoor.torn
     rw [show max (min p 256) 0 = 256 from by omega,h.size]
     show d.extract 0 256 ++ c.extract 256 256 = d
     apply ByteArray.ext
     have h2 : d.data.size = 256 := hg.size
     rw [ByteArray.data_append,ByteArray.data_extract,ByteArray.data_extract, <- h2,Array.extract_size,Array.extract_empty_of_stop_le_start (Nat.le_refl _),Array.append_empty]
   rw [e]
   exact hg
 · left
   obtain ⟨q,hq⟩ : ∃ q : Nat,max (min p 256) 0 = (q : Int) := ⟨(max (min p 256) 0).toNat,by omega⟩
   have hq2 : q <= 255 := by omega
   have hs : (YtchhojkhfdkhfaaGreatDoor.torn c d p).size = 256 := torn_size _ _ _ h.size hg.size
   have hb : ∀ j,j < 256 -> byteAt (YtchhojkhfdkhfaaGreatDoor.torn c d p) j = if j < q then byteAt d j else byteAt c j := fun j hj => by
     unfold YtchhojkhfdkhfaaGreatDoor.torn
     rw [hq,Int.toNat_natCast,h.size]
     have hsz : (d.extract 0 q).size = q := by rw [ByteArray.size_extract,hg.size]; omega
     by_cases e : j < q
     · rw [if_pos e,byteAt_append_left (by omega),byteAt_extract (by rw [hg.size]; omega) (by omega),Nat.zero_add]
     · rw [if_neg e,byteAt_append_right (by omega),hsz,byteAt_extract (by rw [h.size]; omega) (by omega)]
       congr 1
       omega
   refine ⟨hs,?_,fun j hj => ?_⟩
   · unfold countOf
     rw [hb 255 (by decide),if_neg (by omega)]
     exact h.count
   · have hc := cnt_le k m
     rw [hb j (by omega)]
     split
     · exact hg.data j (by unfold cnt at *; omega)
     · exact h.data j hj
theorem bytes_ext {s t : ByteArray} (hs : s.size = t.size) (h : ∀ j,j < s.size -> byteAt s j = byteAt t j) : s = t := by
 apply ByteArray.ext
 apply Array.ext_getElem?
 intro j
 by_cases hj : j < s.size
 · exact h j hj
 · rw [Array.getElem?_eq_none (by have : s.data.size = s.size := rfl; omega),Array.getElem?_eq_none (by have : t.data.size = t.size := rfl; omega)]
theorem part_size (S : ByteArray) (a b : Nat) (hb : b <= S.size) : (S.extract a b).size = b - a := by rw [ByteArray.size_extract]; omega
theorem byteAt_part (S : ByteArray) (a b j : Nat) (hb : b <= S.size) (hj : a + j < b) : byteAt (S.extract a b) j = byteAt S (a + j) := byteAt_extract hb hj
theorem part_join (S : ByteArray) (a b c : Nat) (hab : a <= b) (hbc : b <= c) (hc : c <= S.size) : S.extract a b ++ S.extract b c = S.extract a c := by
 refine bytes_ext (by rw [ByteArray.size_append,part_size _ _ _ (by omega),part_size _ _ _ hc,part_size _ _ _ hc]; omega) (fun j hj => ?_)
 rw [ByteArray.size_append,part_size _ _ _ (by omega),part_size _ _ _ hc] at hj
 rw [byteAt_part S a c j hc (by omega)]
 by_cases h : j < b - a
 · rw [byteAt_append_left (by rw [part_size _ _ _ (by omega)]; exact h),byteAt_part S a b j (by omega) (by omega)]
 · rw [byteAt_append_right (by rw [part_size _ _ _ (by omega)]; omega),part_size _ _ _ (by omega),byteAt_part S b c _ hc (by omega)]
   congr 1
   omega
set_option maxRecDepth 4000 in
theorem cnt_in {S k m : Nat} (hk : k * 255 <= S) (hm : m <= S) : k * 255 + cnt k m <= S := by
 unfold cnt
 omega
theorem Good.head {S : ByteArray} {k m : Nat} {c : ByteArray} (h : Good S k m c) (hk : k * 255 <= S.size) (hm : m <= S.size) : c.extract 0 (countOf c) = S.extract (k * 255) (k * 255 + cnt k m) := by
 have h1 : k * 255 + cnt k m <= S.size := cnt_in hk hm
 have h2 := cnt_le k m
 have h3 : cnt k m <= c.size := by rw [h.size]; omega
 have h4 := h.data
 rw [h.count]
 generalize cnt k m = q at *
 have e1 := part_size c 0 q h3
 have e2 := part_size S (k * 255) (k * 255 + q) h1
 refine bytes_ext (by omega) (fun j hj => ?_)
 rw [byteAt_part c 0 q j h3 (by omega),byteAt_part S (k * 255) (k * 255 + q) j h1 (by omega),Nat.zero_add,h4 j (by omega)]
set_option maxRecDepth 4000 in
theorem stream_good (S : ByteArray) (m0 : Nat) : ∀ (l : List ByteArray) (k0 : Nat),(∀ i (hi : i < l.length), ∃ m,m0 <= m /\ m <= S.size /\ Good S (k0 + i) m l[i]) -> k0 * 255 <= S.size ->
   ∃ ms,k0 * 255 <= ms /\ ms <= S.size /\ ms <= (k0 + l.length) * 255 /\ streamOf l = S.extract (k0 * 255) ms /\ (m0 <= ms \/ ms = (k0 + l.length) * 255) /\ ∀ i (hi : i < l.length),cnt (k0 + i) ms <= countOf l[i]
 | [],k0,_,hk => ⟨k0 * 255,Nat.le_refl _,hk,by simp,by
     unfold streamOf
     exact bytes_ext (by rw [part_size _ _ _ hk]; show 0 = _; omega) (fun j hj => absurd hj (by show ¬ j < 0; omega)),Or.inr (by simp),fun i hi => absurd hi (by simp)⟩
 | b :: l,k0,h,hk => by
   obtain ⟨m,h1,h2,hg⟩ := h 0 (by simp)
   rw [Nat.add_zero] at hg
   have hb : (b :: l)[0] = b := rfl
   rw [hb] at hg
   have hh := hg.head hk h2
   have hc := hg.count
   by_cases hlt : countOf b < 255
   · refine ⟨k0 * 255 + cnt k0 m,by omega,by unfold cnt; omega,?_,?_,?_,fun i hi => ?_⟩
     · rw [List.length_cons]; have := cnt_le k0 m; omega
     · unfold streamOf; rw [if_pos hlt]; exact hh
     · left; rw [hc] at hlt; unfold cnt at *; omega
     · cases i with
       | zero => show cnt (k0 + 0) _ <= countOf b; rw [hc]; unfold cnt; omega
       | succ i => rw [hc] at hlt; unfold cnt at *; omega
   · have hcm : cnt k0 m = 255 := by have := cnt_le k0 m; omega
     have hk1 : (k0 + 1) * 255 <= S.size := by unfold cnt at hcm; omega
     obtain ⟨ms,g1,g2,g3,g4,g5,g6⟩ := stream_good S m0 l (k0 + 1) (fun i hi => by
       obtain ⟨m',q1,q2,q3⟩ := h (i + 1) (by simpa using hi)
       refine ⟨m',q1,q2,?_⟩
       rw [show k0 + 1 + i = k0 + (i + 1) from by omega]
       exact q3) hk1
     refine ⟨ms,by omega,g2,by rw [List.length_cons]; omega,?_,by rw [List.length_cons]; omega,fun i hi => ?_⟩
     · unfold streamOf
       rw [if_neg hlt,hh,g4,hcm,show (k0 + 1) * 255 = k0 * 255 + 255 from by omega,part_join S _ _ _ (by omega) (by omega) g2]
     · cases i with
       | zero => show cnt (k0 + 0) ms <= countOf b; rw [hc,hcm]; exact cnt_le _ _
       | succ i =>
         have := g6 i (by simpa using hi)
         rw [show k0 + (i + 1) = k0 + 1 + i from by omega]
         exact this

def lowAt (x i : Nat) : UInt8 := UInt8.ofNat (x / 256 ^ i % 256)
theorem lowAt_toNat (x i : Nat) : (lowAt x i).toNat = x / 256 ^ i % 256 := by
 unfold lowAt
 rw [UInt8.toNat_ofNat',Nat.mod_eq_of_lt (by omega)]
def lowL (x n : Nat) : List UInt8 := (List.range n).map (lowAt x)
theorem lowL_length (x n : Nat) : (lowL x n).length = n := by unfold lowL; simp
theorem lowL_succ (x n : Nat) : lowL x (n + 1) = lowL x n ++ [lowAt x n] := by unfold lowL; rw [List.range_succ,List.map_append]; rfl
def numL : List UInt8 -> Nat
 | [] => 0
 | a :: l => a.toNat + 256 * numL l
theorem numL_snoc : ∀ (l : List UInt8) (a : UInt8),numL (l ++ [a]) = numL l + a.toNat * 256 ^ l.length
 | [],a => by simp [numL]
 | b :: l,a => by
   rw [List.cons_append]
   unfold numL
   rw [numL_snoc l a,List.length_cons,Nat.pow_succ,Nat.mul_add,Nat.mul_left_comm,Nat.mul_comm (256 ^ l.length) 256]
   omega
theorem numL_lt : ∀ (l : List UInt8),numL l < 256 ^ l.length
 | [] => by simp [numL]
 | a :: l => by
   have h := numL_lt l
   have ha := a.toNat_lt
   unfold numL
   rw [List.length_cons,Nat.pow_succ]
   omega
theorem numL_low : ∀ (n x : Nat),numL (lowL x n) = x % 256 ^ n
 | 0,x => by show numL [] = _; rw [Nat.pow_zero,Nat.mod_one]; rfl
 | n + 1,x => by
   rw [lowL_succ,numL_snoc,numL_low n x,lowL_length,lowAt_toNat,Nat.pow_succ,Nat.mod_mul]
   rw [Nat.mul_comm]
theorem numL_zeroed : ∀ (l : List UInt8) (c : Nat),numL (List.replicate (min c l.length) 0 ++ l.drop c) <= numL l
 | [],c => by simp
 | a :: l,0 => by simp
 | a :: l,c + 1 => by
   have h := numL_zeroed l c
   rw [List.length_cons,show min (c + 1) (l.length + 1) = min c l.length + 1 from by omega,List.replicate_succ,List.cons_append,List.drop_succ_cons]
   unfold numL
   have : (0 : UInt8).toNat = 0 := rfl
   omega
def sumT (t : ByteArray) : Nat := more 0 (bytesOf t)
theorem sumT_lt (t : ByteArray) : sumT t < 4294967296 := more_lt (by omega) t
def headL (g : Nat) (t : ByteArray) : List UInt8 := lowL g 8 ++ lowL t.size 4 ++ lowL (sumT t) 4 ++ List.replicate 239 0 ++ [165]
def headT (g : Nat) (t : ByteArray) : ByteArray := ⟨(headL g t).toArray⟩
theorem headL_length (g : Nat) (t : ByteArray) : (headL g t).length = 256 := by
 unfold headL
 rw [List.length_append,List.length_append,List.length_append,List.length_append,lowL_length,lowL_length,lowL_length,List.length_replicate]
 rfl
theorem headT_size (g : Nat) (t : ByteArray) : (headT g t).size = 256 := by
 show (headL g t).toArray.size = 256
 rw [List.size_toArray,headL_length]
def nb (n : Nat) : Nat := (n + 255) / 256
def blkT (t : ByteArray) (k : Nat) : ByteArray := t.extract (k * 256) (k * 256 + 256) ++ zs (256 - min 256 (t.size - k * 256))
theorem cutT_size (t : ByteArray) (k : Nat) : (t.extract (k * 256) (k * 256 + 256)).size = min 256 (t.size - k * 256) := by
 rw [ByteArray.size_extract]; omega
theorem blkT_size (t : ByteArray) (k : Nat) : (blkT t k).size = 256 := by
 unfold blkT
 rw [ByteArray.size_append,cutT_size,zs_size]
 omega
theorem blkT_data (t : ByteArray) (k j : Nat) (hj : j < 256) (h : k * 256 + j < t.size) : byteAt (blkT t k) j = byteAt t (k * 256 + j) := by
 unfold blkT
 rw [byteAt_append_left (by rw [cutT_size]; omega)]
 unfold byteAt
 rw [ByteArray.data_extract,Array.getElem?_extract,if_pos (by have : t.data.size = t.size := rfl; omega)]
theorem blkT_rest (t : ByteArray) (k j : Nat) (hj : j < 256) (h : t.size <= k * 256 + j) : byteAt (blkT t k) j = some 0 := by
 unfold blkT
 rw [byteAt_append_right (by rw [cutT_size]; omega),cutT_size]
 exact byteAt_zs _ _ (by omega)
def room (n : Int) : Int := if n < 4 \/ 4096 < n \/ n % 2 ≠ 0 then 0 else (n / 2 - 1) * 256
theorem room_pos {n : Int} (h : room n ≠ 0) : 4 <= n /\ n <= 4096 /\ n % 2 = 0 /\ room n = (n / 2 - 1) * 256 := by
 unfold room at *
 split at h
 · exact absurd rfl h
 · rename_i h1
   rw [if_neg h1]
   omega
abbrev St.mayC (st : St) (o n : Int) : Prop := room n ≠ 0 /\ 0 <= o /\ o <= (st.sure.length : Int) - n
def andT (r : Nat × St) (f : St -> Nat × St) : Nat × St := if r.1 = 0 then f r.2 else r
def putsT (o : Nat) (t : ByteArray) : Nat -> Nat -> St -> Nat × St
 | 0,_,st => (0,st)
 | n + 1,i,st => andT (st.write ((o + i : Nat) : Int) (blkT t i)) (putsT o t n (i + 1))
def saveAt (a : Nat) (g : Nat) (t : ByteArray) (st : St) : Nat × St :=
 andT (andT (andT (andT (andT (st.write (a : Int) zblock) St.sync) (putsT (a + 1) t (nb t.size) 0)) St.sync) (fun s => s.write (a : Int) (headT g t))) St.sync
def slotAt (o n : Int) (g : Nat) : Nat := o.toNat + g % 2 * (n.toNat / 2)
def St.save (st : St) (o n : Int) (g : Nat) (t : ByteArray) : Nat × St :=
 if ¬ st.mayC o n then (2,st) else if g < 1 \/ 4611686018427387904 < g then (2,st) else if room n < (t.size : Int) then (4,st) else saveAt (slotAt o n g) g t st
def wholeT (l : List ByteArray) (odd : Nat) : Nat × ByteArray :=
 let h := l.getD 0 noText
 let g := numL (h.data.toList.take 8)
 let n := numL ((h.data.toList.drop 8).take 4)
 if g < 1 \/ 4611686018427387904 < g \/ g % 2 ≠ odd \/ (l.length - 1) * 256 < n then (0,noText)
 else
   let b := joined ((l.drop 1).take (nb n))
   if h = headT g (b.extract 0 n) /\ b.extract n b.size = zs (b.size - n) then (g,b.extract 0 n) else (0,noText)
def blocksAt (st : St) (a k : Nat) : List ByteArray := (List.range k).map fun i => stands st.sure (a + i) st.loose.reverse
def St.load (st : St) (o n : Int) : (Nat × ByteArray) × Nat :=
 if ¬ st.mayC o n then ((0,noText),2) else if st.left = 0 then ((0,noText),50)
 else
   let a := wholeT (blocksAt st (slotAt o n 0) (n.toNat / 2)) 0
   let b := wholeT (blocksAt st (slotAt o n 1) (n.toNat / 2)) 1
   if a.1 = 0 /\ b.1 = 0 then ((0,noText),5) else if b.1 < a.1 then (a,0) else (b,0)
theorem list_take8 (g : Nat) (t : ByteArray) : (headT g t).data.toList.take 8 = lowL g 8 := by
 show (headL g t).take 8 = _
 unfold headL
 simp only [List.append_assoc]
 rw [List.take_append_of_le_length (by rw [lowL_length]; omega),List.take_of_length_le (by rw [lowL_length]; omega)]
theorem list_take4 (g : Nat) (t : ByteArray) : ((headT g t).data.toList.drop 8).take 4 = lowL t.size 4 := by
 show ((headL g t).drop 8).take 4 = _
 unfold headL
 simp only [List.append_assoc]
 rw [List.drop_append,List.drop_of_length_le (by rw [lowL_length]; omega),lowL_length,List.nil_append,Nat.sub_self,List.drop_zero,List.take_append_of_le_length (by rw [lowL_length]; omega),List.take_of_length_le (by rw [lowL_length]; omega)]
set_option maxRecDepth 10000 in
theorem head_last (g : Nat) (t : ByteArray) : byteAt (headT g t) 255 = some 165 := by
 show (headL g t).toArray[255]? = _
 rw [List.getElem?_toArray]
 unfold headL
 rw [List.getElem?_append_right (by simp [lowL_length])]
 simp [lowL_length]
def Oth (H : ByteArray) (g : Nat) : Prop := byteAt H 255 ≠ some 165 \/ numL (H.data.toList.take 8) < g
theorem joined_text (t : ByteArray) (l : List ByteArray) (h : ∀ x ∈ l,x.size = 256) (hl : l.length = nb t.size) (hb : ∀ i,i < nb t.size -> l.getD i noText = blkT t i) :
   (joined l).extract 0 t.size = t /\ (joined l).extract t.size (joined l).size = zs ((joined l).size - t.size) := by
 have hs : (joined l).size = 256 * l.length := by
   have e : ∀ (l : List ByteArray) (s : ByteArray),(∀ x ∈ l,x.size = 256) -> (l.foldl (fun s t => s ++ t) s).size = s.size + 256 * l.length := by
     intro l
     induction l with
     | nil => intro s _; simp
     | cons a l ih => intro s h; rw [List.foldl_cons,ih _ (fun x hx => h x (List.mem_cons_of_mem _ hx)),ByteArray.size_append,h a (by simp),List.length_cons]; omega
   unfold joined
   rw [e l noText h]
   show 0 + _ = _
   omega
 have hn : t.size <= 256 * l.length := by rw [hl]; unfold nb; omega
 have hat : ∀ k,k < 256 * l.length -> byteAt (joined l) k = byteAt (blkT t (k / 256)) (k % 256) := fun k hk => by
   rw [joined_at l k h hk,hb (k / 256) (by rw [<- hl]; omega)]
 constructor
 · refine bytes_ext (by rw [ByteArray.size_extract]; omega) (fun j hj => ?_)
   rw [ByteArray.size_extract] at hj
   rw [byteAt_extract (by omega) (by omega),Nat.zero_add,hat j (by omega),blkT_data t (j / 256) (j % 256) (Nat.mod_lt _ (by decide)) (by omega)]
   congr 1
   omega
 · refine bytes_ext (by rw [ByteArray.size_extract,zs_size]; omega) (fun j hj => ?_)
   rw [ByteArray.size_extract] at hj
   rw [byteAt_extract (by omega) (by omega),hat (t.size + j) (by omega),blkT_rest t ((t.size + j) / 256) ((t.size + j) % 256) (Nat.mod_lt _ (by decide)) (by omega),byteAt_zs _ _ (by omega)]
theorem whole_yes (l : List ByteArray) (odd g : Nat) (t : ByteArray) (hf : ∀ x ∈ l,x.size = 256) (hg : 1 <= g /\ g <= 4611686018427387904) (ho : g % 2 = odd) (hs : t.size <= (l.length - 1) * 256) (hL : l.length <= 4096)
   (hh : l.getD 0 noText = headT g t) (hb : ∀ i,i < nb t.size -> l.getD (1 + i) noText = blkT t i) : wholeT l odd = (g,t) := by
 have e8 : numL ((headT g t).data.toList.take 8) = g := by rw [list_take8,numL_low]; exact Nat.mod_eq_of_lt (by omega)
 have e4 : numL (((headT g t).data.toList.drop 8).take 4) = t.size := by rw [list_take4,numL_low]; exact Nat.mod_eq_of_lt (by omega)
 have hn : nb t.size <= l.length - 1 := by unfold nb; omega
 have hj := joined_text t ((l.drop 1).take (nb t.size)) (fun x hx => hf x (List.mem_of_mem_drop (List.mem_of_mem_take hx))) (by rw [List.length_take,List.length_drop]; omega) (fun i hi => by
   rw [List.getD_eq_getElem?_getD,List.getElem?_take_of_lt hi,List.getElem?_drop, <- List.getD_eq_getElem?_getD]
   exact hb i hi)
 unfold wholeT
 simp only
 rw [hh,e8,e4,if_neg (by omega),hj.1,if_pos ⟨rfl,hj.2⟩]
theorem whole_less (l : List ByteArray) (odd g : Nat) (hg : 1 <= g) (h : Oth (l.getD 0 noText) g) : (wholeT l odd).1 < g := by
 unfold wholeT
 simp only
 split
 · exact hg
 · split
   · rename_i h1 h2
     rcases h with h3 | h3
     · exact absurd (by rw [h2.1]; exact head_last _ _) h3
     · exact h3
   · exact hg
def Lft (m : Nat) (l l' : Int) : Prop := (l = -1 /\ l' = -1) \/ ((m : Int) <= l /\ l' = l - m)
theorem Lft.next {m : Nat} {l l' : Int} (h : Lft m l l') (h0 : l' ≠ 0) : Lft (m + 1) l (counted l') := by
 unfold Lft counted at *
 rcases h with ⟨h1,h2⟩ | ⟨h1,h2⟩
 · left; rw [h2]; exact ⟨h1,by simp⟩
 · right; rw [if_pos (by omega)]; omega
theorem write_cases (st : St) (b : Nat) (d : ByteArray) (hb : b < st.sure.length) (hd : d.size = 256) :
   (st.left = 0 /\ st.write (b : Int) d = (50,st)) \/ (st.left ≠ 0 /\ st.write (b : Int) d = (0,⟨st.sure,st.loose ++ [(b,d)],counted st.left⟩)) := by
 unfold St.write
 by_cases h : st.left = 0
 · exact Or.inl ⟨h,by rw [if_pos h]⟩
 · refine Or.inr ⟨h,?_⟩
   rw [if_neg h,if_neg (by omega),if_neg (by omega)]
   rfl
theorem sync_cases (st : St) : (st.left = 0 /\ st.sync = (50,st)) \/ (st.left ≠ 0 /\ st.sync = (0,⟨laid st.sure st.loose,[],counted st.left⟩)) := by
 unfold St.sync
 by_cases h : st.left = 0
 · exact Or.inl ⟨h,by rw [if_pos h]⟩
 · exact Or.inr ⟨h,by rw [if_neg h]⟩
theorem andT_no (s : St) (f : St -> Nat × St) : andT (50,s) f = (50,s) := by unfold andT; exact if_neg (show ¬ (50 : Nat) = 0 by decide)
theorem andT_yes (s : St) (f : St -> Nat × St) : andT (0,s) f = f s := by unfold andT; rw [if_pos rfl]
def tws (o : Nat) (t : ByteArray) (i j : Nat) : List (Nat × ByteArray) := (List.range' i j).map fun k => (o + k,blkT t k)
theorem puts_cases (o : Nat) (t : ByteArray) (S : List ByteArray) (l0 : Int) : ∀ (n i : Nat) (L : List (Nat × ByteArray)) (m : Nat) (l' : Int),o + i + n <= S.length -> Lft m l0 l' ->
   (∃ j,j <= n /\ ∃ l2,putsT o t n i ⟨S,L,l'⟩ = (50,⟨S,L ++ tws o t i j,l2⟩) /\ l0 = (m + j : Nat) /\ j < n) \/ ∃ l2,putsT o t n i ⟨S,L,l'⟩ = (0,⟨S,L ++ tws o t i n,l2⟩) /\ Lft (m + n) l0 l2
 | 0,i,L,m,l',_,h => Or.inr ⟨l',by show (0,_) = _; unfold tws; simp,h⟩
 | n + 1,i,L,m,l',hl,h => by
   show (∃ j,_ /\ ∃ l2,andT (St.write ⟨S,L,l'⟩ ((o + i : Nat) : Int) (blkT t i)) (putsT o t n (i + 1)) = _ /\ _) \/ ∃ l2,andT (St.write ⟨S,L,l'⟩ ((o + i : Nat) : Int) (blkT t i)) (putsT o t n (i + 1)) = _ /\ _
   rcases write_cases ⟨S,L,l'⟩ (o + i) (blkT t i) (by show o + i < S.length; omega) (blkT_size t i) with ⟨h0,e⟩ | ⟨h0,e⟩
   · rw [e,andT_no]
     refine Or.inl ⟨0,by omega,l',?_,?_,by omega⟩
     · unfold tws; simp
     · have h0' : l' = 0 := h0
       unfold Lft at h
       omega
   · rw [e,andT_yes]
     have hx : ∀ j,L ++ [(o + i,blkT t i)] ++ tws o t (i + 1) j = L ++ tws o t i (j + 1) := fun j => by
       unfold tws
       rw [List.range'_succ,List.map_cons]
       simp
     rcases puts_cases o t S l0 n (i + 1) (L ++ [(o + i,blkT t i)]) (m + 1) (counted l') (by omega) (h.next h0) with ⟨j,h1,l2,h2,h3,h4⟩ | ⟨l2,h2,h3⟩
     · exact Or.inl ⟨j + 1,by omega,l2,by rw [<- hx]; exact h2,by omega,by omega⟩
     · exact Or.inr ⟨l2,by rw [<- hx]; exact h2,by rw [show m + (n + 1) = m + 1 + n from by omega]; exact h3⟩
theorem save_cases (a g : Nat) (t : ByteArray) (S : List ByteArray) (l0 : Int) (ha : a + 1 + nb t.size <= S.length) (h1 : -1 <= l0) :
   (∃ l2,saveAt a g t ⟨S,[],l0⟩ = (50,⟨S,[],l2⟩) /\ 0 <= l0 /\ l0 <= nb t.size + 3) \/ (∃ l2,saveAt a g t ⟨S,[],l0⟩ = (50,⟨S,[(a,zblock)],l2⟩) /\ 0 <= l0 /\ l0 <= nb t.size + 3) \/
   (∃ j l2,j <= nb t.size /\ saveAt a g t ⟨S,[],l0⟩ = (50,⟨S.set a zblock,tws (a + 1) t 0 j,l2⟩) /\ 0 <= l0 /\ l0 <= nb t.size + 3) \/
   (∃ l2,saveAt a g t ⟨S,[],l0⟩ = (50,⟨laid (S.set a zblock) (tws (a + 1) t 0 (nb t.size)),[],l2⟩) /\ 0 <= l0 /\ l0 <= nb t.size + 3) \/
   (∃ l2,saveAt a g t ⟨S,[],l0⟩ = (50,⟨laid (S.set a zblock) (tws (a + 1) t 0 (nb t.size)),[(a,headT g t)],l2⟩) /\ l0 = nb t.size + 4) \/
   (∃ l2,saveAt a g t ⟨S,[],l0⟩ = (0,⟨(laid (S.set a zblock) (tws (a + 1) t 0 (nb t.size))).set a (headT g t),[],l2⟩) /\ (l0 = -1 /\ l2 = -1 \/ nb t.size + 5 <= l0)) := by
 have L0 : Lft 0 l0 l0 := by unfold Lft; omega
 unfold saveAt
 rcases write_cases ⟨S,[],l0⟩ a zblock (by show a < S.length; omega) zblock_size with ⟨h0,e⟩ | ⟨h0,e⟩
 · rw [e,andT_no,andT_no,andT_no,andT_no,andT_no]
   have h0' : l0 = 0 := h0
   exact Or.inl ⟨l0,rfl,by omega,by omega⟩
 have L1 := L0.next h0
 rw [e,andT_yes]
 rcases sync_cases ⟨S,[] ++ [(a,zblock)],counted l0⟩ with ⟨h0',e'⟩ | ⟨h0',e'⟩
 · rw [e',andT_no,andT_no,andT_no,andT_no]
   have h2 : counted l0 = 0 := h0'
   have : l0 = 1 := by unfold Lft at L1; omega
   exact Or.inr (Or.inl ⟨_,rfl,by omega,by omega⟩)
 have L2 := L1.next h0'
 rw [e',andT_yes]
 have es : laid S ([] ++ [(a,zblock)]) = S.set a zblock := rfl
 rw [es]
 rcases puts_cases (a + 1) t (S.set a zblock) l0 (nb t.size) 0 [] 2 (counted (counted l0)) (by rw [List.length_set]; omega) L2 with ⟨j,hj,l2,h2,h3,h4⟩ | ⟨l2,h2,L3⟩
 · rw [h2,andT_no,andT_no,andT_no]
   exact Or.inr (Or.inr (Or.inl ⟨j,l2,hj,by rw [List.nil_append],by omega,by omega⟩))
 rw [h2,andT_yes,List.nil_append]
 rcases sync_cases ⟨S.set a zblock,tws (a + 1) t 0 (nb t.size),l2⟩ with ⟨h5,e5⟩ | ⟨h5,e5⟩
 · rw [e5,andT_no,andT_no]
   have h6 : l2 = 0 := h5
   refine Or.inr (Or.inr (Or.inl ⟨nb t.size,l2,Nat.le_refl _,rfl,?_,?_⟩)) <;> (unfold Lft at L3; omega)
 have L4 := L3.next h5
 rw [e5,andT_yes]
 have hlen : ∀ (l : List (Nat × ByteArray)) (s : List ByteArray),(laid s l).length = s.length := laid_length
 rcases write_cases ⟨laid (S.set a zblock) (tws (a + 1) t 0 (nb t.size)),[],counted l2⟩ a (headT g t) (by show a < (laid _ _).length; rw [hlen,List.length_set]; omega) (headT_size g t) with ⟨h6,e6⟩ | ⟨h6,e6⟩
 · rw [e6,andT_no]
   have h7 : counted l2 = 0 := h6
   refine Or.inr (Or.inr (Or.inr (Or.inl ⟨_,rfl,?_,?_⟩))) <;> (unfold Lft at L4; omega)
 have L5 := L4.next h6
 rw [e6,andT_yes]
 rcases sync_cases ⟨laid (S.set a zblock) (tws (a + 1) t 0 (nb t.size)),[] ++ [(a,headT g t)],counted (counted l2)⟩ with ⟨h7,e7⟩ | ⟨h7,e7⟩
 · rw [e7]
   have h8 : counted (counted l2) = 0 := h7
   refine Or.inr (Or.inr (Or.inr (Or.inr (Or.inl ⟨_,rfl,?_⟩))))
   unfold Lft at L5; omega
 · rw [e7]
   have L6 := L5.next h7
   refine Or.inr (Or.inr (Or.inr (Or.inr (Or.inr ⟨counted (counted (counted l2)),rfl,?_⟩))))
   unfold Lft at L6; omega
theorem laid_other7 (b : Nat) : ∀ (l : List (Nat × ByteArray)) (s : List ByteArray),(∀ w ∈ l,w.1 ≠ b) -> (laid s l).getD b noText = s.getD b noText
 | [],_,_ => rfl
 | w :: l,s,h => by
   show (laid (s.set w.1 w.2) l).getD b noText = _
   rw [laid_other7 b l _ (fun x hx => h x (List.mem_cons_of_mem _ hx)),getD_set_other _ _ _ _ (h w (by simp))]
theorem crashed_other7 (picks : List Int) (b : Nat) : ∀ (l : List (Nat × ByteArray)) (i : Nat) (s : List ByteArray),(∀ w ∈ l,w.1 ≠ b) -> (crashed s picks i l).getD b noText = s.getD b noText
 | [],_,_,_ => rfl
 | w :: l,i,s,h => by
   show (crashed (s.set w.1 _) picks (i + 1) l).getD b noText = _
   rw [crashed_other7 picks b l _ _ (fun x hx => h x (List.mem_cons_of_mem _ hx)),getD_set_other _ _ _ _ (h w (by simp))]
theorem tws_mem {o i j : Nat} {t : ByteArray} {w : Nat × ByteArray} (h : w ∈ tws o t i j) : o + i <= w.1 /\ w.1 < o + i + j /\ w.2.size = 256 := by
 unfold tws at h
 obtain ⟨k,hk,rfl⟩ := List.mem_map.1 h
 rw [List.mem_range'_1] at hk
 exact ⟨by show o + i <= o + k; omega,by show o + k < _; omega,blkT_size t k⟩
theorem laid_tws (o : Nat) (t : ByteArray) : ∀ (n i : Nat) (S : List ByteArray),o + i + n <= S.length -> ∀ k,i <= k -> k < i + n -> (laid S (tws o t i n)).getD (o + k) noText = blkT t k
 | 0,i,S,_,k,h1,h2 => by omega
 | n + 1,i,S,hl,k,h1,h2 => by
   have e : tws o t i (n + 1) = (o + i,blkT t i) :: tws o t (i + 1) n := by unfold tws; rw [List.range'_succ,List.map_cons]
   rw [e]
   show (laid (S.set (o + i) (blkT t i)) (tws o t (i + 1) n)).getD (o + k) noText = _
   by_cases hk : k = i
   · subst hk
     rw [laid_other7 _ _ _ (fun w hw => by have := tws_mem hw; omega),getD_set_same _ _ _ (by omega)]
   · exact laid_tws o t n (i + 1) _ (by rw [List.length_set]; omega) k (by omega) (by omega)
def slN (N g : Nat) : Nat := g % 2 * (N / 2)
theorem slN_le (N g : Nat) : slN N g <= N / 2 := by
 unfold slN
 rcases (by omega : g % 2 = 0 \/ g % 2 = 1) with h | h <;> rw [h] <;> omega
structure Keep (N : Nat) (st : St) (g : Nat) (t : ByteArray) : Prop where
 ok : st.Ok
 len : st.sure.length = N
 loose : st.loose = []
 left : st.left = -1
 fit : t.size <= (N / 2 - 1) * 256
 head : st.sure.getD (slN N g) noText = headT g t
 body : ∀ i,i < nb t.size -> st.sure.getD (slN N g + 1 + i) noText = blkT t i
 oth : Oth (st.sure.getD (slN N (g + 1)) noText) g
theorem nb_fit {N : Nat} {t : ByteArray} (h : t.size <= (N / 2 - 1) * 256) (h4 : 4 <= N) : nb t.size + 1 <= N / 2 := by unfold nb; omega
theorem blocks_getD (st : St) (a k i : Nat) (hi : i < k) (hl : st.loose = []) : (blocksAt st a k).getD i noText = st.sure.getD (a + i) noText := by
 unfold blocksAt
 rw [List.getD_eq_getElem?_getD,List.getElem?_map,List.getElem?_range hi]
 show stands st.sure (a + i) st.loose.reverse = _
 rw [hl]
 rfl
theorem Keep.load {N : Nat} {st : St} {g : Nat} {t : ByteArray} (h : Keep N st g t) (h4 : 4 <= N) (hN : N <= 4096) (he : N % 2 = 0) (hg : 1 <= g /\ g <= 4611686018427387904) : st.load 0 (N : Int) = ((g,t),0) := by
 have hr : room (N : Int) ≠ 0 := by unfold room; rw [if_neg (by omega)]; omega
 have hm : st.mayC 0 (N : Int) := ⟨hr,by omega,by rw [h.len]; omega⟩
 have hlen : ∀ k,(blocksAt st k (N / 2)).length = N / 2 := fun k => by unfold blocksAt; simp
 have hfull : ∀ k,k + N / 2 <= N -> ∀ x ∈ blocksAt st k (N / 2),x.size = 256 := fun k hk x hx => by
   unfold blocksAt at hx
   obtain ⟨i,hi,rfl⟩ := List.mem_map.1 hx
   rw [List.mem_range] at hi
   rw [h.loose]
   exact getD_size h.ok.full _ (by rw [h.len]; omega)
 have hs : ∀ k,slotAt 0 (N : Int) k = slN N k := fun k => by unfold slotAt slN; simp
 have hnb := nb_fit h.fit h4
 have hsl := slN_le N g
 have hsl2 := slN_le N (g + 1)
 have W1 : wholeT (blocksAt st (slN N g) (N / 2)) (g % 2) = (g,t) := by
   refine whole_yes _ _ g t (hfull _ (by omega)) hg rfl (by rw [hlen]; exact h.fit) (by rw [hlen]; omega) ?_ (fun i hi => ?_)
   · rw [blocks_getD st _ _ 0 (by omega) h.loose]; exact h.head
   · rw [blocks_getD st _ _ (1 + i) (by omega) h.loose, <- Nat.add_assoc]; exact h.body i hi
 have W2 : (wholeT (blocksAt st (slN N (g + 1)) (N / 2)) ((g + 1) % 2)).1 < g := by
   refine whole_less _ _ g hg.1 ?_
   rw [blocks_getD st _ _ 0 (by omega) h.loose]
   exact h.oth
 unfold St.load
 rw [if_neg (fun hh => hh hm),if_neg (by rw [h.left]; decide)]
 simp only [hs,Int.toNat_natCast]
 rcases (by omega : g % 2 = 0 \/ g % 2 = 1) with hp | hp
 · have e0 : slN N 0 = slN N g := by unfold slN; rw [hp]
   have e1 : slN N 1 = slN N (g + 1) := by unfold slN; rw [show (g + 1) % 2 = 1 from by omega]
   rw [hp] at W1
   rw [show (g + 1) % 2 = 1 from by omega] at W2
   rw [e0,e1,W1,if_neg (by simp; omega),if_pos (by exact W2)]
 · have e0 : slN N 1 = slN N g := by unfold slN; rw [hp]
   have e1 : slN N 0 = slN N (g + 1) := by unfold slN; rw [show (g + 1) % 2 = 0 from by omega]
   rw [hp] at W1
   rw [show (g + 1) % 2 = 0 from by omega] at W2
   rw [e0,e1,W1,if_neg (by simp; omega),if_neg (by show ¬ g < _; omega)]
theorem zlast : byteAt zblock 255 = some 0 := by
 show (List.replicate 256 (0 : UInt8)).toArray[255]? = _
 rw [List.getElem?_toArray]
 rfl
theorem torn_last (old new : ByteArray) (p : Int) (ho : old.size = 256) (hn : new.size = 256) : (256 <= p /\ torn old new p = new) \/ byteAt (torn old new p) 255 = byteAt old 255 := by
 unfold torn
 by_cases hp : 256 <= p
 · left
   refine ⟨hp,bytes_ext ?_ (fun j hj => ?_)⟩
   · rw [ByteArray.size_append,ByteArray.size_extract,ByteArray.size_extract]; omega
   · rw [ByteArray.size_append,ByteArray.size_extract,ByteArray.size_extract] at hj
     rw [byteAt_append_left (by rw [ByteArray.size_extract]; omega),byteAt_extract (by omega) (by omega),Nat.zero_add]
 · right
   rw [byteAt_append_right (by rw [ByteArray.size_extract]; omega),ByteArray.size_extract,byteAt_extract (Nat.le_refl _) (by omega)]
   congr 1
   omega
theorem Oth.zero {g : Nat} : Oth zblock g := by
 left
 rw [zlast]
 decide
theorem torn_zero8 (H : ByteArray) (hH : H.size = 256) (p : Int) : ∃ c,(torn H zblock p).data.toList.take 8 = List.replicate (min c (H.data.toList.take 8).length) 0 ++ (H.data.toList.take 8).drop c := by
 have hl : H.data.toList.length = 256 := by rw [Array.length_toList]; exact hH
 refine ⟨(max (min p 256) 0).toNat,?_⟩
 unfold torn
 have hc : (max (min p 256) 0).toNat <= 256 := by omega
 generalize (max (min p 256) 0).toNat = c at *
 rw [ByteArray.data_append,Array.toList_append,ByteArray.data_extract,ByteArray.data_extract,Array.toList_extract,Array.toList_extract]
 simp only [List.extract_eq_take_drop,Nat.sub_zero,List.drop_zero]
 have hz : zblock.data.toList.take c = List.replicate c 0 := by
   show (List.replicate 256 (0 : UInt8)).take c = _
   rw [List.take_replicate,Nat.min_eq_left hc]
 rw [hz,List.take_of_length_le (l := H.data.toList.drop c) (by rw [List.length_drop,hl,hH]; omega),List.length_take,hl,show min 8 256 = 8 from rfl]
 by_cases h8 : 8 <= c
 · rw [List.take_append_of_le_length (by rw [List.length_replicate]; omega),List.take_replicate,List.drop_of_length_le (by rw [List.length_take,hl]; omega),List.append_nil,Nat.min_comm]
 · rw [List.take_append,List.length_replicate,List.take_of_length_le (by rw [List.length_replicate]; omega),Nat.min_eq_left (by omega),List.drop_take]
theorem Oth.torn {H : ByteArray} {g : Nat} (hH : H.size = 256) (h : Oth H g) (p : Int) : Oth (torn H zblock p) g := by
 rcases h with h | h
 · left
   rcases torn_last H zblock p hH zblock_size with ⟨_,h1⟩ | h1
   · rw [h1,zlast]; decide
   · rw [h1]; exact h
 · right
   obtain ⟨c,hc⟩ := torn_zero8 H hH p
   rw [hc]
   exact Nat.lt_of_le_of_lt (numL_zeroed _ c) h
theorem head_torn (g : Nat) (t : ByteArray) (p : Int) : torn zblock (headT g t) p = headT g t \/ ∀ k,Oth (torn zblock (headT g t) p) k := by
 rcases torn_last zblock (headT g t) p zblock_size (headT_size g t) with ⟨_,h1⟩ | h1
 · exact Or.inl h1
 · right
   intro k
   left
   rw [h1,zlast]
   decide
set_option maxRecDepth 20000 in
theorem Keep.step {N : Nat} {st : St} {g : Nat} {t : ByteArray} (h : Keep N st g t) (h4 : 4 <= N) (hN : N <= 4096) (k : Nat) (hk : k <= 1000) (t' : ByteArray) (ht' : t'.size <= (N / 2 - 1) * 256) (picks : List Int) :
   ((saveAt (slN N (g + 1)) (g + 1) t' (st.fuse (k : Int))).1 = 50 /\ Keep N ((saveAt (slN N (g + 1)) (g + 1) t' (st.fuse (k : Int))).2.crash picks) g t) \/
   (((saveAt (slN N (g + 1)) (g + 1) t' (st.fuse (k : Int))).1 = 0 \/ (saveAt (slN N (g + 1)) (g + 1) t' (st.fuse (k : Int))).1 = 50) /\ nb t'.size + 4 <= k /\ Keep N ((saveAt (slN N (g + 1)) (g + 1) t' (st.fuse (k : Int))).2.crash picks) (g + 1) t') := by
 have hnb := nb_fit ht' h4
 have hnbo := nb_fit h.fit h4
 have hsl := slN_le N (g + 1)
 have hapart : ∀ i,i < N / 2 -> ∀ j,j < N / 2 -> slN N (g + 1) + i ≠ slN N g + j := fun i hi j hj => by
   unfold slN
   rcases (by omega : g % 2 = 0 \/ g % 2 = 1) with hp | hp
   · rw [hp,show (g + 1) % 2 = 1 from by omega]; omega
   · rw [hp,show (g + 1) % 2 = 0 from by omega]; omega
 have hslg : slN N (g + 1 + 1) = slN N g := by unfold slN; rw [show (g + 1 + 1) % 2 = g % 2 from by omega]
 have hfu : st.fuse (k : Int) = ⟨st.sure,[],(k : Int)⟩ := by unfold St.fuse; rw [h.loose,show max (k : Int) (-1) = (k : Int) from by omega]
 rw [hfu]
 have hokf : (⟨st.sure,[],(k : Int)⟩ : St).Ok := by rw [<- hfu]; exact h.ok.fuse _ (by omega)
 have hlenS := h.len
 have hH256 : (st.sure.getD (slN N (g + 1)) noText).size = 256 := getD_size h.ok.full _ (by omega)
 -- the old one stays
 have old : ∀ S' : List ByteArray,(∀ x ∈ S',x.size = 256) -> S'.length = N -> (∀ j,j < N / 2 -> S'.getD (slN N g + j) noText = st.sure.getD (slN N g + j) noText) -> Oth (S'.getD (slN N (g + 1)) noText) g -> Keep N ⟨S',[], -1⟩ g t := fun S' hf hl hs ho =>
   ⟨⟨by show S'.length <= 4096; omega,by show 1 <= S'.length; omega,hf,fun w hw => absurd hw (by simp),⟨Int.le_refl (-1),by show (-1 : Int) <= 9223372036854775807; decide⟩⟩,hl,rfl,rfl,h.fit,by have := hs 0 (by omega); rw [Nat.add_zero] at this; exact this.trans h.head,fun i hi => by
     have := hs (1 + i) (by omega)
     rw [<- Nat.add_assoc] at this
     exact this.trans (h.body i hi),ho⟩
 have new : ∀ S' : List ByteArray,(∀ x ∈ S',x.size = 256) -> S'.length = N -> S'.getD (slN N (g + 1)) noText = headT (g + 1) t' -> (∀ i,i < nb t'.size -> S'.getD (slN N (g + 1) + 1 + i) noText = blkT t' i) -> S'.getD (slN N g) noText = st.sure.getD (slN N g) noText -> Keep N ⟨S',[], -1⟩ (g + 1) t' := fun S' hf hl hh hb ho =>
   ⟨⟨by show S'.length <= 4096; omega,by show 1 <= S'.length; omega,hf,fun w hw => absurd hw (by simp),⟨Int.le_refl (-1),by show (-1 : Int) <= 9223372036854775807; decide⟩⟩,hl,rfl,rfl,ht',hh,hb,by
     show Oth (S'.getD (slN N (g + 1 + 1)) noText) (g + 1)
     rw [hslg,ho,h.head]
     right
     rw [list_take8,numL_low]
     exact Nat.lt_of_le_of_lt (Nat.mod_le _ _) (Nat.lt_succ_self g)⟩
 have crash1 : ∀ (S : List ByteArray) (b : Nat) (d : ByteArray) (l2 : Int),(⟨S,[(b,d)],l2⟩ : St).crash picks = ⟨S.set b (torn (S.getD b noText) d (picks.getD 0 0)),[], -1⟩ := fun S b d l2 => rfl
 have crash0 : ∀ (S : List ByteArray) (l2 : Int),(⟨S,[],l2⟩ : St).crash picks = ⟨S,[], -1⟩ := fun S l2 => rfl
 have hS1 : ∀ x ∈ st.sure.set (slN N (g + 1)) zblock,x.size = 256 := full_set h.ok.full _ _ zblock_size
 have hS2 : ∀ x ∈ laid (st.sure.set (slN N (g + 1)) zblock) (tws (slN N (g + 1) + 1) t' 0 (nb t'.size)),x.size = 256 := laid_full _ _ hS1 (fun w hw => (tws_mem hw).2.2)
 have hl2 : (laid (st.sure.set (slN N (g + 1)) zblock) (tws (slN N (g + 1) + 1) t' 0 (nb t'.size))).length = N := by rw [laid_length,List.length_set,hlenS]
 have hS2o : ∀ j,j < N / 2 -> (laid (st.sure.set (slN N (g + 1)) zblock) (tws (slN N (g + 1) + 1) t' 0 (nb t'.size))).getD (slN N g + j) noText = st.sure.getD (slN N g + j) noText := fun j hj => by
   rw [laid_other7 _ _ _ (fun w hw => by
     have := tws_mem hw
     have := hapart (w.1 - slN N (g + 1)) (by omega) j hj
     omega),getD_set_other _ _ _ _ (by have := hapart 0 (by omega) j hj; omega)]
 have hS2h : (laid (st.sure.set (slN N (g + 1)) zblock) (tws (slN N (g + 1) + 1) t' 0 (nb t'.size))).getD (slN N (g + 1)) noText = zblock := by
   rw [laid_other7 _ _ _ (fun w hw => by have := tws_mem hw; omega),getD_set_same _ _ _ (by omega)]
 rcases save_cases (slN N (g + 1)) (g + 1) t' st.sure (k : Int) (by omega) (by omega) with ⟨l2,e,b1,b2⟩ | ⟨l2,e,b1,b2⟩ | ⟨j,l2,hj,e,b1,b2⟩ | ⟨l2,e,b1,b2⟩ | ⟨l2,e,b1⟩ | ⟨l2,e,b1⟩
 · rw [e]
   refine Or.inl ⟨rfl,?_⟩
   show Keep N ((⟨st.sure,[],l2⟩ : St).crash picks) g t
   rw [crash0]
   exact old _ h.ok.full hlenS (fun j _ => rfl) h.oth
 · rw [e]
   refine Or.inl ⟨rfl,?_⟩
   show Keep N ((⟨st.sure,[(slN N (g + 1),zblock)],l2⟩ : St).crash picks) g t
   rw [crash1]
   refine old _ (full_set h.ok.full _ _ (torn_size _ _ _ hH256 zblock_size)) (by rw [List.length_set,hlenS]) (fun j hj => getD_set_other _ _ _ _ (by have := hapart 0 (by omega) j hj; omega)) ?_
   rw [getD_set_same _ _ _ (by omega)]
   exact h.oth.torn hH256 _
 · rw [e]
   refine Or.inl ⟨rfl,?_⟩
   show Keep N (⟨crashed (st.sure.set (slN N (g + 1)) zblock) picks 0 (tws (slN N (g + 1) + 1) t' 0 j),[], -1⟩) g t
   refine old _ (crashed_full picks _ 0 _ hS1 (fun w hw => by have := tws_mem hw; rw [List.length_set]; exact ⟨by omega,this.2.2⟩)) (by rw [crashed_length,List.length_set,hlenS]) (fun j' hj' => ?_) ?_
   · rw [crashed_other7 _ _ _ _ _ (fun w hw => by
       have := tws_mem hw
       have := hapart (w.1 - slN N (g + 1)) (by omega) j' hj'
       omega),getD_set_other _ _ _ _ (by have := hapart 0 (by omega) j' hj'; omega)]
   · rw [crashed_other7 _ _ _ _ _ (fun w hw => by have := tws_mem hw; omega),getD_set_same _ _ _ (by omega)]
     exact Oth.zero
 · rw [e]
   refine Or.inl ⟨rfl,?_⟩
   show Keep N ((⟨_,[],l2⟩ : St).crash picks) g t
   rw [crash0]
   exact old _ hS2 hl2 hS2o (by rw [hS2h]; exact Oth.zero)
 · rw [e]
   dsimp only
   rw [crash1,hS2h]
   rcases head_torn (g + 1) t' (picks.getD 0 0) with hw | hw
   · refine Or.inr ⟨Or.inr rfl,by omega,?_⟩
     rw [hw]
     refine new _ (full_set hS2 _ _ (headT_size _ _)) (by rw [List.length_set,hl2]) (getD_set_same _ _ _ (by omega)) (fun i hi => ?_) ?_
     · rw [getD_set_other _ _ _ _ (by omega)]
       exact laid_tws _ t' (nb t'.size) 0 _ (by rw [List.length_set]; omega) i (by omega) (by omega)
     · have := hapart 0 (by omega) 0 (by omega)
       rw [getD_set_other _ _ _ _ (by omega)]
       exact hS2o 0 (by omega)
   · refine Or.inl ⟨rfl,?_⟩
     refine old _ (full_set hS2 _ _ (torn_size _ _ _ zblock_size (headT_size _ _))) (by rw [List.length_set,hl2]) (fun j hj => ?_) ?_
     · rw [getD_set_other _ _ _ _ (by have := hapart 0 (by omega) j hj; omega)]
       exact hS2o j hj
     · rw [getD_set_same _ _ _ (by omega)]
       exact hw g
 · rw [e]
   refine Or.inr ⟨Or.inl rfl,by omega,?_⟩
   show Keep N ((⟨_,[],l2⟩ : St).crash picks) (g + 1) t'
   rw [crash0]
   refine new _ (full_set hS2 _ _ (headT_size _ _)) (by rw [List.length_set,hl2]) (getD_set_same _ _ _ (by omega)) (fun i hi => ?_) ?_
   · rw [getD_set_other _ _ _ _ (by omega)]
     exact laid_tws _ t' (nb t'.size) 0 _ (by rw [List.length_set]; omega) i (by omega) (by omega)
   · have := hapart 0 (by omega) 0 (by omega)
     rw [getD_set_other _ _ _ _ (by omega)]
     exact hS2o 0 (by omega)
end Go.Proofs.YtchhojkhfdkhfaaGreatDoor
