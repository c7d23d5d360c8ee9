/- Joined texts. -/
import Derived.Test.YtchhojkhfdkhfaaGreatDoorP01
namespace Go.Proofs.YtchhojkhfdkhfaaGreatDoor
open Frm
def blocksC (ck lg : Int) : Int := if ck < 2 \/ 256 < ck \/ lg < 1 \/ 1024 < lg then 0 else if 4096 < 2 * ck + 2 * lg then 0 else 2 * ck + 2 * lg
abbrev St.mayS (st : St) (ck lg : Int) : Prop := blocksC ck lg ≠ 0 /\ blocksC ck lg <= (st.sure.length : Int)
def lo (ck lg g : Nat) : Nat := 2 * ck + g % 2 * lg
structure Sto where
 gen : Nat
 str : ByteArray
 broken : Bool
def Sto.told (s : Sto) (e : Nat) : Sto := ⟨s.gen,s.str,s.broken || e == 50⟩
def stoMake (st : St) (ck lg : Int) : Nat × St :=
 if ¬ st.mayS ck lg then (2,st)
 else if (st.load 0 (2 * ck)).2 = 0 then (7,st)
 else if (st.load 0 (2 * ck)).2 ≠ 5 then ((st.load 0 (2 * ck)).2,st)
 else andT (walClear st (lo ck.toNat lg.toNat 1) lg.toNat) (fun s => s.save 0 (2 * ck) 1 noText)
def stoOpen (st : St) (ck lg : Int) : (Nat × Nat × ByteArray × ByteArray × List ByteArray) × St :=
 if ¬ st.mayS ck lg then ((2,0,noText,noText,[]),st)
 else if (st.load 0 (2 * ck)).2 ≠ 0 then (((st.load 0 (2 * ck)).2,0,noText,noText,[]),st)
 else if (walOpen st (lo ck.toNat lg.toNat (st.load 0 (2 * ck)).1.1) lg.toNat).1.1 ≠ 0 then
   (((walOpen st (lo ck.toNat lg.toNat (st.load 0 (2 * ck)).1.1) lg.toNat).1.1,0,noText,noText,[]),(walOpen st (lo ck.toNat lg.toNat (st.load 0 (2 * ck)).1.1) lg.toNat).2)
 else ((0,(st.load 0 (2 * ck)).1.1,(st.load 0 (2 * ck)).1.2,(walOpen st (lo ck.toNat lg.toNat (st.load 0 (2 * ck)).1.1) lg.toNat).1.2.1,(walOpen st (lo ck.toNat lg.toNat (st.load 0 (2 * ck)).1.1) lg.toNat).1.2.2),(walOpen st (lo ck.toNat lg.toNat (st.load 0 (2 * ck)).1.1) lg.toNat).2)
def stoAppend (st : St) (ck lg : Nat) (s : Sto) (t : ByteArray) : Nat × Sto × St :=
 if s.broken then (3,s,st)
 else ((walAppend st (lo ck lg s.gen) lg s.str t).1,Sto.told ⟨s.gen,(walAppend st (lo ck lg s.gen) lg s.str t).2.1,s.broken⟩ (walAppend st (lo ck lg s.gen) lg s.str t).1,(walAppend st (lo ck lg s.gen) lg s.str t).2.2)
def stoSync (st : St) (s : Sto) : Nat × Sto × St :=
 if s.broken then (3,s,st) else (st.sync.1,s.told st.sync.1,st.sync.2)
def stoTrim (st : St) (ck lg : Nat) (s : Sto) (t : ByteArray) : Nat × Sto × St :=
 if s.broken then (3,s,st)
 else if 4611686018427387904 <= s.gen then (2,s,st)
 else if room (2 * (ck : Int)) < (t.size : Int) then (4,s,st)
 else if (walClear st (lo ck lg (s.gen + 1)) lg).1 ≠ 0 then ((walClear st (lo ck lg (s.gen + 1)) lg).1,s.told (walClear st (lo ck lg (s.gen + 1)) lg).1,(walClear st (lo ck lg (s.gen + 1)) lg).2)
 else if ((walClear st (lo ck lg (s.gen + 1)) lg).2.save 0 (2 * (ck : Int)) (s.gen + 1) t).1 ≠ 0 then
   (((walClear st (lo ck lg (s.gen + 1)) lg).2.save 0 (2 * (ck : Int)) (s.gen + 1) t).1,s.told ((walClear st (lo ck lg (s.gen + 1)) lg).2.save 0 (2 * (ck : Int)) (s.gen + 1) t).1,((walClear st (lo ck lg (s.gen + 1)) lg).2.save 0 (2 * (ck : Int)) (s.gen + 1) t).2)
 else if (walOpen ((walClear st (lo ck lg (s.gen + 1)) lg).2.save 0 (2 * (ck : Int)) (s.gen + 1) t).2 (lo ck lg (s.gen + 1)) lg).1.1 ≠ 0 then
   ((walOpen ((walClear st (lo ck lg (s.gen + 1)) lg).2.save 0 (2 * (ck : Int)) (s.gen + 1) t).2 (lo ck lg (s.gen + 1)) lg).1.1,s.told (walOpen ((walClear st (lo ck lg (s.gen + 1)) lg).2.save 0 (2 * (ck : Int)) (s.gen + 1) t).2 (lo ck lg (s.gen + 1)) lg).1.1,(walOpen ((walClear st (lo ck lg (s.gen + 1)) lg).2.save 0 (2 * (ck : Int)) (s.gen + 1) t).2 (lo ck lg (s.gen + 1)) lg).2)
 else (0,⟨s.gen + 1,(walOpen ((walClear st (lo ck lg (s.gen + 1)) lg).2.save 0 (2 * (ck : Int)) (s.gen + 1) t).2 (lo ck lg (s.gen + 1)) lg).1.2.1,false⟩,(walOpen ((walClear st (lo ck lg (s.gen + 1)) lg).2.save 0 (2 * (ck : Int)) (s.gen + 1) t).2 (lo ck lg (s.gen + 1)) lg).2)
structure Past where
 gen : Nat
 text : ByteArray
 all : List ByteArray
 sure : Nat
structure Conf (ck lg L : Nat) : Prop where
 ck2 : 2 <= ck
 ck256 : ck <= 256
 lg1 : 1 <= lg
 lg1024 : lg <= 1024
 fit : 2 * ck + 2 * lg <= L
 few : L <= 4096
theorem lo_fit {ck lg L : Nat} (h : Conf ck lg L) (g : Nat) : 2 * ck <= lo ck lg g /\ lo ck lg g + lg <= L := by
 have := h.fit
 unfold lo
 rcases (by omega : g % 2 = 0 \/ g % 2 = 1) with hp | hp <;> rw [hp] <;> omega
theorem lo_apart (ck lg g : Nat) : lo ck lg g + lg <= lo ck lg (g + 1) \/ lo ck lg (g + 1) + lg <= lo ck lg g := by
 unfold lo
 rcases (by omega : g % 2 = 0 \/ g % 2 = 1) with hp | hp
 · rw [hp,show (g + 1) % 2 = 1 from by omega]; omega
 · rw [hp,show (g + 1) % 2 = 0 from by omega]; omega
structure Past.May (p : Past) (lg : Nat) : Prop where
 short : ∀ t ∈ p.all,t.size <= 65536
 fits : (cat p.all).size <= lg * 255
 some : p.sure <= p.all.length
structure Found (ck lg : Nat) (S : List ByteArray) (p : Past) : Prop where
 keep : KeepS (2 * ck) S p.gen p.text
 may : p.May lg
 fine : ∀ k,k < lg -> Fine (cat p.all) (ends p.all p.sure) k (S.getD (lo ck lg p.gen + k) noText)
def After (ck lg : Nat) (st : St) (p : Past) (q : Option Past) : Prop := ∀ picks,Found ck lg (st.crash picks).sure p \/ ∃ q',q = some q' /\ Found ck lg (st.crash picks).sure q'
structure Hale (ck lg L : Nat) (st : St) (p : Past) : Prop where
 ok : st.Ok
 long : st.sure.length = L
 keep : KeepS (2 * ck) st.sure p.gen p.text
 well : Well (lo ck lg p.gen) lg p.all p.sure st
theorem Hale.may {ck lg L : Nat} {st : St} {p : Past} (h : Hale ck lg L st p) : p.May lg := ⟨h.well.hold.short,h.well.hold.fits,h.well.hold.some⟩
theorem keep_crash {ck : Nat} {st : St} {g : Nat} {t : ByteArray} (h2 : 2 <= ck) (hok : st.Ok) (h : KeepS (2 * ck) st.sure g t) (hl : ∀ w ∈ st.loose,2 * ck <= w.1) (picks : List Int) : KeepS (2 * ck) (st.crash picks).sure g t :=
 h.same (by omega) (hok.crash picks).full (crashed_length _ _ _ _) (fun j hj => crashed_other7 picks j st.loose 0 st.sure (fun w hw => by have := hl w hw; omega))
theorem Hale.after {ck lg L : Nat} {st : St} {p : Past} (hc : Conf ck lg L) (h : Hale ck lg L st p) (q : Option Past) : After ck lg st p q := fun picks =>
 Or.inl ⟨keep_crash hc.ck2 h.ok h.keep (fun w hw => by have := h.well.mine w hw; have := lo_fit hc p.gen; omega) picks,h.may,h.well.hold.crash picks⟩
theorem After.fuse {ck lg : Nat} {st : St} {p : Past} {q : Option Past} (h : After ck lg st p q) (n : Int) : After ck lg (st.fuse n) p q := h
theorem Hale.fuse {ck lg L : Nat} {st : St} {p : Past} (h : Hale ck lg L st p) (n : Int) (hn : n <= 9223372036854775807) : Hale ck lg L (st.fuse n) p :=
 ⟨h.ok.fuse n hn,h.long,h.keep,⟨⟨h.well.hold.short,h.well.hold.fits,h.well.hold.some,h.well.hold.len,h.well.hold.sure,h.well.hold.wr⟩,h.well.now,h.well.mine⟩⟩
theorem conf_may {ck lg L : Nat} (hc : Conf ck lg L) (st : St) (hl : st.sure.length = L) : st.mayS (ck : Int) (lg : Int) := by
 have h1 := hc.ck2; have h2 := hc.ck256; have h3 := hc.lg1; have h4 := hc.lg1024; have h5 := hc.fit; have h6 := hc.few
 unfold St.mayS blocksC
 rw [if_neg (by omega),if_neg (by omega)]
 omega
theorem Found.open {ck lg L : Nat} {S : List ByteArray} {p : Past} (hc : Conf ck lg L) (h : Found ck lg S p) (hL : S.length = L) (hg : 1 <= p.gen /\ p.gen <= 4611686018427387904) :
   ∃ r st',p.sure <= r /\ r <= p.all.length /\ stoOpen ⟨S,[], -1⟩ (ck : Int) (lg : Int) = ((0,p.gen,p.text,cat (p.all.take r),p.all.take r),st') /\ Hale ck lg L st' ⟨p.gen,p.text,p.all.take r,r⟩ /\ st'.left = -1 := by
 have hck2 := hc.ck2
 have hck := hc.ck256
 have hld := h.keep.load (-1) (by decide) (by omega) (by omega) (by omega) hg
 have hlf := lo_fit hc p.gen
 obtain ⟨r,S',h1,h2,h3,h4,h5,h6⟩ := open_at (lo ck lg p.gen) lg p.all h.may.short h.may.fits p.sure h.may.some S (by omega) h.fine
 have e2 : (2 * (ck : Int)) = ((2 * ck : Nat) : Int) := by omega
 have ho : stoOpen ⟨S,[], -1⟩ (ck : Int) (lg : Int) = ((0,p.gen,p.text,cat (p.all.take r),p.all.take r),⟨S',[], -1⟩) := by
   unfold stoOpen
   rw [if_neg (fun x => x (conf_may hc _ hL)),e2,hld,if_neg (fun x => x rfl),Int.toNat_natCast,Int.toNat_natCast,h3,if_neg (fun x => x rfl)]
 have hlt : (p.all.take r).length = r := by rw [List.length_take]; omega
 have hfull : ∀ x ∈ S',x.size = 256 := fun x hx => by
   obtain ⟨i,hi,rfl⟩ := List.getElem_of_mem hx
   have e : S'.getD i noText = S'[i] := by rw [List.getD_eq_getElem?_getD,List.getElem?_eq_getElem hi]; rfl
   rw [<- e]
   by_cases hin : i < lo ck lg p.gen \/ lo ck lg p.gen + lg <= i
   · rw [h6 i hin]
     exact getD_size h.keep.full _ (by omega)
   · rw [show i = lo ck lg p.gen + (i - lo ck lg p.gen) from by omega,h5 _ (by omega)]
     exact blkOf_size _ _
 have hends : (cat (p.all.take r)).size <= lg * 255 := by
   have := ends_le p.all r
   have := h.may.fits
   unfold ends at *
   omega
 refine ⟨r,_,h1,h2,ho,⟨⟨by show S'.length <= 4096; have := hc.few; omega,by show 1 <= S'.length; omega,hfull,fun w hw => absurd hw (by simp),⟨Int.le_refl (-1),by show (-1 : Int) <= 9223372036854775807; decide⟩⟩,by show S'.length = L; omega,h.keep.same (by omega) hfull h4 (fun j hj => h6 j (Or.inl (by omega))),?_⟩,rfl⟩
 refine ⟨⟨fun t ht => h.may.short t (List.mem_of_mem_take ht),hends,by show r <= (p.all.take r).length; omega,by show lo ck lg p.gen + lg <= S'.length; omega,fun k hk => ?_,trivial⟩,fun k hk => h5 k hk,fun w hw => absurd hw (by simp)⟩
 show S'.getD (lo ck lg p.gen + k) noText = blkOf (cat ((p.all.take r).take r)) k
 rw [List.take_take,Nat.min_self]
 exact h5 k hk
theorem Hale.append {ck lg L : Nat} {st : St} {p : Past} (hc : Conf ck lg L) (h : Hale ck lg L st p) (t : ByteArray) :
   (∃ c,(c = 4 \/ c = 6) /\ stoAppend st ck lg ⟨p.gen,cat p.all,false⟩ t = (c,⟨p.gen,cat p.all,false⟩,st)) \/
   (∃ st',stoAppend st ck lg ⟨p.gen,cat p.all,false⟩ t = (0,⟨p.gen,cat (p.all ++ [t]),false⟩,st') /\ Hale ck lg L st' ⟨p.gen,p.text,p.all ++ [t],p.sure⟩) \/
   (∃ st',stoAppend st ck lg ⟨p.gen,cat p.all,false⟩ t = (50,⟨p.gen,cat p.all,true⟩,st') /\ st'.Ok /\ st'.sure.length = L /\ ∀ q,After ck lg st' ⟨p.gen,p.text,p.all ++ [t],p.sure⟩ q) := by
 have hlf := lo_fit hc p.gen
 have hokA : (walAppend st (lo ck lg p.gen) lg (cat p.all) t).2.2.Ok := by
   unfold walAppend
   split
   · exact h.ok
   · split
     · exact h.ok
     · split
       · exact puts_ok8 _ lg (blkOf (cat p.all)) (blkOf (cat p.all)) _ _ _ h.ok
       · exact puts_ok8 _ lg (blkOf (cat p.all)) (blkOf (cat p.all)) _ _ _ h.ok
 have hu : ∀ c s2 st2,walAppend st (lo ck lg p.gen) lg (cat p.all) t = (c,s2,st2) -> stoAppend st ck lg ⟨p.gen,cat p.all,false⟩ t = (c,Sto.told ⟨p.gen,s2,false⟩ c,st2) := fun c s2 st2 e => by
   unfold stoAppend
   rw [if_neg (by simp)]
   simp only
   rw [e]
 rcases h.well.append t with ⟨c,h1,h2⟩ | ⟨st',h1,h2,h3⟩ | ⟨st',h1,h2,h3,h4⟩
 · left
   refine ⟨c,h1,?_⟩
   rw [hu _ _ _ h2]
   unfold Sto.told
   rcases h1 with rfl | rfl <;> rfl
 · right; left
   refine ⟨st',by rw [hu _ _ _ h1]; rfl,by rw [h1] at hokA; exact hokA,by rw [h3]; exact h.long,by rw [h3]; exact h.keep,h2⟩
 · right; right
   have hok : st'.Ok := by rw [h1] at hokA; exact hokA
   refine ⟨st',by rw [hu _ _ _ h1]; rfl,hok,by rw [h3]; exact h.long,fun q picks => Or.inl ⟨keep_crash hc.ck2 hok (by rw [h3]; exact h.keep) (fun w hw => by have := h4 w hw; omega) picks,⟨h2.short,h2.fits,h2.some⟩,h2.crash picks⟩⟩
theorem Hale.sync {ck lg L : Nat} {st : St} {p : Past} (hc : Conf ck lg L) (h : Hale ck lg L st p) :
   (∃ st',stoSync st ⟨p.gen,cat p.all,false⟩ = (0,⟨p.gen,cat p.all,false⟩,st') /\ Hale ck lg L st' ⟨p.gen,p.text,p.all,p.all.length⟩) \/
   stoSync st ⟨p.gen,cat p.all,false⟩ = (50,⟨p.gen,cat p.all,true⟩,st) := by
 have hlf := lo_fit hc p.gen
 unfold stoSync
 rw [if_neg (by simp)]
 by_cases h0 : st.left = 0
 · right
   have e : st.sync = (50,st) := by unfold St.sync; rw [if_pos h0]
   rw [e]
   rfl
 · left
   have e : st.sync = (0,⟨laid st.sure st.loose,[],counted st.left⟩) := by unfold St.sync; rw [if_neg h0]
   have hw := h.well.sync (by rw [e])
   have hok := h.ok.sync
   rw [e] at hw hok ⊢
   exact ⟨_,rfl,hok,by show (laid _ _).length = L; rw [laid_length]; exact h.long,h.keep.same (by have := hc.ck2; omega) hok.full (laid_length _ _) (fun j hj => laid_other7 j _ _ (fun w hw' => by have := h.well.mine w hw'; omega)),hw⟩
theorem zeros_ok : ∀ (n o : Nat) (st : St),st.Ok -> (zeros n o st).2.Ok
 | 0,_,_,h => h
 | n + 1,o,st,h => by
   unfold zeros
   split
   · exact zeros_ok n _ _ (h.write _ _)
   · exact h.write _ _
theorem clear_ok {st : St} (h : st.Ok) (o n : Nat) : (walClear st o n).2.Ok := by
 unfold walClear
 split
 · exact zeros_ok _ _ _ h
 · exact (zeros_ok _ _ _ h).sync
theorem andT_ok {r : Nat × St} {f : St -> Nat × St} (h : r.2.Ok) (hf : ∀ s,s.Ok -> (f s).2.Ok) : (andT r f).2.Ok := by
 unfold andT
 split
 · exact hf _ h
 · exact h
theorem putsT_ok' (o : Nat) (t : ByteArray) : ∀ (n i : Nat) (st : St),st.Ok -> (putsT o t n i st).2.Ok
 | 0,_,_,h => h
 | n + 1,i,_,h => andT_ok (h.write _ _) (fun s hs => putsT_ok' o t n (i + 1) s hs)
theorem saveAt_ok {st : St} (h : st.Ok) (a g : Nat) (t : ByteArray) : (saveAt a g t st).2.Ok := by
 unfold saveAt
 exact andT_ok (andT_ok (andT_ok (andT_ok (andT_ok (h.write _ _) (fun s hs => hs.sync)) (fun s hs => putsT_ok' _ _ _ _ s hs)) (fun s hs => hs.sync)) (fun s hs => hs.write _ _)) (fun s hs => hs.sync)
theorem save_is {ck : Nat} {st : St} {g : Nat} {t : ByteArray} (h2 : 2 <= ck) (h256 : ck <= 256) (hl : 2 * ck <= st.sure.length) (hg : 1 <= g /\ g <= 4611686018427387904) (ht : t.size <= (2 * ck / 2 - 1) * 256) : st.save 0 (2 * (ck : Int)) g t = saveAt (slN (2 * ck) g) g t st := by
 have hr : room (2 * (ck : Int)) = ((2 * (ck : Int)) / 2 - 1) * 256 := by unfold room; rw [if_neg (by omega)]
 have hm : st.mayC 0 (2 * (ck : Int)) := ⟨by omega,by omega,by omega⟩
 have hs : slotAt 0 (2 * (ck : Int)) g = slN (2 * ck) g := by
   unfold slotAt slN
   rw [show (2 * (ck : Int)).toNat = 2 * ck from by omega]
   simp
 unfold St.save
 rw [if_neg (fun h => h hm),if_neg (by omega),if_neg (by rw [hr]; omega),hs]
set_option maxRecDepth 10000 in
theorem Hale.trim {ck lg L : Nat} {st : St} {p : Past} (hc : Conf ck lg L) (h : Hale ck lg L st p) (hg : 1 <= p.gen /\ p.gen < 4611686018427387904) (t : ByteArray) :
   (room (2 * (ck : Int)) < (t.size : Int) /\ stoTrim st ck lg ⟨p.gen,cat p.all,false⟩ t = (4,⟨p.gen,cat p.all,false⟩,st)) \/
   (∃ st',stoTrim st ck lg ⟨p.gen,cat p.all,false⟩ t = (0,⟨p.gen + 1,cat [],false⟩,st') /\ Hale ck lg L st' ⟨p.gen + 1,t,[],0⟩) \/
   (∃ st',stoTrim st ck lg ⟨p.gen,cat p.all,false⟩ t = (50,⟨p.gen,cat p.all,true⟩,st') /\ st'.Ok /\ st'.sure.length = L /\ After ck lg st' p (some ⟨p.gen + 1,t,[],0⟩)) := by
 have h2 := hc.ck2
 have h256 := hc.ck256
 have hfit := hc.fit
 have hlf := lo_fit hc p.gen
 have hlf2 := lo_fit hc (p.gen + 1)
 have hap := lo_apart ck lg p.gen
 have hL := h.long
 have hr : room (2 * (ck : Int)) = ((2 * (ck : Int)) / 2 - 1) * 256 := by unfold room; rw [if_neg (by omega)]
 unfold stoTrim
 rw [if_neg (by simp),if_neg (show ¬ 4611686018427387904 <= p.gen by omega)]
 by_cases hlong : room (2 * (ck : Int)) < (t.size : Int)
 · left; exact ⟨hlong,by rw [if_pos hlong]⟩
 right
 rw [if_neg hlong]
 simp only
 have ht : t.size <= (2 * ck / 2 - 1) * 256 := by rw [hr] at hlong; omega
 -- all that is loose,with writes in the other log's blocks
 have hcl := clear_cases (lo ck lg (p.gen + 1)) lg st (by omega)
 have hokC := clear_ok h.ok (lo ck lg (p.gen + 1)) lg
 rcases hcl with ⟨W,c,e,hW⟩ | ⟨c,e⟩
 · right
   rw [e] at hokC ⊢
   rw [if_pos (show (50 : Nat) ≠ 0 by decide)]
   refine ⟨_,rfl,hokC,hL,fun picks => Or.inl ⟨keep_crash h2 hokC h.keep (fun w hw => ?_) picks,h.may,?_⟩⟩
   · rcases List.mem_append.1 hw with hw | hw
     · have := h.well.mine w hw; omega
     · have := hW w hw; omega
   · have hh : Hold (lo ck lg p.gen) lg p.all p.sure ⟨st.sure,st.loose ++ W,c⟩ := ⟨h.well.hold.short,h.well.hold.fits,h.well.hold.some,h.well.hold.len,h.well.hold.sure,h.well.hold.wr.more (ends_le _ _) (fun w hw => Or.inl (by have := hW w hw; omega))⟩
     exact hh.crash picks
 · rw [e] at hokC ⊢
   rw [if_neg (fun x => x rfl)]
   obtain ⟨S1,hS1⟩ : ∃ S1,S1 = laid (laid st.sure st.loose) (zw (lo ck lg (p.gen + 1)) lg) := ⟨_,rfl⟩
   have hlen1 : S1.length = L := by rw [hS1,laid_length,laid_length]; exact hL
   have hk1 : KeepS (2 * ck) S1 p.gen p.text := h.keep.same (by omega) (by rw [hS1]; exact hokC.full) (by rw [hlen1,hL]) (fun j hj => by
     rw [hS1,laid_other7 j _ _ (fun w hw => by have := zw_mem hw; omega),laid_other7 j _ _ (fun w hw => by have := h.well.mine w hw; omega)])
   have hold1 : ∀ k,k < lg -> S1.getD (lo ck lg p.gen + k) noText = blkOf (cat p.all) k := fun k hk => by
     rw [hS1,laid_other7 _ _ _ (fun w hw => by have := zw_mem hw; omega)]
     exact h.well.now k hk
   have hnew1 : ∀ k,k < lg -> S1.getD (lo ck lg (p.gen + 1) + k) noText = zblock := fun k hk => by
     rw [hS1]
     exact laid_zw lg _ _ (by rw [laid_length]; omega) k hk
   simp only [<- hS1] at hokC ⊢
   have hfineO : ∀ S' : List ByteArray,(∀ j,2 * ck <= j -> S'.getD j noText = S1.getD j noText) -> ∀ k,k < lg -> Fine (cat p.all) (ends p.all p.sure) k (S'.getD (lo ck lg p.gen + k) noText) := fun S' hs k hk => by
     rw [hs _ (by omega),hold1 k hk]
     refine ⟨(cat p.all).size,ends_le _ _,Nat.le_refl _,?_⟩
     have := Good.pre (cat p.all) k (cat p.all).size (Nat.le_refl _)
     rw [pre_all] at this
     exact this
   have hfineN : ∀ S' : List ByteArray,(∀ j,2 * ck <= j -> S'.getD j noText = S1.getD j noText) -> ∀ k,k < lg -> Fine (cat []) (ends [] 0) k (S'.getD (lo ck lg (p.gen + 1) + k) noText) := fun S' hs k hk => by
     rw [hs _ (by omega),hnew1 k hk, <- zeros_good k]
     refine ⟨(cat []).size,ends_le _ _,Nat.le_refl _,?_⟩
     have := Good.pre (cat []) k (cat []).size (Nat.le_refl _)
     rw [pre_all] at this
     exact this
   have hmayN : Past.May ⟨p.gen + 1,t,[],0⟩ lg := ⟨fun x hx => absurd hx (by simp),Nat.zero_le _,Nat.le_refl _⟩
   obtain ⟨X,hX,hXl,hXo,hXr⟩ := hk1.step (by omega) c hokC.left.1 t ht
   have hsv : (⟨S1,[],c⟩ : St).save 0 (2 * (ck : Int)) (p.gen + 1) t = X := by
     rw [save_is h2 h256 (by show 2 * ck <= S1.length; omega) (by omega) ht]
     exact hX
   have hokX : X.2.Ok := by rw [<- hX]; exact saveAt_ok hokC _ _ _
   rw [hsv]
   rcases hXr with ⟨h50,hcr⟩ | ⟨h0,hlo,hkn⟩
   · right
     rw [if_pos (by rw [h50]; decide),h50]
     refine ⟨_,rfl,hokX,by omega,fun picks => ?_⟩
     rcases hcr picks with hk | hk
     · exact Or.inl ⟨hk,h.may,hfineO _ (hXo picks)⟩
     · exact Or.inr ⟨_,rfl,hk,hmayN,hfineN _ (hXo picks)⟩
   · rw [if_neg (fun x => x h0)]
     obtain ⟨y,⟨S2,loose2,c2⟩⟩ := X
     have hlo : loose2 = [] := hlo
     subst hlo
     have hs2 : ∀ j,2 * ck <= j -> S2.getD j noText = S1.getD j noText := hXo []
     have hlen2 : S2.length = L := by have : S2.length = S1.length := hXl; omega
     by_cases hc2 : c2 = 0
     · right
       have ho : walOpen ⟨S2,[],c2⟩ (lo ck lg (p.gen + 1)) lg = ((50,noText,[]),⟨S2,[],c2⟩) := by unfold walOpen; rw [if_pos hc2]
       simp only
       rw [ho,if_pos (show (50 : Nat) ≠ 0 by decide)]
       exact ⟨_,rfl,hokX,hlen2,fun picks => Or.inr ⟨_,rfl,hkn,hmayN,hfineN _ hs2⟩⟩
     · left
       have ho := open_zero (lo ck lg (p.gen + 1)) lg S2 c2 hc2 (fun k hk => by rw [hs2 _ (by omega)]; exact hnew1 k hk)
       simp only
       rw [ho,if_neg (fun x => x rfl)]
       refine ⟨_,rfl,hokX,hlen2,hkn,⟨⟨fun x hx => absurd hx (by simp),Nat.zero_le _,Nat.le_refl _,by show lo ck lg (p.gen + 1) + lg <= S2.length; omega,fun k hk => ?_,trivial⟩,fun k hk => ?_,fun w hw => absurd hw (by simp)⟩⟩
       · show S2.getD (lo ck lg (p.gen + 1) + k) noText = blkOf (cat []) k
         rw [hs2 _ (by omega),hnew1 k hk,zeros_good]
       · show S2.getD (lo ck lg (p.gen + 1) + k) noText = blkOf (cat []) k
         rw [hs2 _ (by omega),hnew1 k hk,zeros_good]
theorem write_few (st : St) (b : Int) (d : ByteArray) : (st.write b d).2.loose.length <= st.loose.length + 1 := by
 unfold St.write
 split
 · show st.loose.length <= _; omega
 · split
   · show st.loose.length <= _; omega
   · split
     · show st.loose.length <= _; omega
     · show (st.loose ++ [_]).length <= _; rw [List.length_append]; exact Nat.le_refl _
theorem sync_few (st : St) : st.sync.2.loose.length <= st.loose.length := by
 unfold St.sync
 split
 · exact Nat.le_refl _
 · exact Nat.zero_le _
theorem zeros_few : ∀ (n o : Nat) (st : St),(zeros n o st).2.loose.length <= st.loose.length + n
 | 0,_,_ => Nat.le_refl _
 | n + 1,o,st => by
   have h := write_few st ((o : Nat) : Int) zblock
   unfold zeros
   split
   · have := zeros_few n (o + 1) (st.write ((o : Nat) : Int) zblock).2; omega
   · omega
theorem clear_few (st : St) (o n : Nat) : (walClear st o n).2.loose.length <= st.loose.length + n := by
 have h := zeros_few n o st
 unfold walClear
 split
 · exact h
 · have := sync_few (zeros n o st).2; omega
theorem puts_few (o : Nat) : ∀ (l : List (ByteArray × ByteArray)) (i : Nat) (st : St),(puts o l i st).2.loose.length <= st.loose.length + l.length
 | [],_,st => Nat.le_refl _
 | x :: l,i,st => by
   have hw := write_few st ((o + i : Nat) : Int) x.2
   unfold puts
   rw [List.length_cons]
   split
   · have := puts_few o l (i + 1) st; omega
   · split
     · have := puts_few o l (i + 1) (st.write ((o + i : Nat) : Int) x.2).2; omega
     · omega
theorem made_few (o : Nat) (l : List (ByteArray × ByteArray)) (st : St) : (made o l st).2.loose.length <= st.loose.length + l.length := by
 have h := puts_few o l 0 st
 unfold made
 split
 · exact h
 · split
   · exact h
   · have := sync_few (puts o l 0 st).2; omega
theorem open_few (st : St) (o n : Nat) : (walOpen st o n).2.loose.length <= st.loose.length + n + n := by
 have h1 := made_few o (prs n (fun i => st.at (o + i)) (fun i => recount (st.at (o + i)) (kept (reads st o n)) i)) st
 have h2 := made_few o (prs n (fun i => recount (st.at (o + i)) (kept (reads st o n)) i) (fun i => blkOf (kept (reads st o n)) i)) (made o (prs n (fun i => st.at (o + i)) (fun i => recount (st.at (o + i)) (kept (reads st o n)) i)) st).2
 rw [prs_length] at h1 h2
 unfold walOpen
 split
 · show st.loose.length <= _; omega
 · split
   · show st.loose.length <= _; omega
   · split
     · show (made _ _ st).2.loose.length <= _; omega
     · split
       · show (made _ _ (made _ _ st).2).2.loose.length <= _; omega
       · show (made _ _ (made _ _ st).2).2.loose.length <= _; omega
theorem andT_few {A k : Nat} {r : Nat × St} {f : St -> Nat × St} (h : r.2.loose.length <= A) (hf : ∀ s,(f s).2.loose.length <= s.loose.length + k) : (andT r f).2.loose.length <= A + k := by
 unfold andT
 split
 · have := hf r.2; omega
 · omega
theorem putsT_few (o : Nat) (t : ByteArray) : ∀ (n i : Nat) (st : St),(putsT o t n i st).2.loose.length <= st.loose.length + n
 | 0,_,_ => Nat.le_refl _
 | n + 1,i,st => by
   have h := andT_few (k := n) (f := putsT o t n (i + 1)) (write_few st ((o + i : Nat) : Int) (blkT t i)) (fun s => putsT_few o t n (i + 1) s)
   show (andT _ (putsT o t n (i + 1))).2.loose.length <= _
   omega
theorem saveAt_few (a g : Nat) (t : ByteArray) (st : St) : (saveAt a g t st).2.loose.length <= st.loose.length + nb t.size + 2 := by
 have h := andT_few (k := 0) (andT_few (k := 1) (andT_few (k := 0) (andT_few (k := nb t.size) (f := putsT (a + 1) t (nb t.size) 0) (andT_few (k := 0) (write_few st (a : Int) zblock) (fun s => sync_few s)) (fun s => putsT_few (a + 1) t (nb t.size) 0 s)) (fun s => sync_few s)) (fun s => write_few s (a : Int) (headT g t))) (fun s => sync_few s)
 unfold saveAt
 omega
theorem save_few (st : St) (o n : Int) (g : Nat) (t : ByteArray) : (st.save o n g t).2.loose.length <= st.loose.length + nb t.size + 2 := by
 unfold St.save
 split
 · show st.loose.length <= _; omega
 · split
   · show st.loose.length <= _; omega
   · split
     · show st.loose.length <= _; omega
     · exact saveAt_few _ _ _ _
theorem stoAppend_few (st : St) (ck lg : Nat) (s : Sto) (t : ByteArray) : (stoAppend st ck lg s t).2.2.loose.length <= st.loose.length + lg := by
 have h := puts_few (lo ck lg s.gen) (prs lg (blkOf s.str) (blkOf (s.str ++ frm t))) 0 st
 rw [prs_length] at h
 unfold stoAppend
 split
 · show st.loose.length <= _; omega
 · show (walAppend st (lo ck lg s.gen) lg s.str t).2.2.loose.length <= _
   unfold walAppend
   split
   · show st.loose.length <= _; omega
   · split
     · show st.loose.length <= _; omega
     · split
       · exact h
       · exact h
theorem stoSync_few (st : St) (s : Sto) : (stoSync st s).2.2.loose.length <= st.loose.length := by
 unfold stoSync
 split
 · exact Nat.le_refl _
 · exact sync_few st
theorem stoTrim_few (st : St) (ck lg : Nat) (s : Sto) (t : ByteArray) : (stoTrim st ck lg s t).2.2.loose.length <= st.loose.length + 3 * lg + nb t.size + 2 := by
 have h1 := clear_few st (lo ck lg (s.gen + 1)) lg
 have h2 := save_few (walClear st (lo ck lg (s.gen + 1)) lg).2 0 (2 * (ck : Int)) (s.gen + 1) t
 have h3 := open_few ((walClear st (lo ck lg (s.gen + 1)) lg).2.save 0 (2 * (ck : Int)) (s.gen + 1) t).2 (lo ck lg (s.gen + 1)) lg
 unfold stoTrim
 split
 · show st.loose.length <= _; omega
 · split
   · show st.loose.length <= _; omega
   · split
     · show st.loose.length <= _; omega
     · split
       · show (walClear _ _ _).2.loose.length <= _; omega
       · split
         · show (St.save _ _ _ _ _).2.loose.length <= _; omega
         · split
           · show (walOpen _ _ _).2.loose.length <= _; omega
           · show (walOpen _ _ _).2.loose.length <= _; omega
theorem stoOpen_few (st : St) (ck lg : Int) : (stoOpen st ck lg).2.loose.length <= st.loose.length + lg.toNat + lg.toNat := by
 have h := open_few st (lo ck.toNat lg.toNat (st.load 0 (2 * ck)).1.1) lg.toNat
 unfold stoOpen
 split
 · show st.loose.length <= _; omega
 · split
   · show st.loose.length <= _; omega
   · split
     · exact h
     · exact h
theorem crash_few (st : St) (picks : List Int) : (st.crash picks).loose.length = 0 := rfl
end Go.Proofs.YtchhojkhfdkhfaaGreatDoor
