/- Joined texts. -/
import Derived.Test.YtchhojkhfdkhfaaGreatDoorP03
import Derived.Test.YtchhojkhfdkhfaaGreatDoorP25
namespace Go.Proofs.YtchhojkhfdkhfaaGreatDoor
open Frm
def Still (r : Nat × St) : Prop := r.1 ≠ 50 /\ r.2.left = -1
theorem counted_still : counted (-1) = -1 := by decide
theorem write_still {st : St} (h : st.left = -1) (b : Int) (d : ByteArray) : Still (st.write b d) := by
 unfold St.write
 rw [if_neg (by rw [h]; decide)]
 split
 · exact ⟨by show (5 : Nat) ≠ 50; decide,h⟩
 · split
   · exact ⟨by show (2 : Nat) ≠ 50; decide,h⟩
   · exact ⟨by show (0 : Nat) ≠ 50; decide,by show counted st.left = -1; rw [h,counted_still]⟩
theorem sync_still {st : St} (h : st.left = -1) : Still st.sync /\ st.sync.1 = 0 := by
 unfold St.sync
 rw [if_neg (by rw [h]; decide)]
 exact ⟨⟨by show (0 : Nat) ≠ 50; decide,by show counted st.left = -1; rw [h,counted_still]⟩,rfl⟩
theorem zeros_still : ∀ (n o : Nat) (st : St),st.left = -1 -> Still (zeros n o st)
 | 0,_,_,h => ⟨by show (0 : Nat) ≠ 50; decide,h⟩
 | n + 1,o,st,h => by
   unfold zeros
   split
   · exact zeros_still n _ _ (write_still h _ _).2
   · exact write_still h _ _
theorem clear_still {st : St} (h : st.left = -1) (o n : Nat) : Still (walClear st o n) := by
 unfold walClear
 split
 · exact zeros_still _ _ _ h
 · exact (sync_still (zeros_still _ _ _ h).2).1
theorem puts_still (o : Nat) : ∀ (l : List (ByteArray × ByteArray)) (i : Nat) (st : St),st.left = -1 -> Still (puts o l i st)
 | [],_,_,h => ⟨by show (0 : Nat) ≠ 50; decide,h⟩
 | x :: l,i,st,h => by
   unfold puts
   split
   · exact puts_still o l _ _ h
   · split
     · exact puts_still o l _ _ (write_still h _ _).2
     · exact write_still h _ _
theorem andT_still {r : Nat × St} {f : St -> Nat × St} (h : Still r) (hf : ∀ s,s.left = -1 -> Still (f s)) : Still (andT r f) := by
 unfold andT
 split
 · exact hf _ h.2
 · exact h
theorem putsT_still (o : Nat) (t : ByteArray) : ∀ (n i : Nat) (st : St),st.left = -1 -> Still (putsT o t n i st)
 | 0,_,_,h => ⟨by show (0 : Nat) ≠ 50; decide,h⟩
 | n + 1,i,_,h => andT_still (write_still h _ _) (fun s hs => putsT_still o t n (i + 1) s hs)
theorem saveAt_still {st : St} (h : st.left = -1) (a g : Nat) (t : ByteArray) : Still (saveAt a g t st) := by
 unfold saveAt
 exact andT_still (andT_still (andT_still (andT_still (andT_still (write_still h _ _) (fun s hs => (sync_still hs).1)) (fun s hs => putsT_still _ _ _ _ s hs)) (fun s hs => (sync_still hs).1)) (fun s hs => write_still hs _ _)) (fun s hs => (sync_still hs).1)
theorem save_still {st : St} (h : st.left = -1) (o n : Int) (g : Nat) (t : ByteArray) : Still (st.save o n g t) := by
 unfold St.save
 split
 · exact ⟨by show (2 : Nat) ≠ 50; decide,h⟩
 · split
   · exact ⟨by show (2 : Nat) ≠ 50; decide,h⟩
   · split
     · exact ⟨by show (4 : Nat) ≠ 50; decide,h⟩
     · exact saveAt_still h _ _ _
theorem made_still (o : Nat) (l : List (ByteArray × ByteArray)) {st : St} (h : st.left = -1) : Still (made o l st) := by
 unfold made
 split
 · exact puts_still _ _ _ _ h
 · split
   · exact ⟨by show (0 : Nat) ≠ 50; decide,(puts_still _ _ _ _ h).2⟩
   · exact (sync_still (puts_still _ _ _ _ h).2).1
theorem open_still {st : St} (h : st.left = -1) (o n : Nat) : (walOpen st o n).1.1 ≠ 50 /\ (walOpen st o n).2.left = -1 := by
 have h1 := made_still o (prs n (fun i => st.at (o + i)) (fun i => recount (st.at (o + i)) (kept (reads st o n)) i)) h
 have h2 := made_still o (prs n (fun i => recount (st.at (o + i)) (kept (reads st o n)) i) (fun i => blkOf (kept (reads st o n)) i)) h1.2
 unfold walOpen
 rw [if_neg (by rw [h]; decide)]
 split
 · exact ⟨by show (60 : Nat) ≠ 50; decide,h⟩
 · split
   · exact h1
   · split
     · exact h2
     · exact ⟨by show (0 : Nat) ≠ 50; decide,h2.2⟩
theorem append_still {st : St} (h : st.left = -1) (o n : Nat) (s t : ByteArray) : (walAppend st o n s t).1 ≠ 50 /\ (walAppend st o n s t).2.2.left = -1 := by
 have h1 := puts_still o (prs n (blkOf s) (blkOf (s ++ frm t))) 0 st h
 unfold walAppend
 split
 · exact ⟨by show (4 : Nat) ≠ 50; decide,h⟩
 · split
   · exact ⟨by show (6 : Nat) ≠ 50; decide,h⟩
   · split
     · exact h1
     · exact ⟨by show (0 : Nat) ≠ 50; decide,h1.2⟩
theorem Hale.append_still {ck lg L : Nat} {st : St} {p : Past} (hc : Conf ck lg L) (h : Hale ck lg L st p) (hl : st.left = -1) (t : ByteArray) (ht : t.size <= 65536) (hf : (cat p.all).size + (t.size + 8) <= lg * 255) :
   ∃ st',stoAppend st ck lg ⟨p.gen,cat p.all,false⟩ t = (0,⟨p.gen,cat (p.all ++ [t]),false⟩,st') /\ Hale ck lg L st' ⟨p.gen,p.text,p.all ++ [t],p.sure⟩ /\ st'.left = -1 := by
 have hs := Go.Proofs.YtchhojkhfdkhfaaGreatDoor.append_still hl (lo ck lg p.gen) lg (cat p.all) t
 have hu : stoAppend st ck lg ⟨p.gen,cat p.all,false⟩ t = ((walAppend st (lo ck lg p.gen) lg (cat p.all) t).1,Sto.told ⟨p.gen,(walAppend st (lo ck lg p.gen) lg (cat p.all) t).2.1,false⟩ (walAppend st (lo ck lg p.gen) lg (cat p.all) t).1,(walAppend st (lo ck lg p.gen) lg (cat p.all) t).2.2) := by
   unfold stoAppend
   rw [if_neg (by simp)]
 rcases h.append hc t with ⟨c,h1,h2⟩ | ⟨st',h1,h2⟩ | ⟨st',h1,_⟩
 · have e : (walAppend st (lo ck lg p.gen) lg (cat p.all) t).1 = c := by rw [hu] at h2; exact (Prod.mk.inj h2).1
   unfold walAppend at e
   rw [if_neg (by omega),if_neg (by omega)] at e
   exfalso
   rcases puts_some (lo ck lg p.gen) (prs lg (blkOf (cat p.all)) (blkOf (cat p.all ++ frm t))) 0 st (by rw [prs_length]; have := h.long; have := lo_fit hc p.gen; omega) (prs_full fun k _ => blkOf_size _ _) with ⟨W,c',p1,p2,p3,_⟩
   split at e
   · have e : (puts (lo ck lg p.gen) (prs lg (blkOf (cat p.all)) (blkOf (cat p.all ++ frm t))) 0 st).1 = c := e
     rcases p3 with h5 | h5
     · have := h5.1; omega
     · have : (puts (lo ck lg p.gen) (prs lg (blkOf (cat p.all)) (blkOf (cat p.all ++ frm t))) 0 st).1 = 50 := h5; omega
   · have e : (0 : Nat) = c := e
     omega
 · refine ⟨st',h1,h2,?_⟩
   rw [hu] at h1
   rw [<- (Prod.mk.inj (Prod.mk.inj h1).2).2]
   exact hs.2
 · rw [hu] at h1
   exact absurd (Prod.mk.inj h1).1 hs.1
theorem Hale.sync_still {ck lg L : Nat} {st : St} {p : Past} (hc : Conf ck lg L) (h : Hale ck lg L st p) (hl : st.left = -1) :
   ∃ st',stoSync st ⟨p.gen,cat p.all,false⟩ = (0,⟨p.gen,cat p.all,false⟩,st') /\ Hale ck lg L st' ⟨p.gen,p.text,p.all,p.all.length⟩ /\ st'.left = -1 := by
 have hs := Go.Proofs.YtchhojkhfdkhfaaGreatDoor.sync_still hl
 have hu : stoSync st ⟨p.gen,cat p.all,false⟩ = (st.sync.1,Sto.told ⟨p.gen,cat p.all,false⟩ st.sync.1,st.sync.2) := by
   unfold stoSync
   rw [if_neg (by simp)]
 rcases h.sync hc with ⟨st',h1,h2⟩ | h1
 · refine ⟨st',h1,h2,?_⟩
   rw [hu] at h1
   rw [<- (Prod.mk.inj (Prod.mk.inj h1).2).2]
   exact hs.1.2
 · rw [hu] at h1
   exact absurd (Prod.mk.inj h1).1 hs.1.1
theorem Hale.trim_still {ck lg L : Nat} {st : St} {p : Past} (hc : Conf ck lg L) (h : Hale ck lg L st p) (hl : st.left = -1) (hg : 1 <= p.gen /\ p.gen < 4611686018427387904) (t : ByteArray) (ht : t.size <= (ck - 1) * 256) :
   ∃ st',stoTrim st ck lg ⟨p.gen,cat p.all,false⟩ t = (0,⟨p.gen + 1,cat [],false⟩,st') /\ Hale ck lg L st' ⟨p.gen + 1,t,[],0⟩ /\ st'.left = -1 := by
 have h2 := hc.ck2
 have h256 := hc.ck256
 have hr : room (2 * (ck : Int)) = ((2 * (ck : Int)) / 2 - 1) * 256 := by unfold room; rw [if_neg (by omega)]
 have k1 := clear_still hl (lo ck lg (p.gen + 1)) lg
 have k2 := save_still k1.2 0 (2 * (ck : Int)) (p.gen + 1) t
 have k3 := open_still k2.2 (lo ck lg (p.gen + 1)) lg
 have hs : (stoTrim st ck lg ⟨p.gen,cat p.all,false⟩ t).1 ≠ 50 /\ (stoTrim st ck lg ⟨p.gen,cat p.all,false⟩ t).2.2.left = -1 := by
   unfold stoTrim
   rw [if_neg (by simp),if_neg (show ¬ 4611686018427387904 <= p.gen by omega)]
   split
   · exact ⟨by show (4 : Nat) ≠ 50; decide,hl⟩
   · split
     · exact ⟨k1.1,k1.2⟩
     · split
       · exact ⟨k2.1,k2.2⟩
       · split
         · exact ⟨k3.1,k3.2⟩
         · exact ⟨by show (0 : Nat) ≠ 50; decide,k3.2⟩
 rcases h.trim hc hg t with ⟨h1,_⟩ | ⟨st',h1,h2⟩ | ⟨st',h1,_⟩
 · rw [hr] at h1; omega
 · refine ⟨st',h1,h2,?_⟩
   have := hs.2
   rw [h1] at this
   exact this
 · have := hs.1
   rw [h1] at this
   exact absurd rfl this
theorem crash_nothing {st : St} (h : st.Ok) : st.crash [] = ⟨st.sure,[], -1⟩ := by
 unfold St.crash
 rw [crashed_nothing _ _ _ h.there]
theorem Hale.bare {ck lg L : Nat} {st : St} {p : Past} (h : Hale ck lg L st p) : Found ck lg st.sure ⟨p.gen,p.text,p.all.take p.sure,p.sure⟩ := by
 have hs := h.well.hold.some
 have hlt : (p.all.take p.sure).length = p.sure := by rw [List.length_take]; omega
 have hle := ends_le p.all p.sure
 have hfit := h.well.hold.fits
 have hct := cat_take p.all p.sure
 refine ⟨h.keep,⟨fun t ht => h.well.hold.short t (List.mem_of_mem_take ht),?_,by show p.sure <= (p.all.take p.sure).length; omega⟩,fun k hk => ?_⟩
 · show (cat (p.all.take p.sure)).size <= lg * 255
   unfold ends at hle
   omega
 · show Fine (cat (p.all.take p.sure)) (ends (p.all.take p.sure) p.sure) k (st.sure.getD (lo ck lg p.gen + k) noText)
   rw [h.well.hold.sure k hk]
   refine ⟨(cat (p.all.take p.sure)).size,ends_le _ _,Nat.le_refl _,?_⟩
   have := Good.pre (cat (p.all.take p.sure)) k (cat (p.all.take p.sure)).size (Nat.le_refl _)
   rw [pre_all] at this
   exact this
theorem Hale.crash_open {ck lg L : Nat} {st : St} {p : Past} (hc : Conf ck lg L) (h : Hale ck lg L st p) (hg : 1 <= p.gen /\ p.gen <= 4611686018427387904) :
   ∃ st',stoOpen (st.crash []) (ck : Int) (lg : Int) = ((0,p.gen,p.text,cat (p.all.take p.sure),p.all.take p.sure),st') /\ Hale ck lg L st' ⟨p.gen,p.text,p.all.take p.sure,p.sure⟩ /\ st'.left = -1 := by
 have hs := h.well.hold.some
 have hlt : (p.all.take p.sure).length = p.sure := by rw [List.length_take]; omega
 rw [crash_nothing h.ok]
 obtain ⟨r,st',h1,h2,h3,h4,h5⟩ := h.bare.open hc h.long hg
 have h1 : p.sure <= r := h1
 have h2 : r <= (p.all.take p.sure).length := h2
 have hr : r = p.sure := by omega
 subst hr
 simp only [List.take_take,Nat.min_self] at h3 h4
 exact ⟨st',h3,h4,h5⟩
theorem keepS_first (N : Nat) (h4 : 4 <= N) (S : List ByteArray) (hfull : ∀ x ∈ S,x.size = 256) (hlen : N <= S.length) (hz : S.getD 0 noText = zblock) (t : ByteArray) (ht : t.size <= (N / 2 - 1) * 256) :
   ∃ S',saveAt (slN N 1) 1 t ⟨S,[], -1⟩ = (0,⟨S',[], -1⟩) /\ S'.length = S.length /\ KeepS N S' 1 t /\ ∀ j,N <= j -> S'.getD j noText = S.getD j noText := by
 have hnb := nb_fit ht h4
 have h1 : slN N 1 = N / 2 := by unfold slN; simp
 have h0 : slN N (1 + 1) = 0 := by unfold slN; simp
 rcases save_cases (slN N 1) 1 t S (-1) (by omega) (by omega) with ⟨l2,e,b1,b2⟩ | ⟨l2,e,b1,b2⟩ | ⟨j,l2,hj,e,b1,b2⟩ | ⟨l2,e,b1,b2⟩ | ⟨l2,e,b1⟩ | ⟨l2,e,b1⟩
 · omega
 · omega
 · omega
 · omega
 · omega
 · have hl2 : l2 = -1 := by omega
   subst hl2
   have hS1 : ∀ x ∈ S.set (slN N 1) zblock,x.size = 256 := full_set hfull _ _ zblock_size
   have hS2 : ∀ x ∈ laid (S.set (slN N 1) zblock) (tws (slN N 1 + 1) t 0 (nb t.size)),x.size = 256 := laid_full _ _ hS1 (fun w hw => (tws_mem hw).2.2)
   have hl2 : (laid (S.set (slN N 1) zblock) (tws (slN N 1 + 1) t 0 (nb t.size))).length = S.length := by rw [laid_length,List.length_set]
   refine ⟨_,e,by rw [List.length_set,hl2],⟨full_set hS2 _ _ (headT_size _ _),by rw [List.length_set,hl2]; exact hlen,ht,getD_set_same _ _ _ (by omega),fun i hi => ?_,?_⟩,fun j hj => ?_⟩
   · rw [getD_set_other _ _ _ _ (by omega)]
     exact laid_tws _ t (nb t.size) 0 _ (by rw [List.length_set]; omega) i (by omega) (by omega)
   · rw [h0,getD_set_other _ _ _ _ (by omega),laid_other7 _ _ _ (fun w hw => by have := tws_mem hw; omega),getD_set_other _ _ _ _ (by omega),hz]
     exact Oth.zero
   · rw [getD_set_other _ _ _ _ (by omega),laid_other7 _ _ _ (fun w hw => by have := tws_mem hw; omega),getD_set_other _ _ _ _ (by omega)]
theorem load_none (S : List ByteArray) (N : Nat) (h4 : 4 <= N) (hN : N <= 4096) (he : N % 2 = 0) (hl : N <= S.length) (hz : ∀ j,j < N -> S.getD j noText = zblock) : (⟨S,[], -1⟩ : St).load 0 (N : Int) = ((0,noText),5) := by
 have hr : room (N : Int) ≠ 0 := by unfold room; rw [if_neg (by omega)]; omega
 have hm : (⟨S,[], -1⟩ : St).mayC 0 (N : Int) := ⟨hr,by omega,by show (0 : Int) <= (S.length : Int) - N; omega⟩
 have hw : ∀ a k odd,0 < k -> a + k <= N -> (wholeT (blocksAt ⟨S,[], -1⟩ a k) odd).1 = 0 := fun a k odd hk ha => by
   have := whole_less (blocksAt ⟨S,[], -1⟩ a k) odd 1 (by decide) (by
     rw [blocks_getD _ _ _ 0 hk rfl]
     show Oth (S.getD (a + 0) noText) 1
     rw [hz _ (by omega)]
     exact Oth.zero)
   omega
 have hs : ∀ k,slotAt 0 (N : Int) k = slN N k := fun k => by unfold slotAt slN; simp
 have h0 := slN_le N 0
 have h1 := slN_le N 1
 unfold St.load
 rw [if_neg (fun hh => hh hm),if_neg (show ¬ (-1 : Int) = 0 by decide)]
 simp only [hs,Int.toNat_natCast]
 rw [if_pos ⟨hw _ _ _ (by omega) (by omega),hw _ _ _ (by omega) (by omega)⟩]
theorem new_at (L j : Nat) (h : j < L) : (List.replicate L zblock).getD j noText = zblock := by
 rw [List.getD_eq_getElem?_getD,List.getElem?_replicate,if_pos h]
 rfl
theorem make_new {ck lg L : Nat} (hc : Conf ck lg L) : ∃ st',stoMake (St.new L) (ck : Int) (lg : Int) = (0,st') /\ Hale ck lg L st' ⟨1,noText,[],0⟩ /\ st'.loose = [] /\ st'.left = -1 := by
 have h2 := hc.ck2
 have h256 := hc.ck256
 have hfit := hc.fit
 have hlf := lo_fit hc 1
 have hL : (List.replicate L zblock).length = L := List.length_replicate ..
 have hfull : ∀ x ∈ List.replicate L zblock,x.size = 256 := fun x hx => by rw [List.eq_of_mem_replicate hx]; exact zblock_size
 have hok : (St.new L).Ok := ⟨by show (List.replicate L zblock).length <= 4096; rw [hL]; exact hc.few,by show 1 <= (List.replicate L zblock).length; rw [hL]; omega,hfull,fun w hw => absurd hw (by simp [St.new]),⟨Int.le_refl (-1),by show (-1 : Int) <= 9223372036854775807; decide⟩⟩
 have e2 : (2 * (ck : Int)) = ((2 * ck : Nat) : Int) := by omega
 have hld := load_none (List.replicate L zblock) (2 * ck) (by omega) (by omega) (by omega) (by rw [hL]; omega) (fun j hj => new_at L j (by omega))
 have k1 := clear_still (st := St.new L) rfl (lo ck lg 1) lg
 have hokC := clear_ok hok (lo ck lg 1) lg
 unfold stoMake
 rw [if_neg (fun x => x (conf_may hc _ hL)),e2]
 rw [show (St.new L).load 0 ((2 * ck : Nat) : Int) = ((0,noText),5) from hld]
 rw [if_neg (by decide),if_neg (fun x => x rfl),Int.toNat_natCast,Int.toNat_natCast]
 rcases clear_cases (lo ck lg 1) lg (St.new L) (by show _ <= (List.replicate L zblock).length; rw [hL]; omega) with ⟨W,c,e,hW⟩ | ⟨c,e⟩
 · rw [e] at k1
   exact absurd rfl k1.1
 · rw [e] at k1 hokC ⊢
   have hcl : c = -1 := k1.2
   subst hcl
   have hrep : ∀ j,j < L -> (laid (laid (St.new L).sure (St.new L).loose) (zw (lo ck lg 1) lg)).getD j noText = zblock := fun j hj => by
     by_cases hin : lo ck lg 1 <= j /\ j < lo ck lg 1 + lg
     · have := laid_zw lg (lo ck lg 1) (laid (St.new L).sure (St.new L).loose) (by rw [laid_length]; show _ <= (List.replicate L zblock).length; rw [hL]; omega) (j - lo ck lg 1) (by omega)
       rw [show lo ck lg 1 + (j - lo ck lg 1) = j from by omega] at this
       exact this
     · rw [laid_other7 _ _ _ (fun w hw => by have := zw_mem hw; omega)]
       exact new_at L j hj
   obtain ⟨S1,hS1⟩ : ∃ S1,S1 = laid (laid (St.new L).sure (St.new L).loose) (zw (lo ck lg 1) lg) := ⟨_,rfl⟩
   have hlen1 : S1.length = L := by rw [hS1,laid_length,laid_length]; exact hL
   simp only [<- hS1] at hokC hrep ⊢
   obtain ⟨S',q1,q2,q3,q4⟩ := keepS_first (2 * ck) (by omega) S1 hokC.full (by omega) (hrep 0 (by omega)) noText (Nat.zero_le _)
   have hsv : (⟨S1,[], -1⟩ : St).save 0 ((2 * ck : Nat) : Int) 1 noText = (0,⟨S',[], -1⟩) := by
     rw [<- e2,save_is h2 h256 (by show 2 * ck <= S1.length; omega) (by decide) (Nat.zero_le _)]
     exact q1
   have hz : ∀ k,k < lg -> S'.getD (lo ck lg 1 + k) noText = blkOf (cat []) k := fun k hk => by
     rw [q4 _ (by omega),hrep _ (by omega),zeros_good]
   have hokS : (⟨S',[], -1⟩ : St).Ok := by
     have := saveAt_ok hokC (slN (2 * ck) 1) 1 noText
     rw [q1] at this
     exact this
   refine ⟨⟨S',[], -1⟩,?_,⟨hokS,by show S'.length = L; omega,q3,⟨⟨fun x hx => absurd hx (by simp),Nat.zero_le _,Nat.le_refl _,by show lo ck lg 1 + lg <= S'.length; omega,hz,trivial⟩,hz,fun w hw => absurd hw (by simp)⟩⟩,rfl,rfl⟩
   unfold andT
   rw [if_pos rfl]
   exact hsv
theorem make_there {ck lg L : Nat} {st : St} {p : Past} (hc : Conf ck lg L) (h : Hale ck lg L st p) (hl : st.loose = []) (hf : st.left = -1) (hg : 1 <= p.gen /\ p.gen <= 4611686018427387904) : stoMake st (ck : Int) (lg : Int) = (7,st) := by
 have h2 := hc.ck2
 have h256 := hc.ck256
 obtain ⟨S,l,c⟩ := st
 have hl : l = [] := hl
 have hf : c = -1 := hf
 subst hl hf
 have e2 : (2 * (ck : Int)) = ((2 * ck : Nat) : Int) := by omega
 have hld := h.keep.load (-1) (by decide) (by omega) (by omega) (by omega) hg
 unfold stoMake
 rw [if_neg (fun x => x (conf_may hc _ h.long)),e2,hld,if_pos rfl]
theorem Hale.open_bare {ck lg L : Nat} {st : St} {p : Past} (hc : Conf ck lg L) (h : Hale ck lg L st p) (hl : st.loose = []) (hf : st.left = -1) (hs : p.sure = p.all.length) (hg : 1 <= p.gen /\ p.gen <= 4611686018427387904) :
   ∃ st',stoOpen st (ck : Int) (lg : Int) = ((0,p.gen,p.text,cat p.all,p.all),st') /\ Hale ck lg L st' ⟨p.gen,p.text,p.all,p.all.length⟩ /\ st'.left = -1 := by
 have e : st.crash [] = st := by
   rw [crash_nothing h.ok]
   obtain ⟨S,l,c⟩ := st
   have hl : l = [] := hl
   have hf : c = -1 := hf
   subst hl hf
   rfl
 have := h.crash_open hc hg
 rw [e,hs,List.take_length] at this
 exact this
theorem conf82 : Conf 2 2 8 := ⟨by decide,by decide,by decide,by decide,by decide,by decide⟩
def aT : ByteArray := ⟨#[97]⟩
def bT8 : ByteArray := ⟨#[98]⟩
def cT8 : ByteArray := ⟨#[99]⟩
def xyT : ByteArray := ⟨#[120,121]⟩
structure G8 (st : St) : Prop where
 ok : st.Ok
 long : st.sure.length = 8
 few : st.loose.length <= 1000
structure Chain (st1 st2 st3 st4 st5 st6 st7 st8 st9 st10 : St) : Prop where
 g1 : G8 st1
 g2 : G8 st2
 g3 : G8 st3
 g4 : G8 st4
 g5 : G8 st5
 g6 : G8 st6
 g7 : G8 st7
 g8 : G8 st8
 g9 : G8 st9
 g10 : G8 st10
 c5 : G8 (st5.crash [])
 c9 : G8 (st9.crash [])
 m1 : stoMake (St.new 8) 2 2 = (0,st1)
 m2 : stoMake st1 2 2 = (7,st1)
 o1 : stoOpen st1 2 2 = ((0,1,noText,cat [],[]),st2)
 a1 : stoAppend st2 2 2 ⟨1,cat [],false⟩ aT = (0,⟨1,cat [aT],false⟩,st3)
 y1 : stoSync st3 ⟨1,cat [aT],false⟩ = (0,⟨1,cat [aT],false⟩,st4)
 a2 : stoAppend st4 2 2 ⟨1,cat [aT],false⟩ bT8 = (0,⟨1,cat [aT,bT8],false⟩,st5)
 o2 : stoOpen (st5.crash []) 2 2 = ((0,1,noText,cat [aT],[aT]),st6)
 t1 : stoTrim st6 2 2 ⟨1,cat [aT],false⟩ xyT = (0,⟨2,cat [],false⟩,st7)
 a3 : stoAppend st7 2 2 ⟨2,cat [],false⟩ cT8 = (0,⟨2,cat [cT8],false⟩,st8)
 y2 : stoSync st8 ⟨2,cat [cT8],false⟩ = (0,⟨2,cat [cT8],false⟩,st9)
 o3 : stoOpen (st9.crash []) 2 2 = ((0,2,xyT,cat [cT8],[cT8]),st10)
theorem crash_g8 {st : St} (h : G8 st) : G8 (st.crash []) := ⟨h.ok.crash [],by rw [crash_nothing h.ok]; exact h.long,by rw [crash_few]; decide⟩
theorem toNat2 : (2 : Int).toNat = 2 := rfl
theorem chain : ∃ st1 st2 st3 st4 st5 st6 st7 st8 st9 st10,Chain st1 st2 st3 st4 st5 st6 st7 st8 st9 st10 := by
 obtain ⟨st1,e1,h1,l1,f1⟩ := make_new conf82
 have e1 : stoMake (St.new 8) 2 2 = (0,st1) := e1
 have t1 : stoMake st1 2 2 = (7,st1) := make_there conf82 h1 l1 f1 (by decide)
 have g1 : G8 st1 := ⟨h1.ok,h1.long,by rw [l1]; decide⟩
 obtain ⟨st2,e2,h2,f2⟩ := h1.open_bare conf82 l1 f1 rfl (by decide)
 have e2 : stoOpen st1 2 2 = ((0,1,noText,cat [],[]),st2) := e2
 have h2 : Hale 2 2 8 st2 ⟨1,noText,[],0⟩ := h2
 have g2 : G8 st2 := ⟨h2.ok,h2.long,by have := stoOpen_few st1 2 2; rw [e2,toNat2,l1] at this; exact Nat.le_trans this (by decide)⟩
 obtain ⟨st3,e3,h3,f3⟩ := h2.append_still conf82 f2 aT (by decide) (by decide)
 have e3 : stoAppend st2 2 2 ⟨1,cat [],false⟩ aT = (0,⟨1,cat [aT],false⟩,st3) := e3
 have h3 : Hale 2 2 8 st3 ⟨1,noText,[aT],0⟩ := h3
 have q3 : st3.loose.length <= st2.loose.length + 2 := by have := stoAppend_few st2 2 2 ⟨1,cat [],false⟩ aT; rw [e3] at this; exact this
 have q2 : st2.loose.length <= 4 := by have := stoOpen_few st1 2 2; rw [e2,toNat2,l1] at this; exact this
 obtain ⟨st4,e4,h4,f4⟩ := h3.sync_still conf82 f3
 have e4 : stoSync st3 ⟨1,cat [aT],false⟩ = (0,⟨1,cat [aT],false⟩,st4) := e4
 have h4 : Hale 2 2 8 st4 ⟨1,noText,[aT],1⟩ := h4
 have q4 : st4.loose.length <= st3.loose.length := by have := stoSync_few st3 ⟨1,cat [aT],false⟩; rw [e4] at this; exact this
 obtain ⟨st5,e5,h5,f5⟩ := h4.append_still conf82 f4 bT8 (by decide) (by decide)
 have e5 : stoAppend st4 2 2 ⟨1,cat [aT],false⟩ bT8 = (0,⟨1,cat [aT,bT8],false⟩,st5) := e5
 have h5 : Hale 2 2 8 st5 ⟨1,noText,[aT,bT8],1⟩ := h5
 have q5 : st5.loose.length <= st4.loose.length + 2 := by have := stoAppend_few st4 2 2 ⟨1,cat [aT],false⟩ bT8; rw [e5] at this; exact this
 have g5 : G8 st5 := ⟨h5.ok,h5.long,by omega⟩
 obtain ⟨st6,e6,h6,f6⟩ := h5.crash_open conf82 (by decide)
 have e6 : stoOpen (st5.crash []) 2 2 = ((0,1,noText,cat [aT],[aT]),st6) := e6
 have h6 : Hale 2 2 8 st6 ⟨1,noText,[aT],1⟩ := h6
 have q6 : st6.loose.length <= 4 := by have := stoOpen_few (st5.crash []) 2 2; rw [e6,toNat2,crash_few] at this; exact this
 obtain ⟨st7,e7,h7,f7⟩ := h6.trim_still conf82 f6 (by decide) xyT (by decide)
 have e7 : stoTrim st6 2 2 ⟨1,cat [aT],false⟩ xyT = (0,⟨2,cat [],false⟩,st7) := e7
 have h7 : Hale 2 2 8 st7 ⟨2,xyT,[],0⟩ := h7
 have q7 : st7.loose.length <= st6.loose.length + 6 + 1 + 2 := by have := stoTrim_few st6 2 2 ⟨1,cat [aT],false⟩ xyT; rw [e7] at this; exact this
 obtain ⟨st8,e8,h8,f8⟩ := h7.append_still conf82 f7 cT8 (by decide) (by decide)
 have e8 : stoAppend st7 2 2 ⟨2,cat [],false⟩ cT8 = (0,⟨2,cat [cT8],false⟩,st8) := e8
 have h8 : Hale 2 2 8 st8 ⟨2,xyT,[cT8],0⟩ := h8
 have q8 : st8.loose.length <= st7.loose.length + 2 := by have := stoAppend_few st7 2 2 ⟨2,cat [],false⟩ cT8; rw [e8] at this; exact this
 obtain ⟨st9,e9,h9,f9⟩ := h8.sync_still conf82 f8
 have e9 : stoSync st8 ⟨2,cat [cT8],false⟩ = (0,⟨2,cat [cT8],false⟩,st9) := e9
 have h9 : Hale 2 2 8 st9 ⟨2,xyT,[cT8],1⟩ := h9
 have q9 : st9.loose.length <= st8.loose.length := by have := stoSync_few st8 ⟨2,cat [cT8],false⟩; rw [e9] at this; exact this
 have g9 : G8 st9 := ⟨h9.ok,h9.long,by omega⟩
 obtain ⟨st10,e10,h10,f10⟩ := h9.crash_open conf82 (by decide)
 have e10 : stoOpen (st9.crash []) 2 2 = ((0,2,xyT,cat [cT8],[cT8]),st10) := e10
 have q10 : st10.loose.length <= 4 := by have := stoOpen_few (st9.crash []) 2 2; rw [e10,toNat2,crash_few] at this; exact this
 exact ⟨st1,st2,st3,st4,st5,st6,st7,st8,st9,st10,⟨g1,g2,⟨h3.ok,h3.long,by omega⟩,⟨h4.ok,h4.long,by omega⟩,g5,⟨h6.ok,h6.long,by omega⟩,⟨h7.ok,h7.long,by omega⟩,⟨h8.ok,h8.long,by omega⟩,g9,⟨h10.ok,h10.long,by omega⟩,crash_g8 g5,crash_g8 g9,e1,t1,e2,e3,e4,e5,e6,e7,e8,e9,e10⟩⟩
end Go.Proofs.YtchhojkhfdkhfaaGreatDoor
