/- Maps whose keys are ballots; 'm[k]++'. -/
import Derived.Test.YtmpabcojdkpiaaaMapKit
import Derived.Test.YtmpabcojdkpiaaaCon
import Derived.DeepKeys4
import Derived.WideKeyEntry
namespace Go.Proofs.Ytmpabcojdkpiaaa
open Go Go.RowKit
open Go.Maps (Keyed)

theorem lawB : WideMaps.KeyLaw Try.prog 24 := deep_law_laid (by kernel_rfl : laidOutB Try.prog = true) (m := 3) (by omega) (of_decide_eq_true (by kernel_rfl)) (by kernel_rfl) (by rw [Try.underlying24])
theorem keyedB : Keyed Try.prog 24 := Keyed.of_law lawB
def kB (b : Bl) : Lit := .string (keyBytes [.int .u64 (b.r : Int), .int .i64 b.n])
theorem wf_i64 {a : Int} (h : I64 a) : (Lit.int .i64 a).wf = true := by
  obtain ⟨h1, h2⟩ := h
  simp [Lit.wf, IntKind.min, IntKind.max, IntKind.signed, IntKind.bits]
  omega
theorem wf_u64 {a : Nat} (h : a < 18446744073709551616) : (Lit.int .u64 (a : Int)).wf = true := by
  simp [Lit.wf, IntKind.min, IntKind.max, IntKind.signed, IntKind.bits]
  omega
theorem key_B {b : Bl} (hb : b.Ok) : keyOf Try.prog 24 (.agg #[.int .u64 (b.r : Int), .int .i64 b.n]) = some (kB b) := by
  have wa := wf_u64 hb.1
  have wb := wf_i64 hb.2
  have hkt : Try.prog.keyType 24 = true := by kernel_rfl
  have hc : Try.prog.cellsOf 24 = 2 := by kernel_rfl
  have h1 : Try.prog.cellsOf 3 = 1 := by kernel_rfl
  have h2 : Try.prog.cellsOf 22 = 1 := by kernel_rfl
  have hpos : 0 < Try.prog.types.size := of_decide_eq_true (by kernel_rfl)
  obtain ⟨m, hm⟩ : ∃ m, Try.prog.types.size = m + 1 := ⟨Try.prog.types.size - 1, by omega⟩
  unfold keyOf
  simp only [Try.underlying24]
  rw [if_pos (by simp [hkt, Value.formed, Try.underlying24, hc]), hm]
  unfold Program.keyLits
  simp only [Try.underlying24, Value.cells]
  rw [if_pos (by rw [hc]; exact ⟨rfl, by kernel_rfl⟩)]
  simp [Program.keyLits, Try.underlying3, Try.underlying22, wa, wb, h1, h2, kB]
theorem kB_inj {a b : Bl} (ha : a.Ok) (hb : b.Ok) (h : kB a = kB b) : a = b := by
  have h1 := key_B ha
  rw [h] at h1
  have := keyedB.inj h1 (key_B hb)
  obtain ⟨r, n⟩ := a
  obtain ⟨s, m⟩ := b
  simp at this
  rw [Bl.mk.injEq]
  omega
theorem kB_lit (b : Bl) : WideAt.IsKeyLit (kB b) := trivial
/-- 'm[k]++' at a key that is not there: the entry is made, read, and stored. -/
theorem bump {t k e : TypeId} (K : WideMaps.KeyLaw Try.prog k) (ht : Try.prog.underlying t = some (.map k e)) {z : Value} (hz : ∀ w, (zeroValue e).run Try.prog w = .ok z w) {w : World} {b n : Nat} {f : Lit → Option Value} (h : MAt w k b n f) (hn : n < maxLen) {key : Value} {kl : Lit} (hkey : keyOf Try.prog k key = some kl) (hf : (f kl).getD z = z) :
    ∃ (v0 : Value) (st : Nat) (w1 : World), (Instr.mapEntry t (.map (some b)) key).run Try.prog w = .ok (.tuple #[v0, .int .i64 (st : Int)]) w1 ∧ (Instr.lookup t (.map (some b)) key false).run Try.prog w1 = .ok z w1 ∧ (∀ i, i ≠ b → w1.heap[i]? = w.heap[i]?) ∧
      ∀ val, ∃ w2, (Instr.entryStore t (.map (some b)) (.int .i64 (st : Int)) val).run Try.prog w1 = .ok () w2 ∧ MAt w2 k b (n + 1) (putF f kl val) ∧ w.mapTurned w2 b := by
  have KK : Keyed Try.prog k := Keyed.of_law K
  have h0 := h
  obtain ⟨D, hown, hL⟩ := h
  have hown' := hown
  obtain ⟨es, clock, hb, F, hs, hD⟩ := hown
  obtain ⟨v0, st, es1, clock1, hE, -, hS⟩ := WideElems.entry_then_store K ht hz hb F hkey
  refine ⟨v0, st, ChangeMaps.setBlock w b (.map es1 clock1), hE, ?_, fun i hi => ?_, fun val => ?_⟩
  · rcases K.find w hkey es.toList F.keys with ⟨h1, h2⟩ | ⟨j, e0, h1, h2, h3⟩
    · have hE' : (Instr.mapEntry t (.map (some b)) key).run Try.prog w = .ok (.tuple #[z, goInt clock]) (ChangeMaps.setBlock w b (.map (es.push ⟨key, z, clock⟩) (clock + 1))) := by
        simp [Instr.mapEntry, run_underlying ht, MapKept.run_getObj_map hb, K.check w false hkey, h1, hz, MapKept.run_setObj_map _ hb, Result.andThen, ChangeMaps.setBlock]
      have hU : (Instr.mapUpdate t (.map (some b)) key z).run Try.prog w = .ok () (ChangeMaps.setBlock w b (.map (es.push ⟨key, z, clock⟩) (clock + 1))) := by
        simp [Instr.mapUpdate, run_underlying ht, MapKept.run_getObj_map hb, K.check w false hkey, h1, MapKept.run_setObj_map _ hb, Result.andThen, ChangeMaps.setBlock]
      have hw := (Result.ok.inj (hE.symm.trans hE')).2
      obtain ⟨w', hrun, hown2, -⟩ := hown'.store KK ht hn hkey (val := z) (d := .held z) (ps := []) rfl
      have hw2 := (Result.ok.inj (hU.symm.trans hrun)).2
      rw [hw, hw2]
      refine look_run KK ht hz (f := putF f kl z) ⟨_, hown2, hL.put hown'.isMap (KK.key hkey) z⟩ hkey ?_
      simp [putF, WideAt.sameKey_self (KK.key hkey)]
    · have hj : es[j]? = some e0 := by simpa using h2
      have hsame : es.modify j (fun e => { e with key := key }) = es := by
        apply Array.ext'
        rw [Array.toList_modify, ChangeMaps.modify_eq_set _ _ _ _ h2]
        have : ({ e0 with key := key } : MapEntry) = e0 := by rw [← h3]
        rw [this]
        exact WideElems.set_self _ _ _ h2
      have hE' : (Instr.mapEntry t (.map (some b)) key).run Try.prog w = .ok (.tuple #[e0.val, goInt e0.born]) (ChangeMaps.setBlock w b (.map es clock)) := by
        simp [Instr.mapEntry, run_underlying ht, MapKept.run_getObj_map hb, K.check w false hkey, h1, hj, h3, K.stays w hkey, hsame, MapKept.run_setObj_map _ hb, Result.andThen, ChangeMaps.setBlock]
      have hw := (Result.ok.inj (hE.symm.trans hE')).2
      rw [hw]
      exact look_run KK ht hz (f := f) (h0.same ((ChangeMaps.heap_setBlock_same hb _).trans hb.symm)) hkey hf
  · exact ChangeMaps.heap_setBlock_other hb _ hi
  · obtain ⟨es', clock', h1, h2⟩ := hS (ChangeMaps.setBlock w b (.map es1 clock1)) val (ChangeMaps.heap_setBlock_same hb _)
    obtain ⟨w', hrun, hown2, hturn⟩ := hown'.store KK ht hn hkey (val := val) (d := .held val) (ps := []) rfl
    have hw := (Result.ok.inj (h2.symm.trans hrun)).2
    refine ⟨w', ?_, ⟨_, hown2, hL.put hown'.isMap (KK.key hkey) val⟩, hturn⟩
    rw [← hw]
    rw [show ChangeMaps.setBlock w b (.map es' clock') = ChangeMaps.setBlock (ChangeMaps.setBlock w b (.map es1 clock1)) b (.map es' clock') from by simp [ChangeMaps.setBlock]]
    exact h1
end Go.Proofs.Ytmpabcojdkpiaaa
