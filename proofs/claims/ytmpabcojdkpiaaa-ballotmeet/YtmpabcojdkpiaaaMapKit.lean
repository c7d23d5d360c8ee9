/- Maps of one's own, plainly: which value lies at which number. -/
import Derived.Test.YtmpabcojdkpiaaaObj
import Derived.Maps.OwnSet
namespace Go.Proofs.Ytmpabcojdkpiaaa
open Go Go.RowKit
open Go.Maps (Keyed)

/-- An element is read as itself. -/
def anyElem (v : Value) : Option (DataW Value × List MemPlace) := some (.held v, [])
/-- f says which value a key leads to. -/
def Leads (D : DataW Value) (f : Lit → Option Value) : Prop := ∀ k, Maps.has D k = (f k).isSome ∧ ∀ v z, f k = some v → D.atKey k z = .held v
/-- Block b is a map of at most n entries, whose keys are of the type k: f says which value lies at which key. -/
def MAt (u : World) (k : TypeId) (b n : Nat) (f : Lit → Option Value) : Prop := ∃ D, u.ownsMap Try.prog k anyElem b n D ∧ Leads D f
def putF (f : Lit → Option Value) (k : Lit) (v : Value) : Lit → Option Value := fun x => if x.sameKey k = true then some v else f x
def delF (f : Lit → Option Value) (k : Lit) : Lit → Option Value := fun x => if x.sameKey k = true then none else f x
theorem MAt.made (u : World) (k : TypeId) : MAt (u.alloc (.map #[] 0)) k u.heap.size 0 (fun _ => none) :=
  ⟨.map [], World.ownsMap_made u Try.prog k anyElem, fun _ => ⟨rfl, fun _ _ h => by cases h⟩⟩
theorem MAt.lt {u : World} {k : TypeId} {b n : Nat} {f : Lit → Option Value} (h : MAt u k b n f) : b < u.heap.size := by
  obtain ⟨D, h1, _⟩ := h
  exact h1.lt
theorem MAt.mono {u : World} {k : TypeId} {b n n' : Nat} {f : Lit → Option Value} (h : MAt u k b n f) (hn : n ≤ n') : MAt u k b n' f := by
  obtain ⟨D, h1, h2⟩ := h
  exact ⟨D, h1.mono hn, h2⟩
theorem MAt.same {u v : World} {k : TypeId} {b n : Nat} {f : Lit → Option Value} (h : MAt u k b n f) (hb : v.heap[b]? = u.heap[b]?) : MAt v k b n f := by
  obtain ⟨D, ⟨es, clock, h1, h2⟩, h3⟩ := h
  exact ⟨D, ⟨es, clock, hb.trans h1, h2⟩, h3⟩
theorem MAt.below {u v : World} {k : TypeId} {b n : Nat} {f : Lit → Option Value} (h : MAt u k b n f) (hb : Below u.heap.size u v) : MAt v k b n f := h.same (hb.block b h.lt)
theorem Leads.put {D : DataW Value} {f : Lit → Option Value} (h : Leads D f) (hD : Maps.IsMap D) {k : Lit} (hk : WideAt.IsKeyLit k) (v : Value) : Leads (D.put k (.held v)) (putF f k v) := fun x => by
  unfold putF
  by_cases e : x = k
  · subst e
    rw [if_pos (WideAt.sameKey_self hk)]
    exact ⟨Maps.has_put_same hD hk _, fun v' z h' => by cases h'; exact Maps.atKey_put_same hD hk _ z⟩
  · rw [if_neg (fun hh => e (WideAt.sameKey_eq hh))]
    exact ⟨(Maps.has_put_other e _).trans (h x).1, fun v' z h' => (Maps.atKey_put_other e _ z).trans ((h x).2 v' z h')⟩
theorem Leads.del {D : DataW Value} {f : Lit → Option Value} (h : Leads D f) {k : Lit} (hk : WideAt.IsKeyLit k) : Leads (D.del k) (delF f k) := fun x => by
  unfold delF
  by_cases e : x = k
  · subst e
    rw [if_pos (WideAt.sameKey_self hk)]
    exact ⟨Maps.has_del_same, fun v' z h' => by cases h'⟩
  · rw [if_neg (fun hh => e (WideAt.sameKey_eq hh))]
    exact ⟨(Maps.has_del_other e).trans (h x).1, fun v' z h' => (Maps.atKey_del_other e z).trans ((h x).2 v' z h')⟩
theorem turned_loc {u v : World} {b : Nat} (h : u.mapTurned v b) {F : Nat → Prop} (hF : F b) : Loc F F u v := Loc.of_grown h.grown (fun k hk => by cases hk; exact hF) (fun k hk => Or.inl hk)
section
variable (u : World) {ops : Array Oper} {rest : List Oper} {o : Oper} {a : Act} {Q : Exit → Act → World → Prop}
/-- 'v, ok := m[k]'. -/
theorem wpList_look_ok (hg : o.guard = none) (m x : Operand) (t : TypeId) (hop : o.op = Op.lookup t m x true) (k e : TypeId) (K : Keyed Try.prog k) (ht : Try.prog.underlying t = some (.map k e)) {z : Value} (hz : ∀ w, (zeroValue e).run Try.prog w = .ok z w)
    (b n : Nat) (f : Lit → Option Value) (hm : a.eval m = .map (some b)) (h : MAt u k b n f) (key : Value) (kl : Lit) (hx : a.eval x = key) (hkey : keyOf Try.prog k key = some kl)
    (v : Value) (t' : Bool) (hv : (f kl).getD z = v) (ht' : (f kl).isSome = t')
    (hK : wpList Try.prog ops Q rest (a.put o.dst (.tuple #[v, .bool t'])) u) : wpList Try.prog ops Q (o :: rest) a u := by
  obtain ⟨D, h1, h2⟩ := h
  refine wpList_lookup_own_ok u hg m x t hop k e K ht anyElem (hz u) (.held z) [] rfl b n D hm h1 key kl hx hkey (fun v' ps hv' => ?_)
  have hh := (h2 kl).1
  rw [hh, ht']
  have e : v' = v := by
    unfold anyElem at hv'
    have e1 : DataW.held v' = D.atKey kl (.held z) := congrArg Prod.fst (Option.some.inj hv')
    cases hf : f kl with
    | some y =>
      rw [(h2 kl).2 y (.held z) hf] at e1
      rw [hf] at hv
      cases e1
      exact hv
    | none =>
      rw [hf] at hh hv
      rw [Maps.atKey_of_not_has hh] at e1
      cases e1
      exact hv
  rw [e]
  exact hK
/-- What a look-up yields. -/
theorem look_run {w : World} {t k e : TypeId} (K : Keyed Try.prog k) (ht : Try.prog.underlying t = some (.map k e)) {z : Value} (hz : ∀ w, (zeroValue e).run Try.prog w = .ok z w) {b n : Nat} {f : Lit → Option Value} (h : MAt w k b n f) {key : Value} {kl : Lit} (hkey : keyOf Try.prog k key = some kl) {v : Value} (hv : (f kl).getD z = v) :
    (Instr.lookup t (.map (some b)) key false).run Try.prog w = .ok v w := by
  obtain ⟨D, h1, h2⟩ := h
  obtain ⟨v', ps, hrun, hv'⟩ := h1.lookup K ht (hz w) (zd := .held z) (zp := []) rfl hkey
  have hh := (h2 kl).1
  have e : v' = v := by
    unfold anyElem at hv'
    have e1 : DataW.held v' = D.atKey kl (.held z) := congrArg Prod.fst (Option.some.inj hv')
    cases hf : f kl with
    | some y =>
      rw [(h2 kl).2 y (.held z) hf] at e1
      rw [hf] at hv
      cases e1
      exact hv
    | none =>
      rw [hf] at hh hv
      rw [Maps.atKey_of_not_has hh] at e1
      cases e1
      exact hv
  rw [hrun, e]
/-- 'm[k]'. -/
theorem wpList_look (hg : o.guard = none) (m x : Operand) (t : TypeId) (hop : o.op = Op.lookup t m x false) (k e : TypeId) (K : Keyed Try.prog k) (ht : Try.prog.underlying t = some (.map k e)) {z : Value} (hz : ∀ w, (zeroValue e).run Try.prog w = .ok z w)
    (b n : Nat) (f : Lit → Option Value) (hm : a.eval m = .map (some b)) (h : MAt u k b n f) (key : Value) (kl : Lit) (hx : a.eval x = key) (hkey : keyOf Try.prog k key = some kl)
    (v : Value) (hv : (f kl).getD z = v)
    (hK : wpList Try.prog ops Q rest (a.put o.dst v) u) : wpList Try.prog ops Q (o :: rest) a u := by
  obtain ⟨D, h1, h2⟩ := h
  refine wpList_plain hg fun K' hK' => ?_
  obtain ⟨v', ps, hrun, hv'⟩ := h1.lookup K ht (hz u) (zd := .held z) (zp := []) rfl hkey
  have hh := (h2 kl).1
  have e : v' = v := by
    unfold anyElem at hv'
    have e1 : DataW.held v' = D.atKey kl (.held z) := congrArg Prod.fst (Option.some.inj hv')
    cases hf : f kl with
    | some y =>
      rw [(h2 kl).2 y (.held z) hf] at e1
      rw [hf] at hv
      cases e1
      exact hv
    | none =>
      rw [hf] at hh hv
      rw [Maps.atKey_of_not_has hh] at e1
      cases e1
      exact hv
  subst e
  unfold Oper.wp
  simp [execOp, hop, hm, hx, hrun, Result.andThen]
  exact hK' _ _ hK
/-- 'm[k] = v'. -/
theorem wpList_put (hg : o.guard = none) (m x y : Operand) (t : TypeId) (hop : o.op = Op.mapUpdate t m x y) (k e : TypeId) (K : Keyed Try.prog k) (ht : Try.prog.underlying t = some (.map k e))
    (b n : Nat) (f : Lit → Option Value) (hm : a.eval m = .map (some b)) (h : MAt u k b n f) (hn : n < maxLen) (key val : Value) (kl : Lit) (hx : a.eval x = key) (hy : a.eval y = val) (hkey : keyOf Try.prog k key = some kl) (hkl : WideAt.IsKeyLit kl)
    (hK : ∀ v, MAt v k b (n + 1) (putF f kl val) → u.mapTurned v b → wpList Try.prog ops Q rest (a.put o.dst undef) v) : wpList Try.prog ops Q (o :: rest) a u := by
  obtain ⟨D, h1, h2⟩ := h
  exact wpList_mapUpdate_in u hg m x y t hop k e K ht anyElem b n D hm h1 hn key val kl hx hy hkey (.held val) [] rfl (fun v hv ht => hK v ⟨_, hv, h2.put h1.isMap hkl val⟩ ht)
/-- 'delete(m, k)'. -/
theorem wpList_del (hg : o.guard = none) (m x : Operand) (t k : TypeId) (hop : o.op = Op.call { callee := Callee.builtin Builtin.delete, args := #[m, x], argTypes := #[t, k] }) (e : TypeId) (K : Keyed Try.prog k) (ht : Try.prog.underlying t = some (.map k e))
    (b n : Nat) (f : Lit → Option Value) (hm : a.eval m = .map (some b)) (h : MAt u k b n f) (key : Value) (kl : Lit) (hx : a.eval x = key) (hkey : keyOf Try.prog k key = some kl) (hkl : WideAt.IsKeyLit kl)
    (hK : ∀ v, MAt v k b n (delF f kl) → u.mapTurned v b → wpList Try.prog ops Q rest (a.put o.dst (.tuple #[])) v) : wpList Try.prog ops Q (o :: rest) a u := by
  obtain ⟨D, h1, h2⟩ := h
  exact wpList_delete_own u hg m x t k hop e K ht anyElem b n D hm h1 key kl hx hkey (fun v hv ht => hK v ⟨_, hv, h2.del hkl⟩ ht)
end
end Go.Proofs.Ytmpabcojdkpiaaa
