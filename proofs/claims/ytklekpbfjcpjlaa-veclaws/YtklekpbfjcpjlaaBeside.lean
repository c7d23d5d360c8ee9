/- What beside does, whatever function it is handed: a loop of three rounds. -/
import Derived.Test.YtklekpbfjcpjlaaTrip
namespace Go.Proofs.Ytklekpbfjcpjlaa
open Go.RowKit
attribute [local go_sem ↓] Go.wp_at_zero Go.wp_at_succ

theorem Kp.begin0 {n k : Nat} {w : World} {c : Array Value} {t : TypeId} (hn : n = w.heap.size) (hk : k ≤ c.size) : Kp n k (w.alloc (.cells c t)) (w.alloc (.cells c t)) :=
  ⟨fun _ _ _ => rfl, fun _ _ _ => rfl, fun o ho => by obtain ⟨v, hv⟩ := new_cells w c t hn o (by omega); exact tv_some hv, by rw [hn]; simp, Below.refl _ _⟩

/-- What stands in cell o of a triple. -/
def ov (z0 z1 z2 : Int) : Nat → Value
  | 0 => .int .u64 (lo z0)
  | 1 => .int .u64 (hi z0)
  | 2 => .int .u64 (lo z1)
  | 3 => .int .u64 (hi z1)
  | 4 => .int .u64 (lo z2)
  | _ => .int .u64 (hi z2)
/-- Kp, and the first m cells of block n are those of the triple. -/
def Kb (n m : Nat) (z0 z1 z2 : Int) (W u : World) : Prop := Kp n 6 W u ∧ ∀ o, o < m → tv u n o = ov z0 z1 z2 o
theorem Kp.drew {n k : Nat} {W u : World} (h : Kp n k W u) : Kp n k W u.drew := ⟨h.1, h.2.1, h.2.2.1, h.2.2.2.1, h.2.2.2.2.drew⟩
theorem Kb.drew {n m : Nat} {z0 z1 z2 : Int} {W u : World} (h : Kb n m z0 z1 z2 W u) : Kb n m z0 z1 z2 W u.drew := ⟨h.1.drew, h.2⟩
theorem tv_call {n : Nat} {o : Nat} {u u' : World} (hb : Below u.heap.size u u') (hn : n < u.heap.size) : tv u' n o = tv u n o := by
  unfold tv; rw [(bcell hb).1 n o hn]
theorem Kb.call {n m : Nat} {z0 z1 z2 : Int} {W u u' : World} (h : Kb n m z0 z1 z2 W u) (hb : Below u.heap.size u u') : Kb n m z0 z1 z2 W u' :=
  ⟨h.1.call hb, fun o ho => (tv_call hb (by have := h.1.2.2.2.1; omega)).trans (h.2 o ho)⟩
theorem Kb.set {n m : Nat} {z0 z1 z2 : Int} {W u : World} (h : Kb n m z0 z1 z2 W u) (p : Nat) (v : Value) (hp : m ≤ p) : Kb n m z0 z1 z2 W (u.setCell ⟨n, p, none⟩ v) :=
  ⟨h.1.set p v, fun o ho => (tv_ne (by omega)).trans (h.2 o ho)⟩
theorem Kb.two {n m p q : Nat} {z0 z1 z2 : Int} {W u : World} {a b : Value} (h : Kb n m z0 z1 z2 W ((u.setCell ⟨n, p, none⟩ a).setCell ⟨n, q, none⟩ b)) (hp : p = m) (hq : q = m + 1) (h6 : m + 1 < 6)
    (ha : ov z0 z1 z2 m = a) (hb : ov z0 z1 z2 (m + 1) = b) : Kb n (m + 2) z0 z1 z2 W ((u.setCell ⟨n, p, none⟩ a).setCell ⟨n, q, none⟩ b) := by
  subst hp hq
  refine ⟨h.1, fun o ho => ?_⟩
  by_cases e1 : o < p
  · exact h.2 o e1
  by_cases e2 : o = p
  · subst e2
    rw [tv_ne (by omega), ha]
    exact tv_set (some_back (is_some (h.1.2.2.1 o (by omega))))
  · have e3 : o = p + 1 := by omega
    subst e3
    rw [hb]
    exact tv_set (is_some (h.1.2.2.1 (p + 1) (by omega)))
theorem besideS0 (x0 x1 x2 y0 y1 y2 z0 z1 z2 : Int) (w u : World) (hk : Kb (w.heap.size + 1 + 1 + 1) 0 z0 z1 z2 ((((w.alloc (.cells #[.int .u64 (lo x0), .int .u64 (hi x0), .int .u64 (lo x1), .int .u64 (hi x1), .int .u64 (lo x2), .int .u64 (hi x2)] 46)).alloc (.cells #[.int .u64 (lo y0), .int .u64 (hi y0), .int .u64 (lo y1), .int .u64 (hi y1), .int .u64 (lo y2), .int .u64 (hi y2)] 46)).alloc (.cells #[.int .u64 0, .int .u64 0, .int .u64 0, .int .u64 0, .int .u64 0, .int .u64 0] 46)).alloc (.cells #[.int .u64 0, .int .u64 0, .int .u64 0, .int .u64 0, .int .u64 0, .int .u64 0] 46)) u) :
    u.cell? ⟨w.heap.size, 0, none⟩ = some (.int .u64 (lo x0)) ∧
    u.cell? ⟨w.heap.size, 1, none⟩ = some (.int .u64 (hi x0)) ∧
    u.cell? ⟨w.heap.size + 1, 0, none⟩ = some (.int .u64 (lo y0)) ∧
    u.cell? ⟨w.heap.size + 1, 1, none⟩ = some (.int .u64 (hi y0)) ∧
    u.cell? ⟨w.heap.size + 1 + 1 + 1, 0, none⟩ = some (tv u (w.heap.size + 1 + 1 + 1) 0) ∧
    u.cell? ⟨w.heap.size + 1 + 1 + 1, 1, none⟩ = some (tv u (w.heap.size + 1 + 1 + 1) 1) ∧
    u.frozen? ⟨w.heap.size + 1 + 1 + 1, 0, none⟩ = false ∧
    u.frozen? ⟨w.heap.size + 1 + 1 + 1, 1, none⟩ = false ∧
    Kb (w.heap.size + 1 + 1 + 1) 0 z0 z1 z2 ((((w.alloc (.cells #[.int .u64 (lo x0), .int .u64 (hi x0), .int .u64 (lo x1), .int .u64 (hi x1), .int .u64 (lo x2), .int .u64 (hi x2)] 46)).alloc (.cells #[.int .u64 (lo y0), .int .u64 (hi y0), .int .u64 (lo y1), .int .u64 (hi y1), .int .u64 (lo y2), .int .u64 (hi y2)] 46)).alloc (.cells #[.int .u64 0, .int .u64 0, .int .u64 0, .int .u64 0, .int .u64 0, .int .u64 0] 46)).alloc (.cells #[.int .u64 0, .int .u64 0, .int .u64 0, .int .u64 0, .int .u64 0, .int .u64 0] 46)) u :=
  ⟨(hk.1.1 _ _ (by omega)).trans (by simp [go_sem]),
    (hk.1.1 _ _ (by omega)).trans (by simp [go_sem]),
    (hk.1.1 _ _ (by omega)).trans (by simp [go_sem]),
    (hk.1.1 _ _ (by omega)).trans (by simp [go_sem]),
    hk.1.2.2.1 _ (by decide),
    hk.1.2.2.1 _ (by decide),
    (hk.1.2.1 _ _ (by omega)).trans (by simp [go_sem]),
    (hk.1.2.1 _ _ (by omega)).trans (by simp [go_sem]),
    hk⟩
theorem besideS1 (x0 x1 x2 y0 y1 y2 z0 z1 z2 : Int) (w u : World) (hk : Kb (w.heap.size + 1 + 1 + 1) 2 z0 z1 z2 ((((w.alloc (.cells #[.int .u64 (lo x0), .int .u64 (hi x0), .int .u64 (lo x1), .int .u64 (hi x1), .int .u64 (lo x2), .int .u64 (hi x2)] 46)).alloc (.cells #[.int .u64 (lo y0), .int .u64 (hi y0), .int .u64 (lo y1), .int .u64 (hi y1), .int .u64 (lo y2), .int .u64 (hi y2)] 46)).alloc (.cells #[.int .u64 0, .int .u64 0, .int .u64 0, .int .u64 0, .int .u64 0, .int .u64 0] 46)).alloc (.cells #[.int .u64 0, .int .u64 0, .int .u64 0, .int .u64 0, .int .u64 0, .int .u64 0] 46)) u) :
    u.cell? ⟨w.heap.size, 2, none⟩ = some (.int .u64 (lo x1)) ∧
    u.cell? ⟨w.heap.size, 3, none⟩ = some (.int .u64 (hi x1)) ∧
    u.cell? ⟨w.heap.size + 1, 2, none⟩ = some (.int .u64 (lo y1)) ∧
    u.cell? ⟨w.heap.size + 1, 3, none⟩ = some (.int .u64 (hi y1)) ∧
    u.cell? ⟨w.heap.size + 1 + 1 + 1, 2, none⟩ = some (tv u (w.heap.size + 1 + 1 + 1) 2) ∧
    u.cell? ⟨w.heap.size + 1 + 1 + 1, 3, none⟩ = some (tv u (w.heap.size + 1 + 1 + 1) 3) ∧
    u.frozen? ⟨w.heap.size + 1 + 1 + 1, 2, none⟩ = false ∧
    u.frozen? ⟨w.heap.size + 1 + 1 + 1, 3, none⟩ = false ∧
    Kb (w.heap.size + 1 + 1 + 1) 2 z0 z1 z2 ((((w.alloc (.cells #[.int .u64 (lo x0), .int .u64 (hi x0), .int .u64 (lo x1), .int .u64 (hi x1), .int .u64 (lo x2), .int .u64 (hi x2)] 46)).alloc (.cells #[.int .u64 (lo y0), .int .u64 (hi y0), .int .u64 (lo y1), .int .u64 (hi y1), .int .u64 (lo y2), .int .u64 (hi y2)] 46)).alloc (.cells #[.int .u64 0, .int .u64 0, .int .u64 0, .int .u64 0, .int .u64 0, .int .u64 0] 46)).alloc (.cells #[.int .u64 0, .int .u64 0, .int .u64 0, .int .u64 0, .int .u64 0, .int .u64 0] 46)) u :=
  ⟨(hk.1.1 _ _ (by omega)).trans (by simp [go_sem]),
    (hk.1.1 _ _ (by omega)).trans (by simp [go_sem]),
    (hk.1.1 _ _ (by omega)).trans (by simp [go_sem]),
    (hk.1.1 _ _ (by omega)).trans (by simp [go_sem]),
    hk.1.2.2.1 _ (by decide),
    hk.1.2.2.1 _ (by decide),
    (hk.1.2.1 _ _ (by omega)).trans (by simp [go_sem]),
    (hk.1.2.1 _ _ (by omega)).trans (by simp [go_sem]),
    hk⟩
theorem besideS2 (x0 x1 x2 y0 y1 y2 z0 z1 z2 : Int) (w u : World) (hk : Kb (w.heap.size + 1 + 1 + 1) 4 z0 z1 z2 ((((w.alloc (.cells #[.int .u64 (lo x0), .int .u64 (hi x0), .int .u64 (lo x1), .int .u64 (hi x1), .int .u64 (lo x2), .int .u64 (hi x2)] 46)).alloc (.cells #[.int .u64 (lo y0), .int .u64 (hi y0), .int .u64 (lo y1), .int .u64 (hi y1), .int .u64 (lo y2), .int .u64 (hi y2)] 46)).alloc (.cells #[.int .u64 0, .int .u64 0, .int .u64 0, .int .u64 0, .int .u64 0, .int .u64 0] 46)).alloc (.cells #[.int .u64 0, .int .u64 0, .int .u64 0, .int .u64 0, .int .u64 0, .int .u64 0] 46)) u) :
    u.cell? ⟨w.heap.size, 4, none⟩ = some (.int .u64 (lo x2)) ∧
    u.cell? ⟨w.heap.size, 5, none⟩ = some (.int .u64 (hi x2)) ∧
    u.cell? ⟨w.heap.size + 1, 4, none⟩ = some (.int .u64 (lo y2)) ∧
    u.cell? ⟨w.heap.size + 1, 5, none⟩ = some (.int .u64 (hi y2)) ∧
    u.cell? ⟨w.heap.size + 1 + 1 + 1, 4, none⟩ = some (tv u (w.heap.size + 1 + 1 + 1) 4) ∧
    u.cell? ⟨w.heap.size + 1 + 1 + 1, 5, none⟩ = some (tv u (w.heap.size + 1 + 1 + 1) 5) ∧
    u.frozen? ⟨w.heap.size + 1 + 1 + 1, 4, none⟩ = false ∧
    u.frozen? ⟨w.heap.size + 1 + 1 + 1, 5, none⟩ = false ∧
    Kb (w.heap.size + 1 + 1 + 1) 4 z0 z1 z2 ((((w.alloc (.cells #[.int .u64 (lo x0), .int .u64 (hi x0), .int .u64 (lo x1), .int .u64 (hi x1), .int .u64 (lo x2), .int .u64 (hi x2)] 46)).alloc (.cells #[.int .u64 (lo y0), .int .u64 (hi y0), .int .u64 (lo y1), .int .u64 (hi y1), .int .u64 (lo y2), .int .u64 (hi y2)] 46)).alloc (.cells #[.int .u64 0, .int .u64 0, .int .u64 0, .int .u64 0, .int .u64 0, .int .u64 0] 46)).alloc (.cells #[.int .u64 0, .int .u64 0, .int .u64 0, .int .u64 0, .int .u64 0, .int .u64 0] 46)) u :=
  ⟨(hk.1.1 _ _ (by omega)).trans (by simp [go_sem]),
    (hk.1.1 _ _ (by omega)).trans (by simp [go_sem]),
    (hk.1.1 _ _ (by omega)).trans (by simp [go_sem]),
    (hk.1.1 _ _ (by omega)).trans (by simp [go_sem]),
    hk.1.2.2.1 _ (by decide),
    hk.1.2.2.1 _ (by decide),
    (hk.1.2.1 _ _ (by omega)).trans (by simp [go_sem]),
    (hk.1.2.1 _ _ (by omega)).trans (by simp [go_sem]),
    hk⟩
theorem besideE (x0 x1 x2 y0 y1 y2 z0 z1 z2 : Int) (w u : World) (hk : Kb (w.heap.size + 1 + 1 + 1) (2 * 3) z0 z1 z2 ((((w.alloc (.cells #[.int .u64 (lo x0), .int .u64 (hi x0), .int .u64 (lo x1), .int .u64 (hi x1), .int .u64 (lo x2), .int .u64 (hi x2)] 46)).alloc (.cells #[.int .u64 (lo y0), .int .u64 (hi y0), .int .u64 (lo y1), .int .u64 (hi y1), .int .u64 (lo y2), .int .u64 (hi y2)] 46)).alloc (.cells #[.int .u64 0, .int .u64 0, .int .u64 0, .int .u64 0, .int .u64 0, .int .u64 0] 46)).alloc (.cells #[.int .u64 0, .int .u64 0, .int .u64 0, .int .u64 0, .int .u64 0, .int .u64 0] 46)) u) :
    u.cell? ⟨w.heap.size + 1 + 1 + 1, 0, none⟩ = some (.int .u64 (lo z0)) ∧
    u.cell? ⟨w.heap.size + 1 + 1 + 1, 1, none⟩ = some (.int .u64 (hi z0)) ∧
    u.cell? ⟨w.heap.size + 1 + 1 + 1, 2, none⟩ = some (.int .u64 (lo z1)) ∧
    u.cell? ⟨w.heap.size + 1 + 1 + 1, 3, none⟩ = some (.int .u64 (hi z1)) ∧
    u.cell? ⟨w.heap.size + 1 + 1 + 1, 4, none⟩ = some (.int .u64 (lo z2)) ∧
    u.cell? ⟨w.heap.size + 1 + 1 + 1, 5, none⟩ = some (.int .u64 (hi z2)) ∧
    u.cell? ⟨w.heap.size + 1 + 1, 0, none⟩ = some (.int .u64 0) ∧
    u.cell? ⟨w.heap.size + 1 + 1, 1, none⟩ = some (.int .u64 0) ∧
    u.cell? ⟨w.heap.size + 1 + 1, 2, none⟩ = some (.int .u64 0) ∧
    u.cell? ⟨w.heap.size + 1 + 1, 3, none⟩ = some (.int .u64 0) ∧
    u.cell? ⟨w.heap.size + 1 + 1, 4, none⟩ = some (.int .u64 0) ∧
    u.cell? ⟨w.heap.size + 1 + 1, 5, none⟩ = some (.int .u64 0) ∧
    u.frozen? ⟨w.heap.size + 1 + 1, 0, none⟩ = false ∧
    u.frozen? ⟨w.heap.size + 1 + 1, 1, none⟩ = false ∧
    u.frozen? ⟨w.heap.size + 1 + 1, 2, none⟩ = false ∧
    u.frozen? ⟨w.heap.size + 1 + 1, 3, none⟩ = false ∧
    u.frozen? ⟨w.heap.size + 1 + 1, 4, none⟩ = false ∧
    u.frozen? ⟨w.heap.size + 1 + 1, 5, none⟩ = false :=
  ⟨(hk.1.2.2.1 0 (by decide)).trans (congrArg some (hk.2 0 (by decide))),
    (hk.1.2.2.1 1 (by decide)).trans (congrArg some (hk.2 1 (by decide))),
    (hk.1.2.2.1 2 (by decide)).trans (congrArg some (hk.2 2 (by decide))),
    (hk.1.2.2.1 3 (by decide)).trans (congrArg some (hk.2 3 (by decide))),
    (hk.1.2.2.1 4 (by decide)).trans (congrArg some (hk.2 4 (by decide))),
    (hk.1.2.2.1 5 (by decide)).trans (congrArg some (hk.2 5 (by decide))),
    (hk.1.1 _ _ (by omega)).trans (by simp [go_sem]),
    (hk.1.1 _ _ (by omega)).trans (by simp [go_sem]),
    (hk.1.1 _ _ (by omega)).trans (by simp [go_sem]),
    (hk.1.1 _ _ (by omega)).trans (by simp [go_sem]),
    (hk.1.1 _ _ (by omega)).trans (by simp [go_sem]),
    (hk.1.1 _ _ (by omega)).trans (by simp [go_sem]),
    (hk.1.2.1 _ _ (by omega)).trans (by simp [go_sem]),
    (hk.1.2.1 _ _ (by omega)).trans (by simp [go_sem]),
    (hk.1.2.1 _ _ (by omega)).trans (by simp [go_sem]),
    (hk.1.2.1 _ _ (by omega)).trans (by simp [go_sem]),
    (hk.1.2.1 _ _ (by omega)).trans (by simp [go_sem]),
    (hk.1.2.1 _ _ (by omega)).trans (by simp [go_sem])⟩
theorem besideS (x0 x1 x2 y0 y1 y2 z0 z1 z2 : Int) (w : World) : Kb (w.heap.size + 1 + 1 + 1) (2 * 0) z0 z1 z2 ((((w.alloc (.cells #[.int .u64 (lo x0), .int .u64 (hi x0), .int .u64 (lo x1), .int .u64 (hi x1), .int .u64 (lo x2), .int .u64 (hi x2)] 46)).alloc (.cells #[.int .u64 (lo y0), .int .u64 (hi y0), .int .u64 (lo y1), .int .u64 (hi y1), .int .u64 (lo y2), .int .u64 (hi y2)] 46)).alloc (.cells #[.int .u64 0, .int .u64 0, .int .u64 0, .int .u64 0, .int .u64 0, .int .u64 0] 46)).alloc (.cells #[.int .u64 0, .int .u64 0, .int .u64 0, .int .u64 0, .int .u64 0, .int .u64 0] 46)) ((((w.alloc (.cells #[.int .u64 (lo x0), .int .u64 (hi x0), .int .u64 (lo x1), .int .u64 (hi x1), .int .u64 (lo x2), .int .u64 (hi x2)] 46)).alloc (.cells #[.int .u64 (lo y0), .int .u64 (hi y0), .int .u64 (lo y1), .int .u64 (hi y1), .int .u64 (lo y2), .int .u64 (hi y2)] 46)).alloc (.cells #[.int .u64 0, .int .u64 0, .int .u64 0, .int .u64 0, .int .u64 0, .int .u64 0] 46)).alloc (.cells #[.int .u64 0, .int .u64 0, .int .u64 0, .int .u64 0, .int .u64 0, .int .u64 0] 46)) :=
  ⟨Kp.begin0 (by simp) (by simp), fun o ho => absurd ho (by omega)⟩
end Go.Proofs.Ytklekpbfjcpjlaa
