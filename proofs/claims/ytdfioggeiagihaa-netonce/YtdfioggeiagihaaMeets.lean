/- The program's net meets what the laws ask of it. -/
import Derived.Test.YtdfioggeiagihaaMe14
import Derived.Test.YtdfioggeiagihaaMe4
import Derived.Test.YtdfioggeiagihaaMe6
import Derived.Test.YtdfioggeiagihaaMe8
import Derived.Test.YtdfioggeiagihaaMe9
import Derived.Test.YtdfioggeiagihaaPlays
import Derived.Test.YtdfioggeiagihaaRdy
import Derived.Test.YtdfioggeiagihaaOnce
import Derived.Test.YtdfioggeiagihaaNone
import Derived.Test.YtdfioggeiagihaaFull
namespace Go.Proofs.Ytdfioggeiagihaa
open Go Go.RowKit

/-- The program's net, by its footprint. -/
def NAt (u : World) (p : Nat) (st : Nt) (F : Nat → Prop) : Prop := ∃ b vL, PAt u p b vL st ∧ F = PF p b vL
theorem below_same {w w' : World} (h : w' = w) : Below w.heap.size w w' := by subst h; exact Below.refl _ _
theorem con : Con NAt where
  lt := fun h k hk => by
    obtain ⟨b, vL, h1, rfl⟩ := h
    exact h1.lt k hk
  same := fun h hb => by
    obtain ⟨b, vL, h1, rfl⟩ := h
    exact ⟨b, vL, h1.same hb, rfl⟩
  new := fun u => (pNew u).mono (by
    rintro e v ⟨p, b, he, h, hp, hb, hbe⟩
    refine ⟨p, PF p b (.slice none 0 0), he, ⟨b, _, h, rfl⟩, fun k hk => ?_, hbe⟩
    rcases hk with rfl | rfl | hk
    · exact hp
    · exact hb
    · cases hk)
  send := fun p st F m a b s u h hok hm _ _ hs => by
    obtain ⟨q, vL, h1, rfl⟩ := h
    refine (pSend p q vL st m a b s u h1 hok hm hs).mono ?_
    rintro e v ⟨he, vL', h2, hl⟩
    exact ⟨he, _, ⟨q, vL', h2, rfl⟩, hl⟩
  take := fun p st F m id u h hok _ _ => by
    obtain ⟨q, vL, h1, rfl⟩ := h
    refine (pTake p q vL st m id u h1 hok).mono ?_
    rintro e v ⟨he, vL', h2, hl⟩
    exact ⟨he, _, ⟨q, vL', h2, rfl⟩, hl⟩
  double := fun p st F m id u h hok hm _ => by
    obtain ⟨q, vL, h1, rfl⟩ := h
    refine (pDouble p q vL st m id u h1 hok hm).mono ?_
    rintro e v ⟨he, vL', h2, hl⟩
    exact ⟨he, _, ⟨q, vL', h2, rfl⟩, hl⟩
  drop := fun p st F m id u h hok _ _ => by
    obtain ⟨q, vL, h1, rfl⟩ := h
    refine (pDrop p q vL st m id u h1 hok).mono ?_
    rintro e v ⟨he, vL', h2, hl⟩
    exact ⟨he, _, ⟨q, vL', h2, rfl⟩, hl⟩
  part := fun p st F m a b u h _ _ _ _ => by
    obtain ⟨q, vL, h1, rfl⟩ := h
    refine (pPart p q vL st a b u h1).mono ?_
    rintro e v ⟨he, h2, hl⟩
    exact ⟨he, _, ⟨q, vL, h2, rfl⟩, hl⟩
  join := fun p st F m a b u h _ _ _ _ => by
    obtain ⟨q, vL, h1, rfl⟩ := h
    refine (pJoin p q vL st a b u h1).mono ?_
    rintro e v ⟨he, h2, hl⟩
    exact ⟨he, _, ⟨q, vL, h2, rfl⟩, hl⟩
  parted := fun p st F m a b u h hok _ ha hb => by
    obtain ⟨q, vL, h1, rfl⟩ := h
    exact pParted p q vL st m a b u h1 hok ha hb
  age := fun p st F m u h hok hm => by
    obtain ⟨q, vL, h1, rfl⟩ := h
    refine (pAge p q vL st m u h1 hok hm).mono ?_
    rintro e v ⟨he, h2, hl⟩
    exact ⟨he, _, ⟨q, vL, h2, rfl⟩, hl⟩
  list := fun p st F m u h hok _ => by
    obtain ⟨q, vL, h1, rfl⟩ := h
    exact pList p q vL st m u h1 hok
  ready := fun p st F m u h hok _ => by
    obtain ⟨q, vL, h1, rfl⟩ := h
    exact pReady p q vL st m u h1 hok
  len := fun p st F m u h _ _ => by
    obtain ⟨q, vL, h1, rfl⟩ := h
    exact (pLen p q vL st u h1).mono (fun _ _ hh => ⟨hh.1, below_same hh.2⟩)
  nsend := fun a b u _ _ => (nSend a b u).mono (fun _ _ hh => ⟨hh.1, below_same hh.2⟩)
  ntake := fun id u _ => nTake id u
  ndouble := fun id u _ => (nDouble id u).mono (fun _ _ hh => ⟨hh.1, below_same hh.2⟩)
  ndrop := fun id u _ => (nDrop id u).mono (fun _ _ hh => ⟨hh.1, below_same hh.2⟩)
  npart := fun a b u _ _ => (nPart a b u).mono (fun _ _ hh => ⟨hh.1, below_same hh.2⟩)
  njoin := fun a b u _ _ => (nJoin a b u).mono (fun _ _ hh => ⟨hh.1, below_same hh.2⟩)
  nparted := fun a b u _ _ => (nParted a b u).mono (fun _ _ hh => ⟨hh.1, below_same hh.2⟩)
  nage := fun u => (nAge u).mono (fun _ _ hh => ⟨hh.1, below_same hh.2⟩)
  nlist := fun u => (nList u).mono (fun _ _ hh => ⟨none, 0, hh.1, below_same hh.2⟩)
  nready := fun u => (nReady u).mono (fun _ _ hh => ⟨none, 0, hh.1, below_same hh.2⟩)
  nlen := fun u => (nLen u).mono (fun _ _ hh => ⟨hh.1, below_same hh.2⟩)
end Go.Proofs.Ytdfioggeiagihaa
