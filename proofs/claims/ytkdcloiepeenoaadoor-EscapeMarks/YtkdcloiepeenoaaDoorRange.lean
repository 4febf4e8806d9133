/-
  Ranges of cells that a world holds, and what keeps them.
-/
import Derived.Test.YtkdcloiepeenoaaDoorAt
import Derived.Deep.MidRow
namespace Go.Proofs.YtkdcloiepeenoaaDoor
open Go.RowKit

theorem At.range {w : World} {b : Nat} {cs : Array Value} {t : TypeId} (h : At w b cs t) {L : List Value} (hL : L.toArray = cs) : w.rangeAt b 0 L := fun j v hv => by
  rw [Nat.zero_add, h.cell j, ← hL]
  simpa using hv
theorem range_kept {w w1 : World} {b o : Nat} {L : List Value} (h : w.rangeAt b o L) (hb : Below w.heap.size w w1) : w1.rangeAt b o L := fun j v hv => by
  have hc := h j v hv
  rw [hb.cell (p := ⟨b, o + j, none⟩) (block_lt_of_cell hc)]; exact hc
theorem At.there {w : World} {b : Nat} {cs : Array Value} {t : TypeId} (h : At w b cs t) (n : Nat) (hn : cs.size = n) : w.there b 0 n := fun j hj => by
  rw [Nat.zero_add]
  refine ⟨?_, h.frozen j⟩
  rw [h.cell j, Array.getElem?_eq_getElem (by omega)]; rfl
/-- Some cells of a block laid over. -/
theorem At.setCells_at {b : Nat} {t : TypeId} : ∀ (vs : List Value) (o : Nat) {w : World} {cs : Array Value}, At w b cs t → o + vs.length ≤ cs.size → ∃ ds : Array Value, At (w.setCells b o vs) b ds t ∧ ds.size = cs.size ∧ (∀ i, i < o → ds[i]? = cs[i]?) ∧ (∀ i, i < vs.length → ds[o + i]? = vs[i]?) ∧ ∀ i, o + vs.length ≤ i → ds[i]? = cs[i]? := by
  intro vs
  induction vs with
  | nil => exact fun o w cs h _ => ⟨cs, h, rfl, fun _ _ => rfl, fun i hi => by simp at hi, fun _ _ => rfl⟩
  | cons v vs ih =>
    intro o w cs h hle
    simp only [List.length_cons] at hle
    obtain ⟨ds, h1, h2, h3, h4, h5⟩ := ih (o + 1) (h.set o v) (by simp; omega)
    refine ⟨ds, h1, by simpa using h2, ?_, ?_, ?_⟩
    · intro i hi
      rw [h3 i (by omega), Array.getElem?_setIfInBounds_ne (by omega)]
    · intro i hi
      cases i with
      | zero =>
        rw [Nat.add_zero, h3 o (by omega), Array.getElem?_setIfInBounds_self_of_lt (by omega)]
        rfl
      | succ i =>
        have := h4 i (by simpa using hi)
        rw [show o + (i + 1) = o + 1 + i by omega, this]
        simp
    · intro i hi
      simp only [List.length_cons] at hi
      rw [h5 i (by omega), Array.getElem?_setIfInBounds_ne (by omega)]
/-- A whole block laid over. -/
theorem At.setCells {w : World} {b : Nat} {cs : Array Value} {t : TypeId} (h : At w b cs t) (vs : List Value) (hn : cs.size = vs.length) : At (w.setCells b 0 vs) b vs.toArray t := by
  obtain ⟨ds, h1, h2, _, h4, _⟩ := At.setCells_at vs 0 h (by omega)
  have e : ds = vs.toArray := by
    apply Array.ext_getElem?
    intro i
    by_cases hi : i < vs.length
    · have := h4 i hi
      rw [Nat.zero_add] at this
      rw [this]; simp
    · rw [Array.getElem?_eq_none (by omega), Array.getElem?_eq_none (by simp; omega)]
  rwa [e] at h1
theorem At.setCells_other {w : World} {b : Nat} {cs : Array Value} {t : TypeId} (h : At w b cs t) {b' : Nat} (hb : b ≠ b') : ∀ (vs : List Value) (o : Nat), At (w.setCells b' o vs) b cs t := by
  intro vs
  induction vs generalizing w with
  | nil => exact fun _ => h
  | cons v vs ih => exact fun o => ih (h.other (p := ⟨b', o, none⟩) hb v) (o + 1)
theorem below_setCells {n b : Nat} {a w : World} (h : Below n a w) (hb : n ≤ b) : ∀ (vs : List Value) (o : Nat), Below n a (w.setCells b o vs) := by
  intro vs
  induction vs generalizing w with
  | nil => exact fun _ => h
  | cons v vs ih => exact fun o => ih (h.setCell (p := ⟨b, o, none⟩) hb v) (o + 1)
end Go.Proofs.YtkdcloiepeenoaaDoor
