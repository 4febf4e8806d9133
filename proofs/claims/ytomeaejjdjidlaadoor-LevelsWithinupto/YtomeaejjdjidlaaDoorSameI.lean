/-
  What quarryref00.SameInts answers of two lists of the same numbers.
-/
import Derived.Test.YtomeaejjdjidlaaDoorLstKit
namespace Go.Proofs.YtomeaejjdjidlaaDoor
open Go.RowKit Go.Shelf

/-- The numbers lie there. -/
def IntsAt (w : World) (ao : Option Addr) (L : List Nat) : Prop := ∀ j p, L[j]? = some p → ∃ g, ao = some ⟨g, 0, none⟩ ∧ g < w.heap.size ∧ w.cell? ⟨g, j, none⟩ = some (.int .i64 ((p : Nat) : Int))
theorem IntsAt.kept {m : Nat} {w w' : World} {ao : Option Addr} {L : List Nat} (h : IntsAt w ao L) (hm : w.heap.size ≤ m) (hb : Below m w w') : IntsAt w' ao L := fun j p hj => by
  obtain ⟨g, h1, h2, h3⟩ := h j p hj
  exact ⟨g, h1, Nat.lt_of_lt_of_le h2 hb.size, (hb.cell (p := ⟨g, j, none⟩) (by show g < m; omega)).trans h3⟩
theorem ints_row {w : World} {B : Nat} {v : Value} {L : List Nat} (h : w.ownsRow B 3 1 v L.length (ints L)) : ∃ ao cap, v = .slice ao L.length cap ∧ IntsAt w ao L := by
  obtain ⟨ao, cap, hv, hc⟩ := lst_of_row h
  exact ⟨ao, cap, hv, fun j p hj => by obtain ⟨g, h1, -, h3, h4⟩ := hc j p hj; exact ⟨g, h1, h3, h4⟩⟩

set_option maxRecDepth 10000 in
set_option maxHeartbeats 1000000 in
theorem sameI_calls (L : List Nat) (n : Nat) (hn : Hid (L.length = n)) (hl : n ≤ 4611686018427387904) (ao bo : Option Addr) (cap cap' : Nat) (w : World) (hA : IntsAt w ao L) (hB : IntsAt w bo L) :
    Calls Tryd.prog 13 #[.slice ao n cap, .slice bo n cap'] w fun e w' => e = .returned (.bool true) ∧ Below w.heap.size w w' := by
  have hA' := hid hA
  have hB' := hid hB
  have hnl : (n : Int) ≤ 4611686018427387904 := by omega
  have e0 : ((n : Int) != (n : Int)) = false := by simp
  clear hA hB
  go_enter Tryd.func13, Tryd.ntmps13
  go_wp2
  go_loopw [5] (fun ii wr => ∃ i : Nat, i ≤ n ∧ ii = .int .i64 (i : Int) ∧ Below w.heap.size w wr) (fun ii _ => n - (intOf ii).toNat)
  case atStart => exact ⟨0, Nat.zero_le _, rfl, Below.refl _ _⟩
  case round =>
    obtain ⟨i, hi, rfl, hb⟩ := hrel
    by_cases hlt : i < n
    · have hli : (i : Int) < (n : Int) := by omega
      obtain ⟨p, hp⟩ : ∃ p, L[i]? = some p := ⟨_, List.getElem?_eq_getElem (by rw [hn.out]; exact hlt)⟩
      obtain ⟨g, rfl, hg, cg⟩ := hA'.out i p hp
      obtain ⟨h, rfl, hh, ch⟩ := hB'.out i p hp
      have s1 := (hb.cell (p := ⟨g, i, none⟩) hg).trans cg
      have s2 := (hb.cell (p := ⟨h, i, none⟩) hh).trans ch
      have ep : ((p : Int) != (p : Int)) = false := by simp
      clear hp cg ch
      go_wp2
      go_quiet (fail)
      go_wp2
      go_roundw
      case rel => exact ⟨i + 1, by omega, by simp, below_drewN hb _⟩
      case measure => simp [intOf]; omega
    · obtain rfl : i = n := by omega
      go_wp2
      go_ret
      exact ⟨rfl, hb⟩
end Go.Proofs.YtomeaejjdjidlaaDoor
