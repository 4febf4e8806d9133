/-
  What bitmap.Each tells: the places of the set bits of a row, one behind the other. It ranges over words.Each, word by word, and calls its yield in those rounds.
-/
import Derived.Test.YtlckhiflhnlgpaaGreatDoorWordsB
import Derived.Test.YtlckhiflhnlgpaaGreatDoorMarksKit
import Derived.Test.YtlckhiflhnlgpaaGreatDoorKitB
import Derived.Test.YtlckhiflhnlgpaaGreatDoorBitsA
import Derived.Test.YtlckhiflhnlgpaaGreatDoorBitsB
namespace Go.Proofs.YtlckhiflhnlgpaaGreatDoor
open Go.RowKit Go.Shelf

attribute [local go_sem] Oper.semAt_some

theorem Marks.heldS {Safe : Nat → World → Prop} {B U n0 B' Bx : Nat} {ds : List Deferred} {W W' : World} (h : Marks B U ds W) (hh : HeldS Safe n0 B' Bx W W') (hB : B' ≤ B) : Marks B U ds W' :=
  h.of (fun D h1 _ h3 => (hh.2.2.1 D _ (by omega) rfl h3).trans h3.symm)
theorem RoundIn.inRound {F : Fence} {n : Nat} {P : Program} {l : Nat} {f : FuncId} {tmps : Array Value} {assign body : Code} {w : World} {R : Ending → World → Prop} (l2 : Nat) (h : RoundIn F n P l f tmps assign body w R) : RoundIn (F.inRound l2) n P l f tmps assign body w R := h

/-- The places of one word more. -/
theorem placesB_word (X : Nat → Nat) (j : Nat) : placesB X (64 * (j + 1)) = placesB X (64 * j) ++ (places (X j)).map (fun p => 64 * j + p % 64) := by
  have key : ∀ r, r ≤ 64 → placesB X (64 * j + r) = placesB X (64 * j) ++ (below (X j) r).map (fun p => 64 * j + p % 64) := by
    intro r
    induction r with
    | zero => intro _; simp [below]
    | succ r ih =>
      intro hr
      rw [← Nat.add_assoc]
      have hb := bitAt_word X j r (by omega)
      cases hbit : (X j).testBit r
      · rw [hbit] at hb
        rw [placesB_f hb, below_f hbit, ih (by omega)]
      · rw [hbit] at hb
        rw [placesB_t hb, below_t hbit, ih (by omega), List.map_append, List.append_assoc]
        simp [Nat.mod_eq_of_lt (show r < 64 by omega)]
  have := key 64 (Nat.le_refl _)
  rw [show 64 * (j + 1) = 64 * j + 64 by omega, this]
  rfl

end Go.Proofs.YtlckhiflhnlgpaaGreatDoor
