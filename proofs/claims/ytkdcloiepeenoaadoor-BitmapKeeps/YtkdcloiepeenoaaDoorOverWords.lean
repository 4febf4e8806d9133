/-
  What quarrykit.OverWords leaves: all words of a lent list, and those behind its end, are laid over.
-/
import Derived.Test.YtkdcloiepeenoaaDoorLentWords
import Derived.Test.YtkdcloiepeenoaaDoorGivesKit
namespace Go.Proofs.YtkdcloiepeenoaaDoor
open Go.RowKit

/-- The first i words of block g are marks; all else is as it was. -/
def OverI (w : World) (g c i : Nat) (wr : World) : Prop :=
  (∃ cur, At wr g cur 39 ∧ cur.size = c ∧ ∀ j, j < i → cur[j]? = some (.int .u64 (9000027 + (j : Int)))) ∧ Below g w wr ∧ (∀ b cs t, b ≠ g → At w b cs t → At wr b cs t) ∧ wr.heap.size = w.heap.size
theorem OverI.step {w wr : World} {g c i : Nat} (h : OverI w g c i wr) (hi : i < c) : OverI w g c (i + 1) (wr.setCell ⟨g, i, none⟩ (.int .u64 (9000027 + (i : Int)))) := by
  obtain ⟨⟨cur, h1, h2, h3⟩, h4, h5, h6⟩ := h
  refine ⟨⟨_, h1.set i _, by simp [h2], fun j hj => ?_⟩, h4.setCell (p := ⟨g, i, none⟩) (Nat.le_refl _) _, fun b cs t hb ha => (h5 b cs t hb ha).other (p := ⟨g, i, none⟩) hb _, by simp [h6]⟩
  by_cases e : j = i
  · subst e
    simp [h2, hi]
  · have := h3 j (by omega)
    simpa [Array.getElem?_setIfInBounds, show i ≠ j from fun h => e h.symm] using this

set_option maxRecDepth 10000 in
set_option maxHeartbeats 2000000 in
theorem overW_calls (g c k : Nat) (Z : Nat → Int) (hk : k ≤ 17592186044416) (w : World) (hL : LentW w g c k Z) :
    Calls Tryd.prog 43 #[.slice (some ⟨g, 0, none⟩) k c] w fun e w' => (∃ v, e = .returned v) ∧ OverI w g c (k + 24) w' := by
  obtain ⟨cur0, hA, hc, hkc, hcm, hcells⟩ := hL
  have hA' := hid hA
  have hc' := hid hc
  clear hcells hA hc
  go_enter Tryd.func43, Tryd.ntmps43
  go_wp2
  go_loopw [3] (fun ii wr => ∃ i : Nat, i ≤ k + 24 ∧ ii = .int .i64 (i : Int) ∧ OverI w g c i wr) (fun ii _ => k + 24 - (intOf ii).toNat)
  case atStart => exact ⟨0, Nat.zero_le _, rfl, ⟨cur0, hA'.out, hc'.out, fun j hj => by omega⟩, Below.refl _ _, fun _ _ _ _ h => h, rfl⟩
  case round =>
    obtain ⟨i, hik, rfl, hO⟩ := hrel
    have hO' := hid hO
    by_cases hlt : i < k + 24
    · obtain ⟨⟨cur, h1, h2, -⟩, -⟩ := hO
      have c1 := h1.cell i
      obtain ⟨u, hu⟩ : ∃ u, cur[i]? = some u := ⟨_, Array.getElem?_eq_getElem (by omega)⟩
      rw [hu] at c1
      have f1 := h1.frozen i
      have hst := hid (hO'.out.step (show i < c by omega))
      clear h1 h2 hu
      go_wp2
      go_roundw
      case rel => exact ⟨i + 1, by omega, by simp, hst.out⟩
      case measure => simp [intOf]; omega
    · obtain rfl : i = k + 24 := by omega
      clear hO
      go_wp2
      refine ⟨rfl, .tuple #[], ?_, ⟨_, rfl⟩, hO'.out⟩
      simp [results, Tryd.f43, go_sem]
/-- The same of a row of bits: its own variable lies behind. -/
theorem overB_calls (n : Int) (g c k : Nat) (Z : Nat → Int) (hk : k ≤ 17592186044416) (w : World) (hL : LentW w g c k Z) :
    Calls Tryd.prog 18 #[bv n (some ⟨g, 0, none⟩) k c] w fun e w' => (∃ v, e = .returned v) ∧ OverI (w.alloc (.cells #[.int .i64 n, .slice (some ⟨g, 0, none⟩) k c] 24)) g c (k + 24) w' := by
  have hL' := hid hL
  clear hL
  have hov := hid (overW_calls g c k Z hk (w.alloc (.cells #[.int .i64 n, .slice (some ⟨g, 0, none⟩) k c] 24)) (hL'.out.kept ((Below.refl _ _).alloc (Nat.le_refl _) _)))
  go_enter Tryd.func18, Tryd.ntmps18
  go_wp2_with fail
  refine Calls.mono hov.out ?_
  rintro e w1 ⟨⟨v, rfl⟩, hO⟩
  have hO' := hid hO
  clear hO hov
  go_wp2
  refine ⟨rfl, .tuple #[], ?_, ⟨_, rfl⟩, hO'.out⟩
  simp [results, Tryd.f18, go_sem]
end Go.Proofs.YtkdcloiepeenoaaDoor
