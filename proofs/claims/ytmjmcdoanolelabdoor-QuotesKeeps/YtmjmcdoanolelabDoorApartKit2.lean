/-
  What quarrykit.mark answers; an append to a row without room makes a new row.
-/
import Derived.Test.YtmjmcdoanolelabDoorApartKit
import Derived.Test.YtmjmcdoanolelabDoorGivesKit
import Derived.Laws.AppendOwn
import Derived.ArgAppend
namespace Go.Proofs.YtmjmcdoanolelabDoor
open Go.RowKit

/-- The mark of a place. -/
def markN (k i : Nat) : Nat := 1000003 * (k + 7) + i
set_option maxRecDepth 10000 in
theorem mark_calls (k i : Nat) (hk : k ≤ 1000000) (hi : i ≤ 17592186044416) (w : World) : Calls Tryd.prog 37 #[.int .i64 (k : Int), .int .i64 (i : Int)] w fun e w' => e = .returned (.int .i64 ((markN k i : Nat) : Int)) ∧ w' = w := by
  have e1 := hid (show wrap64 ((k : Int) + 7) = (k : Int) + 7 by unfold wrap64; omega)
  have e2 := hid (show wrap64 (1000003 * ((k : Int) + 7)) = 1000003 * ((k : Int) + 7) by unfold wrap64; omega)
  have e3 := hid (show wrap64 (1000003 * ((k : Int) + 7) + (i : Int)) = ((markN k i : Nat) : Int) by unfold wrap64 markN; omega)
  clear hk hi
  go_enter Tryd.func37, Tryd.ntmps37
  go_wp2
  go_ret
  refine ⟨?_, rfl⟩
  show Ending.returned (Value.int .i64 (wrap64 (wrap64 (1000003 * wrap64 ((k : Int) + 7)) + (i : Int)))) = _
  rw [e1.out, e2.out, e3.out]
/-- The words as cells. -/
def wdsL (r : Nat) (Y : Nat → Nat) : List Value := (List.range r).map fun j => Value.int .u64 ((Y j : Nat) : Int)
theorem rowCells_list (r : Nat) (Y : Nat → Nat) : (rowCells r Y).toList = wdsL r Y := rfl
theorem wdsL_len (r : Nat) (Y : Nat → Nat) : (wdsL r Y).length = r := by simp [wdsL]
/-- append(row, words...) where the row has no room: a new row. -/
theorem append_first {w : World} {B : Nat} {rs : List RowX} {F : Nat → Nat → Nat} (h : RowsX w B rs F) {k : Nat} {x : RowX} (hk : rs[k]? = some x) {ty : TypeId} (ad : Addr) (m c : Nat) (news : List Value) (hl : news.length = m) (hm : 0 < m) (hnews : ∀ j u, news[j]? = some u → w.cell? (ad.add j) = some u) (ho : ∀ u ∈ news, u.oneCell' = true) (hr : x.r + m ≤ 17592186044415) :
    ∃ v' w', (Builtin.append_ #[23, 23] ty #[slX x, .slice (some ad) m c]).run Tryd.prog w = .ok v' w' ∧ w'.ownsRow w.heap.size 33 1 v' (x.r + m) (wdsL x.r (F k) ++ news) ∧ Below w.heap.size w w' := by
  obtain ⟨i0, hi, hz0, hz1, hz2⟩ := info_parts infoW
  have hml : x.r + m ≤ maxLen := by unfold maxLen; omega
  have hby : (x.r + m) * 8 ≤ 140737488355328 := by omega
  cases hg : x.g with
  | none =>
    have h0 := (h.1 k x hk).1 hg
    obtain ⟨v', w', hr2, s1, s2, -⟩ := run_append_own (P := Tryd.prog) w w.heap.size 23 ty 33 i0 (.int .u64 0) 1 8 Tryd.underlying23 hi hz0 hz1 hz2 rfl (by decide) (.slice none 0 0) 0 [] (World.ownsRow_nil w _ _ _) ad m c news (by rw [hl, Nat.mul_one]) hnews ho (by omega) (by omega) (Nat.le_refl _)
    refine ⟨v', w', ?_, ?_, ?_⟩
    · rw [show slX x = .slice none 0 0 by unfold slX; rw [hg, h0]; rfl]
      exact hr2
    · rw [h0]
      exact s1
    · exact (Below.refl _ w).grown s2 (Nat.le_refl _) (fun k e => by cases e)
  | some g =>
    obtain ⟨h3, h4⟩ := (h.1 k x hk).2 g hg
    have hcells : ∀ j u, (wdsL x.r (F k))[j]? = some u → w.cell? ((⟨g, 0, none⟩ : Addr).add j) = some u := by
      intro j u hj
      have e : (⟨g, 0, none⟩ : Addr).add j = ⟨g, j, none⟩ := by by_cases h : j = 0 <;> simp [Addr.add, h]
      rw [e, h4.cell j, ← Array.getElem?_toList, rowCells_list]
      exact hj
    obtain ⟨v', w', hr2, s1, s2⟩ := run_append_arg_grows (P := Tryd.prog) w 23 ty 33 i0 (.int .u64 0) 1 8 Tryd.underlying23 hi hz0 hz1 hz2 rfl (by decide) ⟨g, 0, none⟩ x.r x.r (wdsL x.r (F k)) (by rw [wdsL_len, Nat.mul_one]) hcells ad m c news (by rw [hl, Nat.mul_one]) hnews (by omega) hml hby
    refine ⟨v', w', ?_, s1, ?_⟩
    · rw [show slX x = .slice (some ⟨g, 0, none⟩) x.r x.r by unfold slX; rw [hg]; rfl]
      exact hr2
    · exact (Below.refl _ w).grown s2 (Nat.le_refl _) (fun k e => by cases e)
end Go.Proofs.YtmjmcdoanolelabDoor
