/-
  A decimal, written loosely, is worth the same (mathematics; for DecimalLoose).
-/
import Derived.Test.YtheeonlfbnkhgaaDoorBackMath
namespace Go.Proofs.YtheeonlfbnkhgaaDoor
open Go.RowKit

theorem noughts_left {l : List UInt8} (h : ∀ b, l[0]? = some b → b ≠ 48) (h0 : l ≠ []) (r : List UInt8) : Lib.trimLeftB (l ++ r) 48 = l ++ r := by
  cases l with
  | nil => exact absurd rfl h0
  | cons b q =>
    have hb := h b rfl
    unfold Lib.trimLeftB
    rw [List.cons_append, List.dropWhile_cons]
    simp [hb]
theorem noughts_right {l : List UInt8} {y : UInt8} (hy : y ≠ 48) (N : Nat) : Lib.trimRightB (l ++ [y] ++ List.replicate N 48) 48 = l ++ [y] := by
  unfold Lib.trimRightB
  rw [List.reverse_append, List.reverse_replicate]
  have h : (List.replicate N (48 : UInt8) ++ (l ++ [y]).reverse).dropWhile (· == 48) = (l ++ [y]).reverse := by
    induction N with
    | zero =>
      rw [List.replicate_zero, List.nil_append, List.reverse_append, List.reverse_singleton, List.singleton_append, List.dropWhile_cons]
      simp [hy]
    | succ N ih =>
      rw [List.replicate_succ, List.cons_append, List.dropWhile_cons]
      simpa using ih
  rw [h, List.reverse_reverse]
/-- The digits with noughts behind, cut in two anywhere: the same worth. -/
theorem worth_loose (n : Bool) {t : ByteArray} {x : Int} (h : frmS t x = true) (h0 : t.size ≠ 0) (N : Nat) (W P : ByteArray) (dn : Bool) (D : ByteArray) (hWP : W.data.toList ++ P.data.toList = t.data.toList ++ List.replicate N 48) (hp : powS ⟨n, W, P, dn, D⟩ = x - (N : Int) + (P.size : Int)) :
    worthS ⟨n, W, P, dn, D⟩ = some ⟨n, t.data.toList, x⟩ := by
  obtain ⟨-, h2, h3, h4⟩ := frm_parts h h0
  have hne : t.data.toList ≠ [] := fun e => h0 (by rw [← size_list, e]; rfl)
  have hall : allS ⟨n, W, P, dn, D⟩ = t.data.toList ++ List.replicate N 48 := by
    show Lib.trimLeftB (W.data.toList ++ P.data.toList) 48 = _
    rw [hWP]
    refine noughts_left (fun b hb e => ?_) hne _
    rw [e] at hb
    exact h2 (lk_get hb).1
  have hlast : ∃ l y, t.data.toList = l ++ [y] ∧ y ≠ 48 := by
    refine ⟨t.data.toList.dropLast, t.data.toList.getLast hne, (List.dropLast_concat_getLast hne).symm, fun e => h3 ?_⟩
    have hg : t.data.toList[t.size - 1]? = some (t.data.toList.getLast hne) := by
      rw [← size_list, ← List.getLast?_eq_getElem?, List.getLast?_eq_some_getLast hne]
    rw [e] at hg
    exact (lk_get hg).1
  obtain ⟨l, y, hl, hy⟩ := hlast
  have hdig : digS ⟨n, W, P, dn, D⟩ = t.data.toList := by
    unfold digS
    rw [hall, hl]
    exact noughts_right hy N
  have hex : expS ⟨n, W, P, dn, D⟩ = x := by
    unfold expS
    rw [hp, hall, hdig, List.length_append, List.length_replicate]
    show x - (N : Int) + (P.size : Int) - (P.size : Int) + ((t.data.toList.length + N - t.data.toList.length : Nat) : Int) = x
    omega
  unfold worthS
  rw [if_neg (by rw [hall]; intro e; exact hne (List.append_eq_nil_iff.1 e).1), hex, h4, hdig]
  rfl
/-- The exponent's digits: noughts ahead don't count. -/
theorem pw_noughts (N : Nat) (l : List UInt8) : pwN (List.replicate N 48 ++ l) = pwN l := by
  unfold pwN
  rw [List.foldl_append]
  congr 1
  induction N with
  | zero => rfl
  | succ N ih =>
    rw [List.replicate_succ, List.foldl_cons]
    exact ih
end Go.Proofs.YtheeonlfbnkhgaaDoor
