/-
 strings.Cut at a ~; what a raw name means, by the program: tilde, meant.
-/
import Derived.Test.YtdkcgfcmmdkmpaaDoorPtM
import Derived.Test.YtdkcgfcmmdkmpaaDoorDecMath
import Derived.Test.YtdkcgfcmmdkmpaaDoorKitA
import Derived.Lib.OthersKept
import Derived.Lib.SpaceUEq
import Derived.Test.YtdkcgfcmmdkmpaaDoorBldB
import Derived.Shelf.Strings.Search2
import Derived.Test.YtdkcgfcmmdkmpaaDoorProg
import Derived.KernelRfl
import Derived.Lib.IndexBytes
namespace Go.Proofs.YtdkcgfcmmdkmpaaDoor
open Go.RowKit Go.Shelf
/-- The text of these bytes. -/
def mkL (l : List UInt8) : ByteArray := ⟨l.toArray⟩
theorem mkL_data (s : ByteArray) : mkL s.data.toList = s := by unfold mkL; simp
theorem mkL_size (l : List UInt8) : (mkL l).size = l.length := by show l.toArray.size = _; simp
theorem data_mkL (l : List UInt8) : (mkL l).data.toList = l := by unfold mkL; simp
theorem lk_mkL (l : List UInt8) (i : Nat) (x : UInt8) (h : l[i]? = some x) : lk (mkL l) i = x.toNat := by
 have hi : i < l.length := (List.getElem?_eq_some_iff.1 h).1
 rw [lk_at _ i (by rw [mkL_size]; exact hi)]
 congr 1
 have h2 := (List.getElem?_eq_some_iff.1 h).2
 exact h2
theorem idx_no : ∀ (l : List UInt8) (c : UInt8), (∀ x ∈ l, x ≠ c) → Lib.indexByte l c = -1
 | [], _, _ => rfl
 | b :: l, c, h => by
  have h1 : (b == c) = false := beq_eq_false_iff_ne.2 (h b (by simp))
  have h2 := idx_no l c (fun x hx => h x (by simp [hx]))
  unfold Lib.indexByte
  rw [h1, h2]
  rfl
theorem idx_yes : ∀ (a : List UInt8) (c : UInt8) (r : List UInt8), (∀ x ∈ a, x ≠ c) → Lib.indexByte (a ++ c :: r) c = (a.length : Int)
 | [], c, r, _ => by
  show Lib.indexByte (c :: r) c = 0
  unfold Lib.indexByte
  rw [beq_self_eq_true]
  rfl
 | b :: a, c, r, h => by
  have h1 : (b == c) = false := beq_eq_false_iff_ne.2 (h b (by simp))
  have h2 := idx_yes a c r (fun x hx => h x (by simp [hx]))
  rw [List.cons_append]
  unfold Lib.indexByte
  rw [h1, h2]
  have h3 : ((a.length : Int) == -1) = false := beq_eq_false_iff_ne.2 (by omega)
  rw [h3]
  simp
end Go.Proofs.YtdkcgfcmmdkmpaaDoor
