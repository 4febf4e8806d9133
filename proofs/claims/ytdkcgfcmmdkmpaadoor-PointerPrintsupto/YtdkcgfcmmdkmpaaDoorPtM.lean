/-
 Pointers as lists of bytes: what a name means, how it is written; one behind the other.
-/
import Derived.Below
namespace Go.Proofs.YtdkcgfcmmdkmpaaDoor
/-- How a name is written. -/
def wrN : List UInt8 → List UInt8
 | [] => []
 | c :: t => if c = 126 then 126 :: 48 :: wrN t else if c = 47 then 126 :: 49 :: wrN t else c :: wrN t
/-- How names are written. -/
def wrL : List (List UInt8) → List UInt8
 | [] => []
 | a :: r => 47 :: (wrN a ++ wrL r)
/-- One pointer behind another one. -/
theorem wrL_app : ∀ L M : List (List UInt8), wrL (L ++ M) = wrL L ++ wrL M
 | [], M => rfl
 | a :: L, M => by rw [List.cons_append, wrL, wrL, wrL_app L M]; simp
end Go.Proofs.YtdkcgfcmmdkmpaaDoor
