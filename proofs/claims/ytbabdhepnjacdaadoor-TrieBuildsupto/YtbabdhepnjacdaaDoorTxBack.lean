/-
 What is written between quotes means what was written; it is UTF-8 as that was.
-/
import Derived.Test.YtbabdhepnjacdaaDoorTxMath
namespace Go.Proofs.YtbabdhepnjacdaaDoor
def hexC (d : Nat) : Nat := if d < 10 then 48 + d else 87 + d
/-- A byte as Escape has it. -/
def oneL (c : Nat) : List Nat :=
 if c = 34 then [92, 34] else if c = 92 then [92, 92] else if c = 8 then [92, 98] else if c = 12 then [92, 102] else if c = 10 then [92, 110] else if c = 13 then [92, 114] else if c = 9 then [92, 116]
 else if c < 32 then [92, 117, 48, 48, hexC (c / 16), hexC (c % 16)] else [c]
end Go.Proofs.YtbabdhepnjacdaaDoor
