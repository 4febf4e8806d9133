/-
 What a number's text is, and what decimal it is of (mathematics alone).
-/
import Derived.Test.YtdkcgfcmmdkmpaaDoorKitA
import Derived.Lib.TrimByte
namespace Go.Proofs.YtdkcgfcmmdkmpaaDoor
open Go.RowKit
/-- The byte at a place; 0 beyond the end. -/
def lk (s : ByteArray) (i : Nat) : Nat := if h : i < s.size then (s[i]'h).toNat else 0
theorem lk_at (s : ByteArray) (i : Nat) (h : i < s.size) : lk s i = (s[i]'h).toNat := dif_pos h
end Go.Proofs.YtdkcgfcmmdkmpaaDoor
