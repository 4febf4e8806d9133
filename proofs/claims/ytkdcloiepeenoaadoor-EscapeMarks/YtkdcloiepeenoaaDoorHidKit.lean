/-
  A fact is laid aside.
-/
import Derived.Test.YtkdcloiepeenoaaDoorPack1
namespace Go.Proofs.YtkdcloiepeenoaaDoor
open Go.RowKit
theorem hid {p : Prop} (h : p) : Hid p := h
end Go.Proofs.YtkdcloiepeenoaaDoor
