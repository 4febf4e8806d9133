/-
  A fact is laid aside.
-/
import Derived.Test.YtkdcloiepeenoaaKit
namespace Go.Proofs.Ytkdcloiepeenoaa
open Go.RowKit
theorem hid {p : Prop} (h : p) : Hid p := h
end Go.Proofs.Ytkdcloiepeenoaa
