/-
  A fact is laid aside.
-/
import Derived.Test.YtkkmaakgacnfoaaKit
namespace Go.Proofs.Ytkkmaakgacnfoaa
open Go.RowKit
theorem hid {p : Prop} (h : p) : Hid p := h
end Go.Proofs.Ytkkmaakgacnfoaa
