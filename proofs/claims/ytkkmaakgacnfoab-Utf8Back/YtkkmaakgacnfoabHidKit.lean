/-
  A fact is laid aside.
-/
import Derived.Test.YtkkmaakgacnfoabKit
namespace Go.Proofs.Ytkkmaakgacnfoab
open Go.RowKit
theorem hid {p : Prop} (h : p) : Hid p := h
end Go.Proofs.Ytkkmaakgacnfoab
