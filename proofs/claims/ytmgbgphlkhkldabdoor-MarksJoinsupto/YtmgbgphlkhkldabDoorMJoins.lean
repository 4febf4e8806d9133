/-
  The walk of quarrylaw08.MarksJoins.
-/
import Derived.Test.YtmgbgphlkhkldabDoorMJoins1
import Derived.Test.YtmgbgphlkhkldabDoorMJoins0
namespace Go.Proofs.YtmgbgphlkhkldabDoor
open Go.RowKit Go.Shelf
theorem marksJoins_walk (s : ByteArray) (hs : s.size ≤ 1048576) (t : ByteArray) (ht : t.size ≤ 1048576) (w : World) (hT : Tab w) (hM : TabM w) (h0 : 1 < w.heap.size) :
    Calls Tryd.prog 3 #[.string s, .string t] w fun e w' => e = .returned (.bool true) ∧ Below w.heap.size w w' :=
  callsIn_wide.1 (if h : 0 < s.size then joins1_in s (hid h) hs t ht w hT hM h0 else joins0_in s (hid h) hs t ht w hT hM h0)
end Go.Proofs.YtmgbgphlkhkldabDoor
