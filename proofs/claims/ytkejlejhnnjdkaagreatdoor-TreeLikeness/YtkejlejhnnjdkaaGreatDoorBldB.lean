/-
 strings.Builder's WriteByte; what a write keeps.
-/
import Derived.Test.YtkejlejhnnjdkaaGreatDoorBld
import Derived.Laws.AppendOwn
namespace Go.Proofs.YtkejlejhnnjdkaaGreatDoor
open Go.RowKit Go.Shelf
/-- WriteString, with what it keeps. -/
theorem bstr_calls (m B : Nat) (l : List UInt8) (s : ByteArray) (hm : m < B) (hn : l.length + s.size ≤ 140737488355328) (w : World) (h : BdI w m B l) (hB : B ≤ w.heap.size) :
  Calls Tryz.prog 110 #[.pointer (some ⟨m, 0, none⟩), .string s] w fun e w' => e = .returned (.tuple #[.int .i64 (s.size : Int), .nilIface]) ∧ BdI w' m B (l ++ s.data.toList) ∧ Below m w w' := by
 refine (bwrite_calls m B l s hm hn w h hB).mono ?_
 rintro e w' ⟨rfl, h1, h2⟩
 exact ⟨rfl, h1, (h2 m (m + 1) (m + 1) (Nat.le_refl _) (Nat.lt_succ_self _) (Nat.succ_ne_self _)).1⟩
end Go.Proofs.YtkejlejhnnjdkaaGreatDoor
