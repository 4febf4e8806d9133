/-
  What a Scan's New, Feed and End answer.
-/
import Derived.Test.YtkkmaakgacnfoaaUtf8Read
namespace Go.Proofs.Ytkkmaakgacnfoaa
open Go.RowKit

set_option maxRecDepth 10000 in
theorem newS_calls (w : World) : Calls Try.prog 10 #[] w fun e w' => e = .returned (.pointer (some ⟨w.heap.size, 0, none⟩)) ∧ w' = w.alloc (.cells (stC s5) 51) := by
  go_enter Try.func10, Try.ntmps10
  go_wp2
  go_ret
  exact ⟨rfl, rfl⟩

set_option maxRecDepth 10000 in
theorem feed_calls (b : Nat) (t : TypeId) (s : St5) (z : ByteArray) (w : World) (hA : At w b (stC s) t) (hL : s.q.left ≤ 3) (hg : s.good + z.size < 9223372036854775807) :
    Calls Try.prog 12 #[.pointer (some ⟨b, 0, none⟩), .string z] w fun e w' => e = .returned (.bool (!(runS s (byts z)).wrong)) ∧ Only b w w' ∧ At w' b (stC (runS s (byts z))) t := by
  have hr := hid (read_calls b t s z w hA hL hg)
  clear hA hL hg
  go_enter Try.func12, Try.ntmps12
  go_wp2_with fail
  refine Calls.mono hr.out ?_
  rintro e w1 ⟨rfl, h1, h2⟩
  have h1' := hid h1
  have h2' := hid h2
  clear h1 h2 hr
  go_wp2
  go_ret
  exact ⟨rfl, h1'.out, h2'.out⟩

set_option maxRecDepth 10000 in
theorem end_calls (b : Nat) (t : TypeId) (s : St5) (w : World) (hA : At w b (stC s) t) :
    Calls Try.prog 11 #[.pointer (some ⟨b, 0, none⟩)] w fun e w' => e = .returned (.int .i64 (badI s)) ∧ w' = w := by
  have hr := hid (bad_calls b t s w hA)
  clear hA
  go_enter Try.func11, Try.ntmps11
  go_wp2_with fail
  refine Calls.mono hr.out ?_
  rintro e w1 ⟨rfl, hw1⟩
  rw [hw1]
  clear hr hw1
  go_wp2
  go_ret
  exact ⟨rfl, rfl⟩
end Go.Proofs.Ytkkmaakgacnfoaa
