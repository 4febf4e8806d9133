/-
  EscapeOdds: the row of backslashes that ends ahead of any place.
-/
import Derived.Test.YtkdcloiepeenoaaRefIs
import Derived.SizedLaws
namespace Go.Proofs.Ytkdcloiepeenoaa
open Go.RowKit

theorem odds_ex (s : ByteArray) (hs : s.size ≤ 9223372036854775807) (a : Int) : ∃ (f : Nat) (o : Bool), Hid (∀ w, Calls Try.prog 7 #[.string s, .int .i64 a] w fun e w' => e = .returned (.tuple #[.int .i64 (f : Int), .bool o]) ∧ w' = w) ∧
    Hid (∀ w, Calls Try.prog 8 #[.string s, .int .i64 a] w fun e w' => e = .returned (.tuple #[.int .i64 (f : Int), .bool o]) ∧ w' = w) := by
  by_cases h : 0 ≤ a ∧ a ≤ s.size
  · obtain ⟨n, rfl⟩ : ∃ n : Nat, a = n := ⟨a.toNat, by omega⟩
    exact ⟨_, _, fun w => odd_nat s n _ _ hs (by omega) ⟨rfl, rfl⟩ w, fun w => refOdd_nat s n _ _ hs (by omega) ⟨rfl, rfl⟩ w⟩
  · exact ⟨0, false, fun w => odd_out s a h w, fun w => refOdd_out s a h w⟩

set_option maxRecDepth 10000 in
set_option maxHeartbeats 1000000 in
theorem escapeOdds_walk (s : ByteArray) (hs : s.size ≤ reachBytes) (a : Int) (_w1 : (Lit.int .i64 a).wf = true) (w : World) :
    Calls Try.prog 4 #[.string s, .int .i64 a] w fun e w' => e = .returned (.bool true) ∧ Below w.heap.size w w' := by
  have hs' : s.size ≤ 9223372036854775807 := Nat.le_trans hs (by decide)
  obtain ⟨f, o, h1, h2⟩ := odds_ex s hs' a
  clear hs hs' _w1
  go_enter Try.func4, Try.ntmps4
  go_wp2_with fail
  refine (h1.out _).mono ?_
  rintro e w1 ⟨rfl, rfl⟩
  go_wp2_with fail
  refine (h2.out _).mono ?_
  rintro e w2 ⟨rfl, rfl⟩
  clear h1 h2
  go_wp2_with fail
  refine (odd_nat ⟨#[92]⟩ 1 0 true (by decide) (by decide) ⟨by decide, by decide⟩ _).mono ?_
  rintro e w3 ⟨rfl, rfl⟩
  have e1 : ((f : Int) == (f : Int)) = true := by simp
  have e2 : (o == o) = true := by simp
  go_wp2
  go_ret
  exact ⟨rfl, Below.refl _ _⟩
end Go.Proofs.Ytkdcloiepeenoaa
