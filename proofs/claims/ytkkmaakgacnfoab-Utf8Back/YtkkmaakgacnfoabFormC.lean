/-
  What quarrylaw05.form answers of a character.
-/
import Derived.Test.YtkkmaakgacnfoabUtf8Tell
import Derived.Laws.Cover4
namespace Go.Proofs.Ytkkmaakgacnfoab
open Go.RowKit

set_option maxRecDepth 10000 in
theorem encode_form {c : Nat} (hc : sizeN c ≠ 0) : Utf8.encode (c : Int) = mkS (formL c) := by
  have hb := size_bounds (c := c) rfl
  have hs := sizeN_iff c
  have hle := sizeN_le c
  have hv : Utf8.valid (c : Int) = true := by
    unfold Utf8.valid
    simp only [Bool.or_eq_true, Bool.and_eq_true, decide_eq_true_eq]
    omega
  unfold Utf8.encode formL mkS
  simp only [hv, if_true, Int.toNat_natCast]
  by_cases h1 : sizeN c = 1
  · rw [if_pos (show c < 128 by omega), if_pos h1]; rfl
  · rw [if_neg (show ¬ c < 128 by omega), if_neg h1]
    by_cases h2 : sizeN c = 2
    · rw [if_pos (show c < 2048 by omega), if_pos h2]; rfl
    · rw [if_neg (show ¬ c < 2048 by omega), if_neg h2]
      by_cases h3 : sizeN c = 3
      · rw [if_pos (show c < 65536 by omega), if_pos h3]; rfl
      · rw [if_neg (show ¬ c < 65536 by omega), if_neg h3, if_pos (by omega)]; rfl

set_option maxRecDepth 10000 in
theorem formc_calls {c : Nat} (hc : sizeN c ≠ 0) (w : World) :
    Calls Try.prog 9 #[.int .i32 (c : Int)] w fun e w' => e = .returned (.string (mkS (formL c))) ∧ Below w.heap.size w w' := by
  have hcv := run_convert_runes (P := Try.prog) (w.alloc (.cells #[.int .i32 (c : Int)] 21)) 40 9 21 ⟨w.heap.size, 0, none⟩ 1 1 [(c : Int)] (by simp) Try.underlying40 Try.underlying21 Try.underlying9 (fun j hj => by
    obtain rfl : j = 0 := by simp at hj; omega
    simp [Addr.add])
  have e : runesBytes ([(c : Int)].take 1) = mkS (formL c) := by
    rw [← encode_form hc]
    show runesBytes [(c : Int)] = _
    simp [runesBytes]
  rw [e] at hcv
  clear e hc
  go_enter Try.func9, Try.ntmps9
  go_wp2
  go_ret
  exact ⟨rfl, (Below.refl _ _).alloc (Nat.le_refl _) _⟩
end Go.Proofs.Ytkkmaakgacnfoab
