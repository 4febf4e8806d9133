/-
  What zeros answers (for DecimalLoose).
-/
import Derived.Test.YtheeonlfbnkhgaaDoorLooseMath
namespace Go.Proofs.YtheeonlfbnkhgaaDoor
open Go.RowKit Go.Shelf

theorem repl_snoc (i : Nat) : (⟨(List.replicate i (48 : UInt8)).toArray⟩ : ByteArray) ++ ⟨#[48]⟩ = ⟨(List.replicate (i + 1) (48 : UInt8)).toArray⟩ := by
  apply ByteArray.ext
  rw [ByteArray.data_append]
  apply Array.ext'
  rw [List.replicate_succ', Array.toList_append]
set_option maxRecDepth 10000 in
theorem zeros_calls (n : Nat) (hn : n ≤ 1000) (Z : ByteArray) (hZ : Hid ((⟨(List.replicate n (48 : UInt8)).toArray⟩ : ByteArray) = Z)) (w : World) :
    Calls Tryd.prog 9 #[.int .i64 (n : Int)] w fun e w' => e = .returned (.string Z) ∧ w' = w := by
  go_enter Tryd.func9, Tryd.ntmps9
  go_wp2
  go_loop [3, 4] (fun ss ii => ∃ (i : Nat) (s : ByteArray), i ≤ n ∧ ii = .int .i64 (i : Int) ∧ ss = .string s ∧ Hid ((⟨(List.replicate i (48 : UInt8)).toArray⟩ : ByteArray) = s)) (fun _ ii => n - (intOf ii).toNat)
  case atStart => exact ⟨0, ⟨#[]⟩, Nat.zero_le _, rfl, rfl, rfl⟩
  case round =>
    obtain ⟨i, s, hi, rfl, rfl, hs⟩ := hrel
    have hsz : s.size = i := by rw [← hs.out, Lib.size_mk, List.length_replicate]
    by_cases hin : i < n
    · have e1 : decide ((i : Int) < (n : Int)) = true := by simp; omega
      have h1 : (⟨#[48]⟩ : ByteArray).size = 1 := rfl
      have hsum : ¬ s.size + (⟨#[48]⟩ : ByteArray).size > 9223372036854775807 := by rw [h1]; omega
      have hs' := hs
      clear hsz h1
      go_wp2
      go_round
      case rel => exact ⟨i + 1, s ++ ⟨#[48]⟩, by omega, by simp, rfl, by show _ = _; rw [← hs'.out, repl_snoc]⟩
      case measure => simp [intOf]; omega
    · have e1 : decide ((i : Int) < (n : Int)) = false := by simp; omega
      obtain rfl : i = n := by omega
      have hsZ : s = Z := by rw [← hs.out, hZ.out]
      subst hsZ
      clear hsz
      go_wp2
      go_ret
      exact ⟨rfl, rfl⟩
end Go.Proofs.YtheeonlfbnkhgaaDoor
