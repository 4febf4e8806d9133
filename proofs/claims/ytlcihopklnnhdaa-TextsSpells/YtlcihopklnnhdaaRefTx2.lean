/-
  What the reference of texts answers: halves, characters.
-/
import Derived.Test.YtlcihopklnnhdaaRefTx
namespace Go.Proofs.Ytlcihopklnnhdaa
open Go.RowKit Go.Shelf

set_option maxRecDepth 10000 in
theorem high_calls (sz mn : Nat) (fr q : Bool) (hm : mn < 65536) (hq : Hid (highP ⟨sz, mn, fr⟩ = q)) (w : World) : Calls Try.prog 28 #[.agg #[.int .i64 (sz : Int), .int .i64 (mn : Int), .bool fr]] w fun e w' => e = .returned (.bool q) ∧ Below w.heap.size w w' := by
  have hq2 := hq.out
  unfold highP at hq2
  dsimp only at hq2
  have a1 := At.new w #[.int .i64 (sz : Int), .int .i64 (mn : Int), .bool fr] 50
  have c1 := a1.cell 1
  have c2 := a1.cell 2
  simp only [List.getElem?_toArray, List.getElem?_cons_zero, List.getElem?_cons_succ] at c1 c2
  clear a1 hq
  cases fr with
  | false =>
    obtain rfl : false = q := by simpa using hq2
    clear hq2
    go_enter Try.func28, Try.ntmps28
    go_wp2
    go_ret
    exact ⟨rfl, by repeat (first | with_reducible exact Below.refl _ _ | with_reducible refine Below.setCell ?_ (by first | (simp; done) | (simp; omega)) _ | with_reducible refine below_drewN ?_ _ | with_reducible refine Below.alloc ?_ (by first | (simp; done) | (simp; omega)) _ | with_reducible refine Below.drew ?_)⟩
  | true =>
    rw [Bool.true_and] at hq2
    by_cases h1 : 55296 ≤ mn
    · by_cases h2 : mn ≤ 56319
      · obtain rfl : true = q := by rw [← hq2]; simp [h1, h2]
        have i1 : (55296 : Int) ≤ (mn : Int) := by omega
        have i2 : (mn : Int) ≤ 56319 := by omega
        clear hq2
        go_enter Try.func28, Try.ntmps28
        go_wp2
        go_ret
        exact ⟨rfl, by repeat (first | with_reducible exact Below.refl _ _ | with_reducible refine Below.setCell ?_ (by first | (simp; done) | (simp; omega)) _ | with_reducible refine below_drewN ?_ _ | with_reducible refine Below.alloc ?_ (by first | (simp; done) | (simp; omega)) _ | with_reducible refine Below.drew ?_)⟩
      · obtain rfl : false = q := by rw [← hq2]; simp [h2]
        have i1 : (55296 : Int) ≤ (mn : Int) := by omega
        have i2 : decide ((mn : Int) ≤ 56319) = false := by simp; omega
        have i3 : decide (mn ≤ 56319) = false := by simp; omega
        clear hq2
        go_enter Try.func28, Try.ntmps28
        go_wp2
        go_ret
        exact ⟨rfl, by repeat (first | with_reducible exact Below.refl _ _ | with_reducible refine Below.setCell ?_ (by first | (simp; done) | (simp; omega)) _ | with_reducible refine below_drewN ?_ _ | with_reducible refine Below.alloc ?_ (by first | (simp; done) | (simp; omega)) _ | with_reducible refine Below.drew ?_)⟩
    · obtain rfl : false = q := by rw [← hq2]; simp [h1]
      have i1 : decide ((55296 : Int) ≤ (mn : Int)) = false := by simp; omega
      have i3 : decide (55296 ≤ mn) = false := by simp; omega
      clear hq2
      go_enter Try.func28, Try.ntmps28
      go_wp2
      go_ret
      exact ⟨rfl, by repeat (first | with_reducible exact Below.refl _ _ | with_reducible refine Below.setCell ?_ (by first | (simp; done) | (simp; omega)) _ | with_reducible refine below_drewN ?_ _ | with_reducible refine Below.alloc ?_ (by first | (simp; done) | (simp; omega)) _ | with_reducible refine Below.drew ?_)⟩

set_option maxRecDepth 10000 in
theorem low_calls (sz mn : Nat) (fr q : Bool) (hm : mn < 65536) (hq : Hid (lowP ⟨sz, mn, fr⟩ = q)) (w : World) : Calls Try.prog 29 #[.agg #[.int .i64 (sz : Int), .int .i64 (mn : Int), .bool fr]] w fun e w' => e = .returned (.bool q) ∧ Below w.heap.size w w' := by
  have hq2 := hq.out
  unfold lowP at hq2
  dsimp only at hq2
  have a1 := At.new w #[.int .i64 (sz : Int), .int .i64 (mn : Int), .bool fr] 50
  have c1 := a1.cell 1
  have c2 := a1.cell 2
  simp only [List.getElem?_toArray, List.getElem?_cons_zero, List.getElem?_cons_succ] at c1 c2
  clear a1 hq
  cases fr with
  | false =>
    obtain rfl : false = q := by simpa using hq2
    clear hq2
    go_enter Try.func29, Try.ntmps29
    go_wp2
    go_ret
    exact ⟨rfl, by repeat (first | with_reducible exact Below.refl _ _ | with_reducible refine Below.setCell ?_ (by first | (simp; done) | (simp; omega)) _ | with_reducible refine below_drewN ?_ _ | with_reducible refine Below.alloc ?_ (by first | (simp; done) | (simp; omega)) _ | with_reducible refine Below.drew ?_)⟩
  | true =>
    rw [Bool.true_and] at hq2
    by_cases h1 : 56320 ≤ mn
    · by_cases h2 : mn ≤ 57343
      · obtain rfl : true = q := by rw [← hq2]; simp [h1, h2]
        have i1 : (56320 : Int) ≤ (mn : Int) := by omega
        have i2 : (mn : Int) ≤ 57343 := by omega
        clear hq2
        go_enter Try.func29, Try.ntmps29
        go_wp2
        go_ret
        exact ⟨rfl, by repeat (first | with_reducible exact Below.refl _ _ | with_reducible refine Below.setCell ?_ (by first | (simp; done) | (simp; omega)) _ | with_reducible refine below_drewN ?_ _ | with_reducible refine Below.alloc ?_ (by first | (simp; done) | (simp; omega)) _ | with_reducible refine Below.drew ?_)⟩
      · obtain rfl : false = q := by rw [← hq2]; simp [h2]
        have i1 : (56320 : Int) ≤ (mn : Int) := by omega
        have i2 : decide ((mn : Int) ≤ 57343) = false := by simp; omega
        have i3 : decide (mn ≤ 57343) = false := by simp; omega
        clear hq2
        go_enter Try.func29, Try.ntmps29
        go_wp2
        go_ret
        exact ⟨rfl, by repeat (first | with_reducible exact Below.refl _ _ | with_reducible refine Below.setCell ?_ (by first | (simp; done) | (simp; omega)) _ | with_reducible refine below_drewN ?_ _ | with_reducible refine Below.alloc ?_ (by first | (simp; done) | (simp; omega)) _ | with_reducible refine Below.drew ?_)⟩
    · obtain rfl : false = q := by rw [← hq2]; simp [h1]
      have i1 : decide ((56320 : Int) ≤ (mn : Int)) = false := by simp; omega
      have i3 : decide (56320 ≤ mn) = false := by simp; omega
      clear hq2
      go_enter Try.func29, Try.ntmps29
      go_wp2
      go_ret
      exact ⟨rfl, by repeat (first | with_reducible exact Below.refl _ _ | with_reducible refine Below.setCell ?_ (by first | (simp; done) | (simp; omega)) _ | with_reducible refine below_drewN ?_ _ | with_reducible refine Below.alloc ?_ (by first | (simp; done) | (simp; omega)) _ | with_reducible refine Below.drew ?_)⟩

/-- Bytes as cells. -/
def byC (l : List Nat) : List Value := l.map fun (x : Nat) => Value.int .u8 (x : Int)
theorem byC_app (a b : List Nat) : byC (a ++ b) = byC a ++ byC b := by simp [byC]
theorem byC_len (l : List Nat) : (byC l).length = l.length := by simp [byC]

set_option maxRecDepth 10000 in
theorem char_calls (n : Nat) (hn : n < 1114112) (w : World) : Calls Try.prog 30 #[.int .i64 (n : Int)] w fun e w' => ∃ b, e = .returned (.slice (some ⟨b, 0, none⟩) (charL n).length (charL n).length) ∧ At w' b (byC (charL n)).toArray 5 ∧ Below w.heap.size w w' := by
  obtain ⟨L, hL⟩ : ∃ L, Hid (charL n = L) := ⟨_, rfl⟩
  have hL2 := hL.out
  rw [hL.out]
  unfold charL at hL2
  by_cases h1 : n < 128
  · rw [if_pos h1] at hL2
    subst hL2
    have i1 : (n : Int) < 128 := by omega
    clear hL
    go_enter Try.func30, Try.ntmps30
    go_wp2
    go_ret
    refine ⟨w.heap.size, rfl, ?_, by repeat (first | with_reducible exact Below.refl _ _ | with_reducible refine Below.setCell ?_ (by first | (simp; done) | (simp; omega)) _ | with_reducible refine below_drewN ?_ _ | with_reducible refine Below.alloc ?_ (by first | (simp; done) | (simp; omega)) _ | with_reducible refine Below.drew ?_)⟩
    exact At.new w _ _
  · rw [if_neg h1] at hL2
    have i1 : decide ((n : Int) < 128) = false := by simp; omega
    by_cases h2 : n < 2048
    · rw [if_pos h2] at hL2
      subst hL2
      have i2 : (n : Int) < 2048 := by omega
      clear hL
      go_enter Try.func30, Try.ntmps30
      go_wp2
      go_ret
      refine ⟨w.heap.size, rfl, ?_, by repeat (first | with_reducible exact Below.refl _ _ | with_reducible refine Below.setCell ?_ (by first | (simp; done) | (simp; omega)) _ | with_reducible refine below_drewN ?_ _ | with_reducible refine Below.alloc ?_ (by first | (simp; done) | (simp; omega)) _ | with_reducible refine Below.drew ?_)⟩
      rw [show (byC [192 + n / 64, 128 + n % 64]).toArray = #[.int .u8 (192 + (n : Int) / 64), .int .u8 (128 + (n : Int) % 64)] by simp [byC]]
      exact At.new w _ _
    · rw [if_neg h2] at hL2
      have i2 : decide ((n : Int) < 2048) = false := by simp; omega
      by_cases h3 : n < 65536
      · rw [if_pos h3] at hL2
        subst hL2
        have i3 : (n : Int) < 65536 := by omega
        clear hL
        go_enter Try.func30, Try.ntmps30
        go_wp2
        go_ret
        refine ⟨w.heap.size, rfl, ?_, by repeat (first | with_reducible exact Below.refl _ _ | with_reducible refine Below.setCell ?_ (by first | (simp; done) | (simp; omega)) _ | with_reducible refine below_drewN ?_ _ | with_reducible refine Below.alloc ?_ (by first | (simp; done) | (simp; omega)) _ | with_reducible refine Below.drew ?_)⟩
        rw [show (byC [224 + n / 4096, 128 + n / 64 % 64, 128 + n % 64]).toArray = #[.int .u8 (224 + (n : Int) / 4096), .int .u8 (128 + (n : Int) / 64 % 64), .int .u8 (128 + (n : Int) % 64)] by simp [byC]]
        exact At.new w _ _
      · rw [if_neg h3] at hL2
        subst hL2
        have i3 : decide ((n : Int) < 65536) = false := by simp; omega
        have i4 : (n : Int) < 1114112 := by omega
        clear hL
        go_enter Try.func30, Try.ntmps30
        go_wp2
        go_ret
        refine ⟨w.heap.size, rfl, ?_, by repeat (first | with_reducible exact Below.refl _ _ | with_reducible refine Below.setCell ?_ (by first | (simp; done) | (simp; omega)) _ | with_reducible refine below_drewN ?_ _ | with_reducible refine Below.alloc ?_ (by first | (simp; done) | (simp; omega)) _ | with_reducible refine Below.drew ?_)⟩
        rw [show (byC [240 + n / 262144, 128 + n / 4096 % 64, 128 + n / 64 % 64, 128 + n % 64]).toArray = #[.int .u8 (240 + (n : Int) / 262144), .int .u8 (128 + (n : Int) / 4096 % 64), .int .u8 (128 + (n : Int) / 64 % 64), .int .u8 (128 + (n : Int) % 64)] by simp [byC]]
        exact At.new w _ _
end Go.Proofs.Ytlcihopklnnhdaa
