/-
  The law BlockCuts as a call: true, and nothing old has turned.
-/
import Derived.Test.YtjeecpgcokjjjaaBlockRefCut
import Derived.Test.YtjeecpgcokjjjaaQuietC
namespace Go.Proofs.Ytjeecpgcokjjjaa
open Go.RowKit

/-- A new block of 64 bytes, laid over at once. -/
theorem laid64 (w : World) (L : List Value) (hl : L.length = 64) : (w.alloc (.cells #[.int .u8 0, .int .u8 0, .int .u8 0, .int .u8 0, .int .u8 0, .int .u8 0, .int .u8 0, .int .u8 0, .int .u8 0, .int .u8 0, .int .u8 0, .int .u8 0, .int .u8 0, .int .u8 0, .int .u8 0, .int .u8 0, .int .u8 0, .int .u8 0, .int .u8 0, .int .u8 0, .int .u8 0, .int .u8 0, .int .u8 0, .int .u8 0, .int .u8 0, .int .u8 0, .int .u8 0, .int .u8 0, .int .u8 0, .int .u8 0, .int .u8 0, .int .u8 0, .int .u8 0, .int .u8 0, .int .u8 0, .int .u8 0, .int .u8 0, .int .u8 0, .int .u8 0, .int .u8 0, .int .u8 0, .int .u8 0, .int .u8 0, .int .u8 0, .int .u8 0, .int .u8 0, .int .u8 0, .int .u8 0, .int .u8 0, .int .u8 0, .int .u8 0, .int .u8 0, .int .u8 0, .int .u8 0, .int .u8 0, .int .u8 0, .int .u8 0, .int .u8 0, .int .u8 0, .int .u8 0, .int .u8 0, .int .u8 0, .int .u8 0, .int .u8 0] 33)).there w.heap.size 0 L.toArray.size ∧
    ∃ W, (w.alloc (.cells #[.int .u8 0, .int .u8 0, .int .u8 0, .int .u8 0, .int .u8 0, .int .u8 0, .int .u8 0, .int .u8 0, .int .u8 0, .int .u8 0, .int .u8 0, .int .u8 0, .int .u8 0, .int .u8 0, .int .u8 0, .int .u8 0, .int .u8 0, .int .u8 0, .int .u8 0, .int .u8 0, .int .u8 0, .int .u8 0, .int .u8 0, .int .u8 0, .int .u8 0, .int .u8 0, .int .u8 0, .int .u8 0, .int .u8 0, .int .u8 0, .int .u8 0, .int .u8 0, .int .u8 0, .int .u8 0, .int .u8 0, .int .u8 0, .int .u8 0, .int .u8 0, .int .u8 0, .int .u8 0, .int .u8 0, .int .u8 0, .int .u8 0, .int .u8 0, .int .u8 0, .int .u8 0, .int .u8 0, .int .u8 0, .int .u8 0, .int .u8 0, .int .u8 0, .int .u8 0, .int .u8 0, .int .u8 0, .int .u8 0, .int .u8 0, .int .u8 0, .int .u8 0, .int .u8 0, .int .u8 0, .int .u8 0, .int .u8 0, .int .u8 0, .int .u8 0] 33)).setCells w.heap.size 0 L = W ∧ At W w.heap.size L.toArray 33 ∧ Below w.heap.size w W := by
  have hA := At.new w #[.int .u8 0, .int .u8 0, .int .u8 0, .int .u8 0, .int .u8 0, .int .u8 0, .int .u8 0, .int .u8 0, .int .u8 0, .int .u8 0, .int .u8 0, .int .u8 0, .int .u8 0, .int .u8 0, .int .u8 0, .int .u8 0, .int .u8 0, .int .u8 0, .int .u8 0, .int .u8 0, .int .u8 0, .int .u8 0, .int .u8 0, .int .u8 0, .int .u8 0, .int .u8 0, .int .u8 0, .int .u8 0, .int .u8 0, .int .u8 0, .int .u8 0, .int .u8 0, .int .u8 0, .int .u8 0, .int .u8 0, .int .u8 0, .int .u8 0, .int .u8 0, .int .u8 0, .int .u8 0, .int .u8 0, .int .u8 0, .int .u8 0, .int .u8 0, .int .u8 0, .int .u8 0, .int .u8 0, .int .u8 0, .int .u8 0, .int .u8 0, .int .u8 0, .int .u8 0, .int .u8 0, .int .u8 0, .int .u8 0, .int .u8 0, .int .u8 0, .int .u8 0, .int .u8 0, .int .u8 0, .int .u8 0, .int .u8 0, .int .u8 0, .int .u8 0] 33
  refine ⟨hA.there _ (by simp [hl]), _, rfl, hA.setCells L (by simp [hl]), below_setCells ((Below.refl _ _).alloc (Nat.le_refl _) _) (Nat.le_refl _) _ _⟩
theorem size_byte (w : World) : (sizeOf 5).run Try.prog w = .ok 1 w := by kernel_rfl
theorem eqIn64 (f g : Nat → Nat) (w : World) : (Op.equalIn 10000 33 (.agg (arr64 f)) (.agg (arr64 g))).run Try.prog w = .ok ((List.range 64).all fun i => ((f i : Nat) : Int) == ((g i : Nat) : Int)) w :=
  run_equalIn_fun w 9998 33 5 64 .u8 Try.underlying33 Try.underlying5 size_byte (arr64 f) (arr64 g) (fun i => ((f i : Nat) : Int)) (fun i => ((g i : Nat) : Int)) (arr64_at f) (arr64_at g)
theorem eql64_same (f : Nat → Nat) (w : World) : (binOp .eql 33 (.agg (arr64 f)) (.agg (arr64 f))).run Try.prog w = .ok (.bool true) w := by
  rw [run_eql_struct, eqIn64]; simp
theorem neq64_same (f : Nat → Nat) (w : World) : (binOp .neq 33 (.agg (arr64 f)) (.agg (arr64 f))).run Try.prog w = .ok (.bool false) w := by
  rw [run_neq_struct, eqIn64]; simp

set_option maxRecDepth 100000 in
set_option maxHeartbeats 4000000 in
theorem cuts_nat (s : ByteArray) (hs : s.size ≤ 9223372036854775807) (a : Int) (ha : -9223372036854775808 ≤ a) (ha' : a < 9223372036854775808) (p : Nat) (n : Nat) (Hn : Hid (cutN s a = n)) (F0 F : Nat → Nat) (HF0 : Hid (cutF ⟨#[120, 121, 122]⟩ 1 7 = F0)) (HF : Hid (cutF s a p = F)) (H2 : Hid (cutN ⟨#[120, 121, 122]⟩ 1 = 2))
    (f0 : F0 0 = 121) (f1 : F0 1 = 122) (f2 : F0 2 = 7) (f63 : F0 63 = 7) (w : World) :
    Calls Try.prog 5 #[.string s, .int .i64 a, .int .u8 (p : Int)] w fun e w' => e = .returned (.bool true) ∧ Below w.heap.size w w' := by
  go_enter Try.func5, Try.ntmps5
  go_wp2_with fail
  refine (cut_nat ⟨#[120, 121, 122]⟩ 1 7 2 H2 _).mono ?_
  rintro e w1 ⟨rfl, hb1⟩
  rw [HF0.out]
  obtain ⟨L0, hLt0, hLl0⟩ := arr64_list F0
  have hL10 := arr64_one _ hLt0
  have hi0 : (Try.prog.info? 33).map (·.size) = some L0.toArray.size := by rw [List.size_toArray, hLl0]; exact info64
  obtain ⟨hth0, W0, hW0, hA0, hB0⟩ := laid64 w1 L0 hLl0
  rw [← hLt0]
  have hc : ∀ i, i < 64 → W0.cell? ⟨w1.heap.size, i, none⟩ = some (.int .u8 ((F0 i : Nat) : Int)) := fun i hi => by rw [hA0.cell, hLt0, arr64_at F0 i hi]
  have c0 := hc 0 (by decide)
  have c1 := hc 1 (by decide)
  have c2 := hc 2 (by decide)
  have c63 := hc 63 (by decide)
  rw [f0] at c0
  rw [f1] at c1
  rw [f2] at c2
  rw [f63] at c63
  have hB0' := hb1.trans (hB0.mono hb1.size)
  clear hc hLt0
  go_wp2_with (first | (refine wpList_store_want 33 _ _ (w1.heap.size) 0 L0.toArray hth0 hi0 (all_oneCell_toArray hL10) rfl rfl rfl (by rfl) ?_))
  clear c0 c1 c2 c63 hth0 hW0 hA0 hB0 hL10 hi0
  refine (cut_nat s a p n Hn _).mono ?_
  rintro e w2 ⟨rfl, hb2⟩
  rw [HF.out]
  obtain ⟨L, hLt, hLl⟩ := arr64_list F
  have hL1 := arr64_one _ hLt
  have hiL : (Try.prog.info? 33).map (·.size) = some L.length := by rw [hLl]; exact info64
  have hiL' : (Try.prog.info? 33).map (·.size) = some L.toArray.size := by simpa using hiL
  obtain ⟨hth2, W2, hW2, hA2, hB2⟩ := laid64 w2 L hLl
  have hBa := (hB0'.trans (hb2.mono hB0'.size))
  have hBb := hBa.trans (hB2.mono hBa.size)
  have heq := eql64_same F
  rw [← hLt] at heq ⊢
  have HL : Hid (L.toArray = arr64 F) := hLt
  clear hLt hBa
  go_wp2_with (first | (refine wpList_store_want 33 _ _ (w2.heap.size) 0 L.toArray hth2 hiL' (all_oneCell_toArray hL1) rfl rfl rfl (by rfl) ?_))
  refine (refCut_nat s hs a ha ha' p n Hn _).mono ?_
  rintro e w3 ⟨rfl, hb3⟩
  rw [HF.out, ← HL.out]
  obtain ⟨hth3, W3, hW3, hA3, hB3⟩ := laid64 w3 L hLl
  have hA2' := (hA2.keptAll hb3).keptAll hB3
  have hr2 := hA2'.range rfl
  have hr3 := hA3.range rfl
  have hBc := hBb.trans (hb3.mono hBb.size)
  have hBd := hBc.trans (hB3.mono hBc.size)
  clear hth2 hW2 hA2 hA2' hA3 hB2 hBb hBc
  go_wp2_with (first | (refine wpList_store_want 33 _ _ (w3.heap.size) 0 L.toArray hth3 hiL' (all_oneCell_toArray hL1) rfl rfl rfl (by rfl) ?_) | (refine wpList_load_want 33 _ (w2.heap.size) 0 L _ hr2 Try.underlying33 hiL rfl rfl rfl (by rfl) ?_) | (refine wpList_load_want 33 _ (w3.heap.size) 0 L _ hr3 Try.underlying33 hiL rfl rfl rfl (by rfl) ?_))
  go_ret
  exact ⟨rfl, hBd⟩

theorem blockCuts_walk (s : ByteArray) (hs : s.size ≤ maxLen) (a : Int) (ha : (Lit.int .i64 a).wf = true) (p : Int) (hp : (Lit.int .u8 p).wf = true) (w : World) :
    Calls Try.prog 5 #[.string s, .int .i64 a, .int .u8 p] w fun e w' => e = .returned (.bool true) ∧ Below w.heap.size w w' := by
  obtain ⟨c0, c1⟩ := wf_u8 hp
  obtain ⟨a0, a1⟩ := wf_i64 ha
  obtain ⟨X, rfl⟩ := Int.eq_ofNat_of_zero_le c0
  exact cuts_nat s (by unfold maxLen at hs; omega) a a0 a1 X _ rfl _ _ rfl rfl (show cutN ⟨#[120, 121, 122]⟩ 1 = 2 by decide) (by decide) (by decide) (by decide) (by decide) w
end Go.Proofs.Ytjeecpgcokjjjaa
