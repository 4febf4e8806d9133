/-
  What quarrylaw02.awake answers: true.
-/
import Derived.Test.YtjeecpgcokjjjaaBlockCut2
import Derived.Test.YtjeecpgcokjjjaaBlockEqual
import Derived.Test.YtjeecpgcokjjjaaQuietC
namespace Go.Proofs.Ytjeecpgcokjjjaa
open Go.RowKit

/-- A new block of 64 bytes, laid over at once. -/
theorem laid64 (w : World) (L : List Value) (hl : L.length = 64) : (w.alloc (.cells #[.int .u8 0, .int .u8 0, .int .u8 0, .int .u8 0, .int .u8 0, .int .u8 0, .int .u8 0, .int .u8 0, .int .u8 0, .int .u8 0, .int .u8 0, .int .u8 0, .int .u8 0, .int .u8 0, .int .u8 0, .int .u8 0, .int .u8 0, .int .u8 0, .int .u8 0, .int .u8 0, .int .u8 0, .int .u8 0, .int .u8 0, .int .u8 0, .int .u8 0, .int .u8 0, .int .u8 0, .int .u8 0, .int .u8 0, .int .u8 0, .int .u8 0, .int .u8 0, .int .u8 0, .int .u8 0, .int .u8 0, .int .u8 0, .int .u8 0, .int .u8 0, .int .u8 0, .int .u8 0, .int .u8 0, .int .u8 0, .int .u8 0, .int .u8 0, .int .u8 0, .int .u8 0, .int .u8 0, .int .u8 0, .int .u8 0, .int .u8 0, .int .u8 0, .int .u8 0, .int .u8 0, .int .u8 0, .int .u8 0, .int .u8 0, .int .u8 0, .int .u8 0, .int .u8 0, .int .u8 0, .int .u8 0, .int .u8 0, .int .u8 0, .int .u8 0] 33)).there w.heap.size 0 L.toArray.size ∧
    ∃ W, (w.alloc (.cells #[.int .u8 0, .int .u8 0, .int .u8 0, .int .u8 0, .int .u8 0, .int .u8 0, .int .u8 0, .int .u8 0, .int .u8 0, .int .u8 0, .int .u8 0, .int .u8 0, .int .u8 0, .int .u8 0, .int .u8 0, .int .u8 0, .int .u8 0, .int .u8 0, .int .u8 0, .int .u8 0, .int .u8 0, .int .u8 0, .int .u8 0, .int .u8 0, .int .u8 0, .int .u8 0, .int .u8 0, .int .u8 0, .int .u8 0, .int .u8 0, .int .u8 0, .int .u8 0, .int .u8 0, .int .u8 0, .int .u8 0, .int .u8 0, .int .u8 0, .int .u8 0, .int .u8 0, .int .u8 0, .int .u8 0, .int .u8 0, .int .u8 0, .int .u8 0, .int .u8 0, .int .u8 0, .int .u8 0, .int .u8 0, .int .u8 0, .int .u8 0, .int .u8 0, .int .u8 0, .int .u8 0, .int .u8 0, .int .u8 0, .int .u8 0, .int .u8 0, .int .u8 0, .int .u8 0, .int .u8 0, .int .u8 0, .int .u8 0, .int .u8 0, .int .u8 0] 33)).setCells w.heap.size 0 L = W ∧ At W w.heap.size L.toArray 33 ∧ Below w.heap.size w W := by
  have hA := At.new w #[.int .u8 0, .int .u8 0, .int .u8 0, .int .u8 0, .int .u8 0, .int .u8 0, .int .u8 0, .int .u8 0, .int .u8 0, .int .u8 0, .int .u8 0, .int .u8 0, .int .u8 0, .int .u8 0, .int .u8 0, .int .u8 0, .int .u8 0, .int .u8 0, .int .u8 0, .int .u8 0, .int .u8 0, .int .u8 0, .int .u8 0, .int .u8 0, .int .u8 0, .int .u8 0, .int .u8 0, .int .u8 0, .int .u8 0, .int .u8 0, .int .u8 0, .int .u8 0, .int .u8 0, .int .u8 0, .int .u8 0, .int .u8 0, .int .u8 0, .int .u8 0, .int .u8 0, .int .u8 0, .int .u8 0, .int .u8 0, .int .u8 0, .int .u8 0, .int .u8 0, .int .u8 0, .int .u8 0, .int .u8 0, .int .u8 0, .int .u8 0, .int .u8 0, .int .u8 0, .int .u8 0, .int .u8 0, .int .u8 0, .int .u8 0, .int .u8 0, .int .u8 0, .int .u8 0, .int .u8 0, .int .u8 0, .int .u8 0, .int .u8 0, .int .u8 0] 33
  refine ⟨hA.there _ (by simp [hl]), _, rfl, hA.setCells L (by simp [hl]), below_setCells ((Below.refl _ _).alloc (Nat.le_refl _) _) (Nat.le_refl _) _ _⟩

theorem kept_range {w wx w1 : World} {L : List Value} {b : Nat} (h : wx.rangeAt b 0 L ∧ Below w.heap.size w wx) (hb : Below wx.heap.size wx w1) : w1.rangeAt b 0 L ∧ Below w.heap.size w w1 :=
  ⟨range_kept h.1 hb, h.2.trans (hb.mono h.2.size)⟩

set_option maxRecDepth 100000 in
set_option maxHeartbeats 4000000 in
theorem awake_nat (F A B : Nat → Nat) (hF : ∀ i, F i < 256) (hA : Cls A) (hB : Cls B) (HF : Hid (cutF ⟨#[97, 98]⟩ 0 99 = F)) (HA : Hid (ofTo (byteAt ⟨#[97]⟩) (ByteArray.size ⟨#[97]⟩) = A)) (HB : Hid (ofTo (byteAt ⟨#[98, 99]⟩) (ByteArray.size ⟨#[98, 99]⟩) = B))
    (H2 : Hid (cutN ⟨#[97, 98]⟩ 0 = 2)) (H3 : Hid (mk (fun i => hasC A (F i)) 64 = 1)) (H4 : Hid (mk (fun i => hasC B (F i)) 64 = 18446744073709551614)) (H5 : Hid (mk (fun i => isB 98 (F i)) 64 = 2)) (w : World) :
    Calls Try.prog 27 #[] w fun e w' => e = .returned (.bool true) ∧ Below w.heap.size w w' := by
  go_enter Try.func27, Try.ntmps27
  go_wp2_with fail
  refine (cut_nat ⟨#[97, 98]⟩ 0 99 2 H2 _).mono ?_
  rintro e w1 ⟨rfl, hb1⟩
  rw [HF.out]
  obtain ⟨L, hLt, hLl⟩ := arr64_list F
  have hL1 := arr64_one _ hLt
  have hiL : (Try.prog.info? 33).map (·.size) = some L.length := by rw [hLl]; exact info64
  have hiL' : (Try.prog.info? 33).map (·.size) = some L.toArray.size := by simpa using hiL
  obtain ⟨hth, W0, hW0, hA0, hB0⟩ := laid64 w1 L hLl
  rw [← hLt]
  have hBa := hb1.trans (hB0.mono hb1.size)
  have HL : Hid (L.toArray = arr64 F) := hLt
  clear hLt
  go_wp2_with (first | (refine wpList_store_want 33 _ _ (w1.heap.size) 0 L.toArray hth hiL' (all_oneCell_toArray hL1) rfl rfl rfl (by rfl) ?_))
  have hS : W0.drew.rangeAt w1.heap.size 0 L ∧ Below w.heap.size w W0.drew := ⟨hA0.drew.range rfl, hBa.drew⟩
  have h98 : ∀ wq : World, Calls Try.prog 20 #[.agg (arr64 F), .int .u8 98] wq fun e w' => e = .returned (.int .u64 2) ∧ Below wq.heap.size wq w' := fun wq => equal_nat F hF 98 (by decide) 2 H5 wq
  clear hW0 hth hA0 hB0 hBa
  refine wp_region_quiet (C := (fun w' => w'.rangeAt w1.heap.size 0 L ∧ Below w.heap.size w w')) (by kernel_rfl) (by kernel_rfl) (hS) ?_
  dsimp only
  repeat (first
    | (refine wpQuiet_skip (by rfl) ?_; simp only [Act.put, List.setIfInBounds_toArray, List.set_cons_zero, List.set_cons_succ])
    | (refine wpQuiet_load 33 _ (w1.heap.size) (0) L _ (fun wq hq => hq.1) Try.underlying33 hiL rfl rfl rfl (by rfl) ?_; simp only [Act.put, List.setIfInBounds_toArray, List.set_cons_zero, List.set_cons_succ])
    | (refine' wpQuiet_take (by rfl) ?_ ?_
       rotate_left
       · (intro wq hq; (try dsimp only at hq); go_simp
          first
            | done
            | with_reducible rfl
            | (go_at_call 9; with_reducible refine (of_calls ⟨#[97]⟩ (by decide) _).mono ?_; rintro e wz ⟨rfl, hb⟩; rw [HA.out]; exact ⟨rfl, kept_range hq hb⟩)
            | (go_at_call 9; with_reducible refine (of_calls ⟨#[98, 99]⟩ (by decide) _).mono ?_; rintro e wz ⟨rfl, hb⟩; rw [HB.out]; exact ⟨rfl, kept_range hq hb⟩)
            | (go_at_call 19; (try rw [HL.out]); with_reducible refine (mask_nat F hF A hA 1 H3 _).mono ?_; rintro e wz ⟨rfl, hb⟩; exact ⟨rfl, kept_range hq hb⟩)
            | (go_at_call 19; (try rw [HL.out]); with_reducible refine (mask_nat F hF B hB 18446744073709551614 H4 _).mono ?_; rintro e wz ⟨rfl, hb⟩; exact ⟨rfl, kept_range hq hb⟩)
            | (go_at_call 20; (try rw [HL.out]); with_reducible refine (h98 _).mono ?_; rintro e wz ⟨rfl, hb⟩; exact ⟨rfl, kept_range hq hb⟩)
         )
       simp only [Act.put, List.setIfInBounds_toArray, List.set_cons_zero, List.set_cons_succ]))
  refine wpQuiet_nil ?_
  intro w2 h2
  go_wp2
  go_ret
  exact ⟨rfl, h2.2⟩

theorem awake_calls (w : World) : Calls Try.prog 27 #[] w fun e w' => e = .returned (.bool true) ∧ Below w.heap.size w w' :=
  awake_nat _ _ _ (cutF_lt _ _ _ (by decide)) (cls_of _ _) (cls_of _ _) rfl rfl rfl (show cutN ⟨#[97, 98]⟩ 0 = 2 by decide) (show mk (fun i => hasC (ofTo (byteAt ⟨#[97]⟩) (ByteArray.size ⟨#[97]⟩)) (cutF ⟨#[97, 98]⟩ 0 99 i)) 64 = 1 by decide +kernel)
    (show mk (fun i => hasC (ofTo (byteAt ⟨#[98, 99]⟩) (ByteArray.size ⟨#[98, 99]⟩)) (cutF ⟨#[97, 98]⟩ 0 99 i)) 64 = 18446744073709551614 by decide +kernel) (show mk (fun i => isB 98 (cutF ⟨#[97, 98]⟩ 0 99 i)) 64 = 2 by decide +kernel) w
end Go.Proofs.Ytjeecpgcokjjjaa
