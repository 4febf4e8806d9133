/-
  The law BlockMasks as a call: true, and nothing old has turned.
-/
import Derived.Test.YtjeecpgcokjjjaaBlockRefMask
import Derived.Test.YtjeecpgcokjjjaaBlockEqual
import Derived.Test.YtjeecpgcokjjjaaBlockOpen
import Derived.Test.YtjeecpgcokjjjaaQuietC
namespace Go.Proofs.Ytjeecpgcokjjjaa
open Go.RowKit

/-- The block of the law's own: a as byte 7, b as byte 63. -/
def headF (i : Nat) : Nat := if i = 7 then 97 else if i = 63 then 98 else 0
theorem headF_lt (i : Nat) : headF i < 256 := by unfold headF; split <;> (try split) <;> decide
theorem head_lit : #[.int .u8 0, .int .u8 0, .int .u8 0, .int .u8 0, .int .u8 0, .int .u8 0, .int .u8 0, .int .u8 97, .int .u8 0, .int .u8 0, .int .u8 0, .int .u8 0, .int .u8 0, .int .u8 0, .int .u8 0, .int .u8 0, .int .u8 0, .int .u8 0, .int .u8 0, .int .u8 0, .int .u8 0, .int .u8 0, .int .u8 0, .int .u8 0, .int .u8 0, .int .u8 0, .int .u8 0, .int .u8 0, .int .u8 0, .int .u8 0, .int .u8 0, .int .u8 0, .int .u8 0, .int .u8 0, .int .u8 0, .int .u8 0, .int .u8 0, .int .u8 0, .int .u8 0, .int .u8 0, .int .u8 0, .int .u8 0, .int .u8 0, .int .u8 0, .int .u8 0, .int .u8 0, .int .u8 0, .int .u8 0, .int .u8 0, .int .u8 0, .int .u8 0, .int .u8 0, .int .u8 0, .int .u8 0, .int .u8 0, .int .u8 0, .int .u8 0, .int .u8 0, .int .u8 0, .int .u8 0, .int .u8 0, .int .u8 0, .int .u8 0, .int .u8 98] = arr64 headF := by rfl
theorem arr64_list (f : Nat → Nat) : ∃ L : List Value, L.toArray = arr64 f ∧ L.length = 64 := ⟨(arr64 f).toList, by simp, by simp [arr64]⟩
theorem info64 : (Try.prog.info? 33).map (·.size) = some 64 := by kernel_rfl

theorem kept_masks {w wx w1 : World} {c : Nat → Nat} {L H : List Value} {b0 b1 b2 : Nat} (h : wx.rangeAt b0 0 L ∧ (wx.cell? ⟨b1, 0, none⟩ = some (.int .u64 ((c 0 : Nat) : Int)) ∧ wx.cell? ⟨b1, 1, none⟩ = some (.int .u64 ((c 1 : Nat) : Int)) ∧ wx.cell? ⟨b1, 2, none⟩ = some (.int .u64 ((c 2 : Nat) : Int)) ∧ wx.cell? ⟨b1, 3, none⟩ = some (.int .u64 ((c 3 : Nat) : Int))) ∧ wx.rangeAt b2 0 H ∧ Below w.heap.size w wx) (hb : Below wx.heap.size wx w1) :
    w1.rangeAt b0 0 L ∧ (w1.cell? ⟨b1, 0, none⟩ = some (.int .u64 ((c 0 : Nat) : Int)) ∧ w1.cell? ⟨b1, 1, none⟩ = some (.int .u64 ((c 1 : Nat) : Int)) ∧ w1.cell? ⟨b1, 2, none⟩ = some (.int .u64 ((c 2 : Nat) : Int)) ∧ w1.cell? ⟨b1, 3, none⟩ = some (.int .u64 ((c 3 : Nat) : Int))) ∧ w1.rangeAt b2 0 H ∧ Below w.heap.size w w1 := by
  obtain ⟨h0, hc, h2, hB⟩ := h
  have := kept4 ⟨hc, hB⟩ hb
  exact ⟨range_kept h0 hb, this.1, range_kept h2 hb, this.2⟩

set_option maxRecDepth 100000 in
set_option maxHeartbeats 8000000 in
theorem masks_nat (f : Nat → Nat) (hf : ∀ i, f i < 256) (c : Nat → Nat) (hc : Cls c) (x : Nat) (hx : x < 256) (AB : Nat → Nat) (hAB : Cls AB) (HAB : Hid (ofTo (byteAt ⟨#[97, 98]⟩) (ByteArray.size ⟨#[97, 98]⟩) = AB))
    (M3 M4 : Nat) (HM1 : Hid (mk (fun i => hasC AB (headF i)) 64 = 9223372036854775936)) (HM2 : Hid (mk (fun i => isB 97 (headF i)) 64 = 128)) (HM3 : Hid (mk (fun i => hasC c (f i)) 64 = M3)) (HM4 : Hid (mk (fun i => isB x (f i)) 64 = M4)) (w : World) :
    Calls Try.prog 4 #[.agg (arr64 f), .agg (clsArr c), .int .u8 (x : Int)] w fun e w' => e = .returned (.bool true) ∧ Below w.heap.size w w' := by
  go_enter Try.func4, Try.ntmps4
  go_wp2
  rw [head_lit]
  have hA0 := ((At.new w (arr64 f) 33).alloc (.cells (clsArr c) 25)).alloc (.cells (arr64 headF) 33)
  have hD0 := (At.new (w.alloc (.cells (arr64 f) 33)) (clsArr c) 25).alloc (.cells (arr64 headF) 33)
  have hH0 := At.new ((w.alloc (.cells (arr64 f) 33)).alloc (.cells (clsArr c) 25)) (arr64 headF) 33
  have hB0 : Below w.heap.size w (((w.alloc (.cells (arr64 f) 33)).alloc (.cells (clsArr c) 25)).alloc (.cells (arr64 headF) 33)) := by repeat (first | with_reducible exact Below.refl _ _ | with_reducible refine Below.setCell ?_ (by first | (simp; done) | (simp; omega)) _ | with_reducible refine below_drewN ?_ _ | with_reducible refine Below.alloc ?_ (by first | (simp; done) | (simp; omega)) _ | with_reducible refine Below.drew ?_)
  simp only [World.size_alloc] at hD0 hH0
  generalize ((w.alloc (.cells (arr64 f) 33)).alloc (.cells (clsArr c) 25)).alloc (.cells (arr64 headF) 33) = W0 at *
  obtain ⟨L, hLt, hLl⟩ := arr64_list f
  obtain ⟨H, hHt, hHl⟩ := arr64_list headF
  have hu := Try.underlying33
  have hiL : (Try.prog.info? 33).map (·.size) = some L.length := by rw [hLl]; exact info64
  have hiH : (Try.prog.info? 33).map (·.size) = some H.length := by rw [hHl]; exact info64
  have hS : W0.drew.rangeAt w.heap.size 0 L ∧ (W0.drew.cell? ⟨w.heap.size + 1, 0, none⟩ = some (.int .u64 ((c 0 : Nat) : Int)) ∧ W0.drew.cell? ⟨w.heap.size + 1, 1, none⟩ = some (.int .u64 ((c 1 : Nat) : Int)) ∧ W0.drew.cell? ⟨w.heap.size + 1, 2, none⟩ = some (.int .u64 ((c 2 : Nat) : Int)) ∧ W0.drew.cell? ⟨w.heap.size + 1, 3, none⟩ = some (.int .u64 ((c 3 : Nat) : Int))) ∧ W0.drew.rangeAt (w.heap.size + 1 + 1) 0 H ∧ Below w.heap.size w W0.drew := ⟨hA0.drew.range hLt, hD0.drew.four.1, hH0.drew.range hHt, hB0.drew⟩
  clear hA0 hD0 hH0
  have h97 : ∀ wq : World, Calls Try.prog 20 #[.agg (arr64 headF), .int .u8 97] wq fun e w' => e = .returned (.int .u64 128) ∧ Below wq.heap.size wq w' := fun wq => equal_nat headF headF_lt 97 (by decide) 128 HM2 wq
  refine wp_region_quiet (C := (fun w' => w'.rangeAt w.heap.size 0 L ∧ (w'.cell? ⟨w.heap.size + 1, 0, none⟩ = some (.int .u64 ((c 0 : Nat) : Int)) ∧ w'.cell? ⟨w.heap.size + 1, 1, none⟩ = some (.int .u64 ((c 1 : Nat) : Int)) ∧ w'.cell? ⟨w.heap.size + 1, 2, none⟩ = some (.int .u64 ((c 2 : Nat) : Int)) ∧ w'.cell? ⟨w.heap.size + 1, 3, none⟩ = some (.int .u64 ((c 3 : Nat) : Int))) ∧ w'.rangeAt (w.heap.size + 1 + 1) 0 H ∧ Below w.heap.size w w')) (by kernel_rfl) (by kernel_rfl) (hS) ?_
  dsimp only
  repeat (first
    | (refine wpQuiet_skip (by rfl) ?_; simp only [Act.put, List.setIfInBounds_toArray, List.set_cons_zero, List.set_cons_succ])
    | (refine wpQuiet_load 33 _ (w.heap.size) (0) L _ (fun wq hq => hq.1) Try.underlying33 hiL rfl rfl rfl (by rfl) ?_; simp only [Act.put, List.setIfInBounds_toArray, List.set_cons_zero, List.set_cons_succ])
    | (refine wpQuiet_load 33 _ (w.heap.size + 1 + 1) (0) H _ (fun wq hq => hq.2.2.1) Try.underlying33 hiH rfl rfl rfl (by rfl) ?_; simp only [Act.put, List.setIfInBounds_toArray, List.set_cons_zero, List.set_cons_succ])
    | (refine' wpQuiet_take (by rfl) ?_ ?_
       rotate_left
       · (intro wq hq; (try dsimp only at hq); go_simp
          first
            | done
            | with_reducible rfl
            | (go_at_call 11; with_reducible refine (refOf_calls ⟨#[97, 98]⟩ (by decide) _).mono ?_; rintro e wz ⟨rfl, hb⟩; rw [HAB.out]; exact ⟨rfl, kept_masks hq hb⟩)
            | (go_at_call 19; (try rw [hHt]); with_reducible refine (mask_nat headF headF_lt AB hAB 9223372036854775936 HM1 _).mono ?_; rintro e wz ⟨rfl, hb⟩; exact ⟨rfl, kept_masks hq hb⟩)
            | (go_at_call 20; (try rw [hHt]); with_reducible refine (h97 _).mono ?_; rintro e wz ⟨rfl, hb⟩; exact ⟨rfl, kept_masks hq hb⟩)
         )
       simp only [Act.put, List.setIfInBounds_toArray, List.set_cons_zero, List.set_cons_succ]))
  refine wpQuiet_nil ?_
  intro w1 h1
  clear h97 hS
  go_wp2
  have hS1 : w1.drew.rangeAt w.heap.size 0 L ∧ (w1.drew.cell? ⟨w.heap.size + 1, 0, none⟩ = some (.int .u64 ((c 0 : Nat) : Int)) ∧ w1.drew.cell? ⟨w.heap.size + 1, 1, none⟩ = some (.int .u64 ((c 1 : Nat) : Int)) ∧ w1.drew.cell? ⟨w.heap.size + 1, 2, none⟩ = some (.int .u64 ((c 2 : Nat) : Int)) ∧ w1.drew.cell? ⟨w.heap.size + 1, 3, none⟩ = some (.int .u64 ((c 3 : Nat) : Int))) ∧ w1.drew.rangeAt (w.heap.size + 1 + 1) 0 H ∧ Below w.heap.size w w1.drew := ⟨by simpa using h1.1, h1.2.1, by simpa using h1.2.2.1, h1.2.2.2.drew⟩
  clear h1
  refine wp_region_quiet (C := (fun w' => w'.rangeAt w.heap.size 0 L ∧ (w'.cell? ⟨w.heap.size + 1, 0, none⟩ = some (.int .u64 ((c 0 : Nat) : Int)) ∧ w'.cell? ⟨w.heap.size + 1, 1, none⟩ = some (.int .u64 ((c 1 : Nat) : Int)) ∧ w'.cell? ⟨w.heap.size + 1, 2, none⟩ = some (.int .u64 ((c 2 : Nat) : Int)) ∧ w'.cell? ⟨w.heap.size + 1, 3, none⟩ = some (.int .u64 ((c 3 : Nat) : Int))) ∧ w'.rangeAt (w.heap.size + 1 + 1) 0 H ∧ Below w.heap.size w w')) (by kernel_rfl) (by kernel_rfl) (hS1) ?_
  dsimp only
  repeat (first
    | (refine wpQuiet_skip (by rfl) ?_; simp only [Act.put, List.setIfInBounds_toArray, List.set_cons_zero, List.set_cons_succ])
    | (refine wpQuiet_load 33 _ (w.heap.size) (0) L _ (fun wq hq => hq.1) Try.underlying33 hiL rfl rfl rfl (by rfl) ?_; simp only [Act.put, List.setIfInBounds_toArray, List.set_cons_zero, List.set_cons_succ])
    | (refine' wpQuiet_take (by rfl) ?_ ?_
       rotate_left
       · (intro wq hq; (try dsimp only at hq); go_simp
          first
            | done
            | with_reducible rfl
            | (go_at_call 19; ((try rw [hLt]); (try rw [← clsArr_lit c])); with_reducible refine (mask_nat f hf c hc M3 HM3 _).mono ?_; rintro e wz ⟨rfl, hb⟩; exact ⟨rfl, kept_masks hq hb⟩)
            | (go_at_call 21; ((try rw [hLt]); (try rw [← clsArr_lit c])); with_reducible refine (refMask_nat f hf c hc M3 HM3 _).mono ?_; rintro e wz ⟨rfl, hb⟩; exact ⟨rfl, kept_masks hq hb⟩)
            | (go_at_call 20; (try rw [hLt]); with_reducible refine (equal_nat f hf x hx M4 HM4 _).mono ?_; rintro e wz ⟨rfl, hb⟩; exact ⟨rfl, kept_masks hq hb⟩)
            | (go_at_call 22; (try rw [hLt]); with_reducible refine (refEqual_nat f x M4 HM4 _).mono ?_; rintro e wz ⟨rfl, hb⟩; exact ⟨rfl, kept_masks hq hb⟩)
         )
       simp only [Act.put, List.setIfInBounds_toArray, List.set_cons_zero, List.set_cons_succ]))
  refine wpQuiet_nil ?_
  intro w2 h2
  go_wp2
  go_ret
  exact ⟨rfl, h2.2.2.2⟩

theorem arr64_of_list (zs : List Int) (hl : zs.length = 64) (hw : ∀ z ∈ zs, (Lit.int .u8 z).wf = true) :
    ∃ f : Nat → Nat, (∀ i, f i < 256) ∧ (zs.map (Value.int .u8)).toArray = arr64 f := by
  have hb : ∀ i, (zs.getD i 0).toNat < 256 ∧ 0 ≤ zs.getD i 0 := by
    intro i
    by_cases h : i < zs.length
    · have h1 := wf_u8 (hw zs[i] (List.getElem_mem h))
      simp only [List.getD, List.getElem?_eq_getElem h, Option.getD_some]
      omega
    · simp only [List.getD, List.getElem?_eq_none (by omega : zs.length ≤ i), Option.getD_none]; omega
  refine ⟨fun i => (zs.getD i 0).toNat, fun i => (hb i).1, ?_⟩
  apply Array.ext
  · simp [arr64, hl]
  · intro i h1 h2
    have h3 : i < zs.length := by simpa using h1
    have h4 := (hb i).2
    simp only [List.getD, List.getElem?_eq_getElem h3, Option.getD_some] at h4
    simp only [arr64, List.getElem_toArray, List.getElem_map, Array.getElem_ofFn, List.getD, List.getElem?_eq_getElem h3, Option.getD_some]
    rw [Int.toNat_of_nonneg h4]

theorem head_mask : mk (fun i => hasC (ofTo (byteAt ⟨#[97, 98]⟩) (ByteArray.size ⟨#[97, 98]⟩)) (headF i)) 64 = 9223372036854775936 := by decide +kernel
theorem head_equal : mk (fun i => isB 97 (headF i)) 64 = 128 := by decide +kernel
theorem blockMasks_walk (zs : List Int) (hl : zs.length = 64) (hw : ∀ z ∈ zs, (Lit.int .u8 z).wf = true) (c : Nat → Nat) (hc : Cls c) (x : Int) (hx : (Lit.int .u8 x).wf = true) (w : World) :
    Calls Try.prog 4 #[.agg (zs.map (Value.int .u8)).toArray, .agg (clsArr c), .int .u8 x] w fun e w' => e = .returned (.bool true) ∧ Below w.heap.size w w' := by
  obtain ⟨f, hf, e⟩ := arr64_of_list zs hl hw
  obtain ⟨c0, c1⟩ := wf_u8 hx
  obtain ⟨X, rfl⟩ := Int.eq_ofNat_of_zero_le c0
  rw [e]
  exact masks_nat f hf c hc X (by omega) _ (cls_of _ _) rfl _ _ head_mask head_equal rfl rfl w
end Go.Proofs.Ytjeecpgcokjjjaa
