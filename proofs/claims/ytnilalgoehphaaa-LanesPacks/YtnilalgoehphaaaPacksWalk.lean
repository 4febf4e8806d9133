/-
  The law LanesPacks as a call: true, and nothing old has turned.
-/
import Derived.Test.YtnilalgoehphaaaLanesLoad
import Derived.Test.YtnilalgoehphaaaKit
import Derived.Deep.RegionHeld3
namespace Go.Proofs.Ytnilalgoehphaaa
open Go.RowKit

theorem kept8 {w0 wx w1 : World} {B : Nat} {v0 v1 v2 v3 v4 v5 v6 v7 : Value}
    (h : (wx.cell? ⟨B, 0, none⟩ = some v0 ∧ wx.cell? ⟨B, 1, none⟩ = some v1 ∧ wx.cell? ⟨B, 2, none⟩ = some v2 ∧ wx.cell? ⟨B, 3, none⟩ = some v3 ∧ wx.cell? ⟨B, 4, none⟩ = some v4 ∧ wx.cell? ⟨B, 5, none⟩ = some v5 ∧ wx.cell? ⟨B, 6, none⟩ = some v6 ∧ wx.cell? ⟨B, 7, none⟩ = some v7) ∧ Below w0.heap.size w0 wx)
    (hb : Below wx.heap.size wx w1) :
    (w1.cell? ⟨B, 0, none⟩ = some v0 ∧ w1.cell? ⟨B, 1, none⟩ = some v1 ∧ w1.cell? ⟨B, 2, none⟩ = some v2 ∧ w1.cell? ⟨B, 3, none⟩ = some v3 ∧ w1.cell? ⟨B, 4, none⟩ = some v4 ∧ w1.cell? ⟨B, 5, none⟩ = some v5 ∧ w1.cell? ⟨B, 6, none⟩ = some v6 ∧ w1.cell? ⟨B, 7, none⟩ = some v7) ∧ Below w0.heap.size w0 w1 := by
  obtain ⟨⟨h0, h1, h2, h3, h4, h5, h6, h7⟩, hw⟩ := h
  have key : ∀ i v, wx.cell? ⟨B, i, none⟩ = some v → w1.cell? ⟨B, i, none⟩ = some v := fun i v hv => by
    rw [hb.cell (p := ⟨B, i, none⟩) (block_lt_of_cell hv)]; exact hv
  exact ⟨⟨key _ _ h0, key _ _ h1, key _ _ h2, key _ _ h3, key _ _ h4, key _ _ h5, key _ _ h6, key _ _ h7⟩, hw.trans (hb.mono hw.size)⟩

theorem byteArr_lit (f : Nat → Nat) : #[.int .u8 ((f 0 : Nat) : Int), .int .u8 ((f 1 : Nat) : Int), .int .u8 ((f 2 : Nat) : Int), .int .u8 ((f 3 : Nat) : Int), .int .u8 ((f 4 : Nat) : Int), .int .u8 ((f 5 : Nat) : Int), .int .u8 ((f 6 : Nat) : Int), .int .u8 ((f 7 : Nat) : Int)] = byteArr f := rfl

theorem size_byte (w : World) : (sizeOf 5).run Try.prog w = .ok 1 w := by kernel_rfl
theorem eq_bytes (f g : Nat → Nat) (w : World) : (binOp .eql 22 (.agg (byteArr f)) (.agg (byteArr g))).run Try.prog w = .ok (.bool ((List.range 8).all fun i => ((f i : Nat) : Int) == ((g i : Nat) : Int))) w := by
  rw [run_eql_struct, run_equalIn_fun w 9998 22 5 8 .u8 Try.underlying22 Try.underlying5 size_byte (byteArr f) (byteArr g) (fun i => ((f i : Nat) : Int)) (fun i => ((g i : Nat) : Int)) (byteArr_at f) (byteArr_at g)]
  rfl
theorem eq_same (f : Nat → Nat) (w : World) : (binOp .eql 22 (.agg (byteArr f)) (.agg (byteArr f))).run Try.prog w = .ok (.bool true) w := by
  rw [eq_bytes]; simp

set_option maxRecDepth 100000 in
set_option maxHeartbeats 4000000 in
theorem packs_nat (f : Nat → Nat) (hf : ∀ i, f i < 256) (W c L : Nat) (HL : Hid (loadTo f 8 = L)) (hW : W < 18446744073709551616) (hc : c < 256) (w : World) :
    Calls Try.prog 3 #[.agg (byteArr f), .int .u64 W, .int .u8 c] w fun e w' => e = .returned (.bool true) ∧ Below w.heap.size w w' := by
  have heq : ∀ wx : World, (binOp .eql 22 (.agg (byteArr (byteOf W))) (.agg (byteArr (byteOf W)))).run Try.prog wx = .ok (.bool true) wx := eq_same (byteOf W)
  go_enter Try.func3, Try.ntmps3
  go_wp2
  have hS : ((w.alloc (.cells (byteArr f) 22)).drew.cell? ⟨w.heap.size, 0, none⟩ = some (.int .u8 ((f 0 : Nat) : Int)) ∧ (w.alloc (.cells (byteArr f) 22)).drew.cell? ⟨w.heap.size, 1, none⟩ = some (.int .u8 ((f 1 : Nat) : Int)) ∧ (w.alloc (.cells (byteArr f) 22)).drew.cell? ⟨w.heap.size, 2, none⟩ = some (.int .u8 ((f 2 : Nat) : Int)) ∧ (w.alloc (.cells (byteArr f) 22)).drew.cell? ⟨w.heap.size, 3, none⟩ = some (.int .u8 ((f 3 : Nat) : Int)) ∧ (w.alloc (.cells (byteArr f) 22)).drew.cell? ⟨w.heap.size, 4, none⟩ = some (.int .u8 ((f 4 : Nat) : Int)) ∧ (w.alloc (.cells (byteArr f) 22)).drew.cell? ⟨w.heap.size, 5, none⟩ = some (.int .u8 ((f 5 : Nat) : Int)) ∧ (w.alloc (.cells (byteArr f) 22)).drew.cell? ⟨w.heap.size, 6, none⟩ = some (.int .u8 ((f 6 : Nat) : Int)) ∧ (w.alloc (.cells (byteArr f) 22)).drew.cell? ⟨w.heap.size, 7, none⟩ = some (.int .u8 ((f 7 : Nat) : Int))) ∧ Below w.heap.size w (w.alloc (.cells (byteArr f) 22)).drew := by
    refine ⟨⟨?_, ?_, ?_, ?_, ?_, ?_, ?_, ?_⟩, ((Below.refl _ _).alloc (Nat.le_refl _) _).drew⟩ <;> (show (World.cell? (w.alloc _) _ = _); rw [World.cell?_alloc_at _ _ _ _ rfl]; rfl)
  go_region_held3 (fun w' => (w'.cell? ⟨w.heap.size, 0, none⟩ = some (.int .u8 ((f 0 : Nat) : Int)) ∧ w'.cell? ⟨w.heap.size, 1, none⟩ = some (.int .u8 ((f 1 : Nat) : Int)) ∧ w'.cell? ⟨w.heap.size, 2, none⟩ = some (.int .u8 ((f 2 : Nat) : Int)) ∧ w'.cell? ⟨w.heap.size, 3, none⟩ = some (.int .u8 ((f 3 : Nat) : Int)) ∧ w'.cell? ⟨w.heap.size, 4, none⟩ = some (.int .u8 ((f 4 : Nat) : Int)) ∧ w'.cell? ⟨w.heap.size, 5, none⟩ = some (.int .u8 ((f 5 : Nat) : Int)) ∧ w'.cell? ⟨w.heap.size, 6, none⟩ = some (.int .u8 ((f 6 : Nat) : Int)) ∧ w'.cell? ⟨w.heap.size, 7, none⟩ = some (.int .u8 ((f 7 : Nat) : Int))) ∧ Below w.heap.size w w') (first | exact hS | exact kept8 (by assumption) hb)
    (first
      | (go_at_call 9; (try rw [byteArr_lit f]); refine (load_nat f hf L _ HL).mono ?_; rintro e w' ⟨rfl, hb⟩)
      | (go_at_call 10; (try rw [byteArr_lit f]); refine (refLoad_nat f hf L _ HL).mono ?_; rintro e w' ⟨rfl, hb⟩)
      | (go_at_call 11; refine (store_calls _ _ (by omega) (by omega)).mono ?_; rintro e w' ⟨rfl, hb⟩)
      | (go_at_call 12; refine (refStore_calls _ _ (by omega) (by omega)).mono ?_; rintro e w' ⟨rfl, hb⟩)
      | (go_at_call 13; refine (fill_calls _ _ (by omega) (by omega)).mono ?_; rintro e w' ⟨rfl, hb⟩)
      | (go_at_call 14; refine (refFill_calls _ _ (by omega) (by omega)).mono ?_; rintro e w' ⟨rfl, hb⟩))
  all_goals (go_wp2; go_ret; rename_i hh; exact ⟨rfl, hh.2⟩)

theorem arr_of_list (zs : List Int) (hl : zs.length = 8) (hw : ∀ z ∈ zs, (Lit.int .u8 z).wf = true) :
    ∃ f : Nat → Nat, (∀ i, f i < 256) ∧ (zs.map (Value.int .u8)).toArray = byteArr f := by
  have hb : ∀ i, (zs.getD i 0).toNat < 256 ∧ 0 ≤ zs.getD i 0 := by
    intro i
    by_cases h : i < zs.length
    · have h1 := wf_u8 (hw zs[i] (List.getElem_mem h))
      simp only [List.getD, List.getElem?_eq_getElem h, Option.getD_some]
      omega
    · simp only [List.getD, List.getElem?_eq_none (by omega : zs.length ≤ i), Option.getD_none]; omega
  refine ⟨fun i => (zs.getD i 0).toNat, fun i => (hb i).1, ?_⟩
  apply Array.ext
  · simp [byteArr, hl]
  · intro i h1 h2
    have h3 : i < zs.length := by simpa using h1
    have h4 := (hb i).2
    simp only [List.getD, List.getElem?_eq_getElem h3, Option.getD_some] at h4
    simp only [byteArr, List.getElem_toArray, List.getElem_map, Array.getElem_ofFn, List.getD, List.getElem?_eq_getElem h3, Option.getD_some]
    rw [Int.toNat_of_nonneg h4]

theorem lanesPacks_walk (zs : List Int) (hl : zs.length = 8) (hw : ∀ z ∈ zs, (Lit.int .u8 z).wf = true) (a : Int) (ha : (Lit.int .u64 a).wf = true) (c : Int) (hc : (Lit.int .u8 c).wf = true) (w : World) :
    Calls Try.prog 3 #[.agg (zs.map (Value.int .u8)).toArray, .int .u64 a, .int .u8 c] w fun e w' => e = .returned (.bool true) ∧ Below w.heap.size w w' := by
  obtain ⟨f, hf, e⟩ := arr_of_list zs hl hw
  obtain ⟨a0, a1⟩ := wf_u64 ha
  obtain ⟨c0, c1⟩ := wf_u8 hc
  obtain ⟨A, rfl⟩ := Int.eq_ofNat_of_zero_le a0
  obtain ⟨C, rfl⟩ := Int.eq_ofNat_of_zero_le c0
  rw [e]
  exact packs_nat f hf A C _ rfl (by omega) (by omega) w
end Go.Proofs.Ytnilalgoehphaaa
