/-
  The law BlockClasses as a call: true, and nothing old has turned.
-/
import Derived.Test.YtjeecpgcokjjjaaBlockRefSets
import Derived.Test.YtjeecpgcokjjjaaBlockEq
import Derived.Test.YtjeecpgcokjjjaaBlockOpen2
namespace Go.Proofs.Ytjeecpgcokjjjaa
open Go.RowKit

theorem kept10 {w wx w1 : World} {c d : Nat → Nat} {s : ByteArray} {x : Nat} (h : (wx.cell? ⟨w.heap.size, 0, none⟩ = some (.int .u64 ((c 0 : Nat) : Int)) ∧ wx.cell? ⟨w.heap.size, 1, none⟩ = some (.int .u64 ((c 1 : Nat) : Int)) ∧ wx.cell? ⟨w.heap.size, 2, none⟩ = some (.int .u64 ((c 2 : Nat) : Int)) ∧ wx.cell? ⟨w.heap.size, 3, none⟩ = some (.int .u64 ((c 3 : Nat) : Int)) ∧ wx.cell? ⟨w.heap.size, 4, none⟩ = some (.int .u64 ((d 0 : Nat) : Int)) ∧ wx.cell? ⟨w.heap.size, 5, none⟩ = some (.int .u64 ((d 1 : Nat) : Int)) ∧ wx.cell? ⟨w.heap.size, 6, none⟩ = some (.int .u64 ((d 2 : Nat) : Int)) ∧ wx.cell? ⟨w.heap.size, 7, none⟩ = some (.int .u64 ((d 3 : Nat) : Int)) ∧ wx.cell? ⟨w.heap.size, 8, none⟩ = some (.string s) ∧ wx.cell? ⟨w.heap.size, 9, none⟩ = some (.int .u8 (x : Int))) ∧ Below w.heap.size w wx) (hb : Below wx.heap.size wx w1) : (w1.cell? ⟨w.heap.size, 0, none⟩ = some (.int .u64 ((c 0 : Nat) : Int)) ∧ w1.cell? ⟨w.heap.size, 1, none⟩ = some (.int .u64 ((c 1 : Nat) : Int)) ∧ w1.cell? ⟨w.heap.size, 2, none⟩ = some (.int .u64 ((c 2 : Nat) : Int)) ∧ w1.cell? ⟨w.heap.size, 3, none⟩ = some (.int .u64 ((c 3 : Nat) : Int)) ∧ w1.cell? ⟨w.heap.size, 4, none⟩ = some (.int .u64 ((d 0 : Nat) : Int)) ∧ w1.cell? ⟨w.heap.size, 5, none⟩ = some (.int .u64 ((d 1 : Nat) : Int)) ∧ w1.cell? ⟨w.heap.size, 6, none⟩ = some (.int .u64 ((d 2 : Nat) : Int)) ∧ w1.cell? ⟨w.heap.size, 7, none⟩ = some (.int .u64 ((d 3 : Nat) : Int)) ∧ w1.cell? ⟨w.heap.size, 8, none⟩ = some (.string s) ∧ w1.cell? ⟨w.heap.size, 9, none⟩ = some (.int .u8 (x : Int))) ∧ Below w.heap.size w w1 := by
  obtain ⟨⟨h0, h1, h2, h3, h4, h5, h6, h7, h8, h9⟩, hw⟩ := h
  have key : ∀ i v, wx.cell? ⟨w.heap.size, i, none⟩ = some v → w1.cell? ⟨w.heap.size, i, none⟩ = some v := fun i v hv => by
    rw [hb.cell (p := ⟨w.heap.size, i, none⟩) (block_lt_of_cell hv)]; exact hv
  exact ⟨⟨key _ _ h0, key _ _ h1, key _ _ h2, key _ _ h3, key _ _ h4, key _ _ h5, key _ _ h6, key _ _ h7, key _ _ h8, key _ _ h9⟩, hw.trans (hb.mono hw.size)⟩
theorem at10 {w wx : World} {c d : Nat → Nat} {s : ByteArray} {x : Nat} {t : TypeId} (h : At wx w.heap.size (clsesArr c d s x) t) : (wx.cell? ⟨w.heap.size, 0, none⟩ = some (.int .u64 ((c 0 : Nat) : Int)) ∧ wx.cell? ⟨w.heap.size, 1, none⟩ = some (.int .u64 ((c 1 : Nat) : Int)) ∧ wx.cell? ⟨w.heap.size, 2, none⟩ = some (.int .u64 ((c 2 : Nat) : Int)) ∧ wx.cell? ⟨w.heap.size, 3, none⟩ = some (.int .u64 ((c 3 : Nat) : Int)) ∧ wx.cell? ⟨w.heap.size, 4, none⟩ = some (.int .u64 ((d 0 : Nat) : Int)) ∧ wx.cell? ⟨w.heap.size, 5, none⟩ = some (.int .u64 ((d 1 : Nat) : Int)) ∧ wx.cell? ⟨w.heap.size, 6, none⟩ = some (.int .u64 ((d 2 : Nat) : Int)) ∧ wx.cell? ⟨w.heap.size, 7, none⟩ = some (.int .u64 ((d 3 : Nat) : Int)) ∧ wx.cell? ⟨w.heap.size, 8, none⟩ = some (.string s) ∧ wx.cell? ⟨w.heap.size, 9, none⟩ = some (.int .u8 (x : Int))) :=
  ⟨h.cell 0, h.cell 1, h.cell 2, h.cell 3, h.cell 4, h.cell 5, h.cell 6, h.cell 7, h.cell 8, h.cell 9⟩

theorem of_ab : clsArr (ofTo (byteAt ⟨#[97, 98]⟩) (ByteArray.size ⟨#[97, 98]⟩)) = #[.int .u64 0, .int .u64 25769803776, .int .u64 0, .int .u64 0] := by
  rw [clsArr_lit]; rfl
theorem has_a : hasC (ofTo (byteAt ⟨#[97]⟩) (ByteArray.size ⟨#[97]⟩)) 97 = true := by decide

set_option maxRecDepth 100000 in
set_option maxHeartbeats 8000000 in
theorem classes_nat (c d : Nat → Nat) (hc : Cls c) (hd : Cls d) (s : ByteArray) (hs : s.size ≤ 9223372036854775807) (x : Nat) (hx : x < 256) (K : Nat → Nat) (hK : Cls K) (HK : Hid (ofTo (byteAt s) s.size = K)) (w : World) :
    Calls Try.prog 3 #[.agg (clsesArr c d s x)] w fun e w' => e = .returned (.bool true) ∧ Below w.heap.size w w' := by
  go_enter Try.func3, Try.ntmps3
  have hfl : ∀ wx : World, (Instr.field 25 (.agg #[.int .u64 0, .int .u64 25769803776, .int .u64 0, .int .u64 0]) 0).run Try.prog wx = .ok (.agg #[.int .u64 0, .int .u64 25769803776, .int .u64 0, .int .u64 0]) wx := fun _ => by kernel_rfl
  have hix : ∀ wx : World, (Instr.index 23 (.agg #[.int .u64 0, .int .u64 25769803776, .int .u64 0, .int .u64 0]) (.int .i64 1)).run Try.prog wx = .ok (.int .u64 25769803776) wx := fun _ => by kernel_rfl
  have hA0 := At.new w (clsesArr c d s x) 27
  have hB0 : Below w.heap.size w (w.alloc (.cells (clsesArr c d s x) 27)) := (Below.refl _ _).alloc (Nat.le_refl _) _
  go_wp2_with fail
  refine (of_calls ⟨#[97, 98]⟩ (by decide) _).mono ?_
  rintro e w1 ⟨rfl, hb1⟩
  rw [of_ab]
  have hA1 := hA0.keptAll hb1
  have hB1 := hB0.trans (hb1.mono hB0.size)
  go_wp2_with fail
  refine (of_calls ⟨#[97]⟩ (by decide) _).mono ?_
  rintro e w2 ⟨rfl, hb2⟩
  have ha1 := has_a
  have ha2 := cls_of (byteAt ⟨#[97]⟩) (ByteArray.size ⟨#[97]⟩)
  generalize ofTo (byteAt ⟨#[97]⟩) (ByteArray.size ⟨#[97]⟩) = A at ha1 ha2 ⊢
  have hA2 := hA1.keptAll hb2
  have hB2 := hB1.trans (hb2.mono hB1.size)
  go_wp2_with fail
  refine (has_calls A ha2 97 (by decide) _).mono ?_
  rintro e w3 ⟨rfl, hb3⟩
  rw [ha1]
  have hA3 := hA2.keptAll hb3
  have hB3 := hB2.trans (hb3.mono hB2.size)
  clear hA0 hA1 hA2 hB0 hB1 hB2 hb1 hb2 hb3
  go_wp2
  have hS : (w3.drew.cell? ⟨w.heap.size, 0, none⟩ = some (.int .u64 ((c 0 : Nat) : Int)) ∧ w3.drew.cell? ⟨w.heap.size, 1, none⟩ = some (.int .u64 ((c 1 : Nat) : Int)) ∧ w3.drew.cell? ⟨w.heap.size, 2, none⟩ = some (.int .u64 ((c 2 : Nat) : Int)) ∧ w3.drew.cell? ⟨w.heap.size, 3, none⟩ = some (.int .u64 ((c 3 : Nat) : Int)) ∧ w3.drew.cell? ⟨w.heap.size, 4, none⟩ = some (.int .u64 ((d 0 : Nat) : Int)) ∧ w3.drew.cell? ⟨w.heap.size, 5, none⟩ = some (.int .u64 ((d 1 : Nat) : Int)) ∧ w3.drew.cell? ⟨w.heap.size, 6, none⟩ = some (.int .u64 ((d 2 : Nat) : Int)) ∧ w3.drew.cell? ⟨w.heap.size, 7, none⟩ = some (.int .u64 ((d 3 : Nat) : Int)) ∧ w3.drew.cell? ⟨w.heap.size, 8, none⟩ = some (.string s) ∧ w3.drew.cell? ⟨w.heap.size, 9, none⟩ = some (.int .u8 (x : Int))) ∧ Below w.heap.size w w3.drew := ⟨at10 (c := c) (d := d) (s := s) (x := x) hA3.drew, hB3.drew⟩
  have hneq := neq_same K
  go_region_held3 (fun w' => (w'.cell? ⟨w.heap.size, 0, none⟩ = some (.int .u64 ((c 0 : Nat) : Int)) ∧ w'.cell? ⟨w.heap.size, 1, none⟩ = some (.int .u64 ((c 1 : Nat) : Int)) ∧ w'.cell? ⟨w.heap.size, 2, none⟩ = some (.int .u64 ((c 2 : Nat) : Int)) ∧ w'.cell? ⟨w.heap.size, 3, none⟩ = some (.int .u64 ((c 3 : Nat) : Int)) ∧ w'.cell? ⟨w.heap.size, 4, none⟩ = some (.int .u64 ((d 0 : Nat) : Int)) ∧ w'.cell? ⟨w.heap.size, 5, none⟩ = some (.int .u64 ((d 1 : Nat) : Int)) ∧ w'.cell? ⟨w.heap.size, 6, none⟩ = some (.int .u64 ((d 2 : Nat) : Int)) ∧ w'.cell? ⟨w.heap.size, 7, none⟩ = some (.int .u64 ((d 3 : Nat) : Int)) ∧ w'.cell? ⟨w.heap.size, 8, none⟩ = some (.string s) ∧ w'.cell? ⟨w.heap.size, 9, none⟩ = some (.int .u8 (x : Int))) ∧ Below w.heap.size w w') (first | exact hS | exact kept10 (by assumption) hb)
    (first
      | (go_at_call 9; refine (of_calls s hs _).mono ?_; rintro e w' ⟨rfl, hb⟩; rw [HK.out])
      | (go_at_call 11; refine (refOf_calls s hs _).mono ?_; rintro e w' ⟨rfl, hb⟩; rw [HK.out])
      | (go_at_call 10; (try rw [← clsArr_lit c]); (first | with_reducible refine (has_calls c hc x hx _).mono ?_ | with_reducible refine (has_calls K hK x hx _).mono ?_); rintro e w' ⟨rfl, hb⟩)
      | (go_at_call 12; (try rw [← clsArr_lit c]); (first | with_reducible refine (refHas_calls c hc x hx _).mono ?_ | with_reducible refine (refHas_calls K hK x hx _).mono ?_); rintro e w' ⟨rfl, hb⟩))
  rename_i hh
  clear hneq hS hA3 hB3
  go_wp2
  have hS : (w'.drew.cell? ⟨w.heap.size, 0, none⟩ = some (.int .u64 ((c 0 : Nat) : Int)) ∧ w'.drew.cell? ⟨w.heap.size, 1, none⟩ = some (.int .u64 ((c 1 : Nat) : Int)) ∧ w'.drew.cell? ⟨w.heap.size, 2, none⟩ = some (.int .u64 ((c 2 : Nat) : Int)) ∧ w'.drew.cell? ⟨w.heap.size, 3, none⟩ = some (.int .u64 ((c 3 : Nat) : Int)) ∧ w'.drew.cell? ⟨w.heap.size, 4, none⟩ = some (.int .u64 ((d 0 : Nat) : Int)) ∧ w'.drew.cell? ⟨w.heap.size, 5, none⟩ = some (.int .u64 ((d 1 : Nat) : Int)) ∧ w'.drew.cell? ⟨w.heap.size, 6, none⟩ = some (.int .u64 ((d 2 : Nat) : Int)) ∧ w'.drew.cell? ⟨w.heap.size, 7, none⟩ = some (.int .u64 ((d 3 : Nat) : Int)) ∧ w'.drew.cell? ⟨w.heap.size, 8, none⟩ = some (.string s) ∧ w'.drew.cell? ⟨w.heap.size, 9, none⟩ = some (.int .u8 (x : Int))) ∧ Below w.heap.size w w'.drew := ⟨hh.1, hh.2.drew⟩
  have he1 := eql_same (fun j => c j ||| d j)
  have he2 := eql_same (fun j => less (c j) (d j))
  have he3 := eql_same (fun j => flip (c j))
  clear hh
  go_region_held3 (fun w' => (w'.cell? ⟨w.heap.size, 0, none⟩ = some (.int .u64 ((c 0 : Nat) : Int)) ∧ w'.cell? ⟨w.heap.size, 1, none⟩ = some (.int .u64 ((c 1 : Nat) : Int)) ∧ w'.cell? ⟨w.heap.size, 2, none⟩ = some (.int .u64 ((c 2 : Nat) : Int)) ∧ w'.cell? ⟨w.heap.size, 3, none⟩ = some (.int .u64 ((c 3 : Nat) : Int)) ∧ w'.cell? ⟨w.heap.size, 4, none⟩ = some (.int .u64 ((d 0 : Nat) : Int)) ∧ w'.cell? ⟨w.heap.size, 5, none⟩ = some (.int .u64 ((d 1 : Nat) : Int)) ∧ w'.cell? ⟨w.heap.size, 6, none⟩ = some (.int .u64 ((d 2 : Nat) : Int)) ∧ w'.cell? ⟨w.heap.size, 7, none⟩ = some (.int .u64 ((d 3 : Nat) : Int)) ∧ w'.cell? ⟨w.heap.size, 8, none⟩ = some (.string s) ∧ w'.cell? ⟨w.heap.size, 9, none⟩ = some (.int .u8 (x : Int))) ∧ Below w.heap.size w w') (first | exact hS | exact kept10 (by assumption) hb)
    (first
      | (go_at_call 13; (try rw [← clsArr_lit c]); (try rw [← clsArr_lit d]); refine (join_calls c d hc hd _).mono ?_; rintro e w' ⟨rfl, hb⟩)
      | (go_at_call 14; (try rw [← clsArr_lit c]); (try rw [← clsArr_lit d]); refine (refJoin_calls c d hc hd _).mono ?_; rintro e w' ⟨rfl, hb⟩)
      | (go_at_call 15; (try rw [← clsArr_lit c]); (try rw [← clsArr_lit d]); refine (minus_calls c d hc hd _).mono ?_; rintro e w' ⟨rfl, hb⟩)
      | (go_at_call 16; (try rw [← clsArr_lit c]); (try rw [← clsArr_lit d]); refine (refMinus_calls c d hc hd _).mono ?_; rintro e w' ⟨rfl, hb⟩)
      | (go_at_call 17; (try rw [← clsArr_lit c]); refine (not_calls c hc _).mono ?_; rintro e w' ⟨rfl, hb⟩)
      | (go_at_call 18; (try rw [← clsArr_lit c]); refine (refNot_calls c hc _).mono ?_; rintro e w' ⟨rfl, hb⟩))
  rename_i hh
  go_wp2
  go_ret
  exact ⟨rfl, hh.2⟩

theorem blockClasses_walk (c d : Nat → Nat) (s : ByteArray) (x : Nat) (hc : Cls c) (hd : Cls d) (hs : s.size ≤ maxLen) (hx : x < 256) (w : World) :
    Calls Try.prog 3 #[.agg (clsesArr c d s x)] w fun e w' => e = .returned (.bool true) ∧ Below w.heap.size w w' :=
  classes_nat c d hc hd s (by unfold maxLen at hs; omega) x hx _ (cls_of _ _) rfl w
end Go.Proofs.Ytjeecpgcokjjjaa
