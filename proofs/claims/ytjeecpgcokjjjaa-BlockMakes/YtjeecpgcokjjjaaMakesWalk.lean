/-
  The law BlockMakes as a call: true, and nothing old has turned.
-/
import Derived.Test.YtjeecpgcokjjjaaBlockAwake
import Derived.Test.YtjeecpgcokjjjaaBlockEq
import Derived.Test.YtjeecpgcokjjjaaBlockOpen
import Derived.Test.YtjeecpgcokjjjaaBlockRef
import Derived.Laws.IdiomStrings
namespace Go.Proofs.Ytjeecpgcokjjjaa
open Go.RowKit

theorem kept_makes {w wx w1 : World} {c d : Nat → Nat} {L : List Value} (h : (wx.rangeAt w.heap.size 0 L ∧ (wx.cell? ⟨w.heap.size + 1, 0, none⟩ = some (.int .u64 ((c 0 : Nat) : Int)) ∧ wx.cell? ⟨w.heap.size + 1, 1, none⟩ = some (.int .u64 ((c 1 : Nat) : Int)) ∧ wx.cell? ⟨w.heap.size + 1, 2, none⟩ = some (.int .u64 ((c 2 : Nat) : Int)) ∧ wx.cell? ⟨w.heap.size + 1, 3, none⟩ = some (.int .u64 ((c 3 : Nat) : Int))) ∧ (wx.cell? ⟨w.heap.size + 1 + 1, 0, none⟩ = some (.int .u64 ((d 0 : Nat) : Int)) ∧ wx.cell? ⟨w.heap.size + 1 + 1, 1, none⟩ = some (.int .u64 ((d 1 : Nat) : Int)) ∧ wx.cell? ⟨w.heap.size + 1 + 1, 2, none⟩ = some (.int .u64 ((d 2 : Nat) : Int)) ∧ wx.cell? ⟨w.heap.size + 1 + 1, 3, none⟩ = some (.int .u64 ((d 3 : Nat) : Int))) ∧ Below w.heap.size w wx)) (hb : Below wx.heap.size wx w1) : (w1.rangeAt w.heap.size 0 L ∧ (w1.cell? ⟨w.heap.size + 1, 0, none⟩ = some (.int .u64 ((c 0 : Nat) : Int)) ∧ w1.cell? ⟨w.heap.size + 1, 1, none⟩ = some (.int .u64 ((c 1 : Nat) : Int)) ∧ w1.cell? ⟨w.heap.size + 1, 2, none⟩ = some (.int .u64 ((c 2 : Nat) : Int)) ∧ w1.cell? ⟨w.heap.size + 1, 3, none⟩ = some (.int .u64 ((c 3 : Nat) : Int))) ∧ (w1.cell? ⟨w.heap.size + 1 + 1, 0, none⟩ = some (.int .u64 ((d 0 : Nat) : Int)) ∧ w1.cell? ⟨w.heap.size + 1 + 1, 1, none⟩ = some (.int .u64 ((d 1 : Nat) : Int)) ∧ w1.cell? ⟨w.heap.size + 1 + 1, 2, none⟩ = some (.int .u64 ((d 2 : Nat) : Int)) ∧ w1.cell? ⟨w.heap.size + 1 + 1, 3, none⟩ = some (.int .u64 ((d 3 : Nat) : Int))) ∧ Below w.heap.size w w1) := by
  obtain ⟨h0, h1, h2, hB⟩ := h
  have k1 := kept4 ⟨h1, hB⟩ hb
  have k2 := kept4 ⟨h2, hB⟩ hb
  exact ⟨range_kept h0 hb, k1.1, k2.1, k1.2⟩
theorem drew_makes {w wx : World} {c d : Nat → Nat} {L : List Value} (h : (wx.rangeAt w.heap.size 0 L ∧ (wx.cell? ⟨w.heap.size + 1, 0, none⟩ = some (.int .u64 ((c 0 : Nat) : Int)) ∧ wx.cell? ⟨w.heap.size + 1, 1, none⟩ = some (.int .u64 ((c 1 : Nat) : Int)) ∧ wx.cell? ⟨w.heap.size + 1, 2, none⟩ = some (.int .u64 ((c 2 : Nat) : Int)) ∧ wx.cell? ⟨w.heap.size + 1, 3, none⟩ = some (.int .u64 ((c 3 : Nat) : Int))) ∧ (wx.cell? ⟨w.heap.size + 1 + 1, 0, none⟩ = some (.int .u64 ((d 0 : Nat) : Int)) ∧ wx.cell? ⟨w.heap.size + 1 + 1, 1, none⟩ = some (.int .u64 ((d 1 : Nat) : Int)) ∧ wx.cell? ⟨w.heap.size + 1 + 1, 2, none⟩ = some (.int .u64 ((d 2 : Nat) : Int)) ∧ wx.cell? ⟨w.heap.size + 1 + 1, 3, none⟩ = some (.int .u64 ((d 3 : Nat) : Int))) ∧ Below w.heap.size w wx)) : (wx.drew.rangeAt w.heap.size 0 L ∧ (wx.drew.cell? ⟨w.heap.size + 1, 0, none⟩ = some (.int .u64 ((c 0 : Nat) : Int)) ∧ wx.drew.cell? ⟨w.heap.size + 1, 1, none⟩ = some (.int .u64 ((c 1 : Nat) : Int)) ∧ wx.drew.cell? ⟨w.heap.size + 1, 2, none⟩ = some (.int .u64 ((c 2 : Nat) : Int)) ∧ wx.drew.cell? ⟨w.heap.size + 1, 3, none⟩ = some (.int .u64 ((c 3 : Nat) : Int))) ∧ (wx.drew.cell? ⟨w.heap.size + 1 + 1, 0, none⟩ = some (.int .u64 ((d 0 : Nat) : Int)) ∧ wx.drew.cell? ⟨w.heap.size + 1 + 1, 1, none⟩ = some (.int .u64 ((d 1 : Nat) : Int)) ∧ wx.drew.cell? ⟨w.heap.size + 1 + 1, 2, none⟩ = some (.int .u64 ((d 2 : Nat) : Int)) ∧ wx.drew.cell? ⟨w.heap.size + 1 + 1, 3, none⟩ = some (.int .u64 ((d 3 : Nat) : Int))) ∧ Below w.heap.size w wx.drew) := ⟨by simpa using h.1, h.2.1, h.2.2.1, h.2.2.2.drew⟩

theorem conv_one (x : Nat) (hx : x < 256) {w : World} {g : Nat} (h : At w g #[.int .u8 ((x : Nat) : Int)] 5) : (convert 47 9 (.slice (some ⟨g, 0, none⟩) 1 1)).run Try.prog w = .ok (.string ⟨[UInt8.ofNat x].toArray⟩) w := by
  refine run_convert_bytes_back (P := Try.prog) w 47 9 5 ⟨g, 0, none⟩ 1 [UInt8.ofNat x] Try.underlying47 Try.underlying5 Try.underlying9 (fun j hj => ?_)
  obtain rfl : j = 0 := by simpa using hj
  have e : (⟨g, 0, none⟩ : Addr).add 0 = ⟨g, 0, none⟩ := by simp [Addr.add]
  rw [e, h.cell 0]
  have : x % 256 = x := Nat.mod_eq_of_lt hx
  simp [this]
theorem one_byte (x : Nat) (hx : x < 256) : (⟨[UInt8.ofNat x].toArray⟩ : ByteArray).size = 1 ∧ byteAt ⟨[UInt8.ofNat x].toArray⟩ 0 = x := by
  have : x % 256 = x := Nat.mod_eq_of_lt hx
  exact ⟨rfl, by simp [byteAt, this]⟩
theorem one_has (x : Nat) (hx : x < 256) (y : Nat) : hasC (ofTo (byteAt ⟨[UInt8.ofNat x].toArray⟩) (ByteArray.size ⟨[UInt8.ofNat x].toArray⟩)) y = isB x y := by
  obtain ⟨h1, h2⟩ := one_byte x hx
  rw [h1, ofTo_succ, ofTo_zero, h2]
  have := has_only x y
  simp only [Nat.zero_or]
  unfold isB
  rw [this]
  by_cases e : x = y
  · simp [e]
  · have e' : ¬ y = x := fun h => e h.symm
    simp [e, e']
theorem range_at {wx : World} {f : Nat → Nat} {L : List Value} {b : Nat} (h : wx.rangeAt b 0 L) (hL : L.toArray = arr64 f) (k : Nat) (hk : k < 64) : wx.cell? ⟨b, k, none⟩ = some (.int .u8 ((f k : Nat) : Int)) := by
  have := h k (.int .u8 ((f k : Nat) : Int)) (by rw [← arr64_at f k hk, ← hL]; simp)
  rwa [Nat.zero_add] at this
theorem kept_round {w wx w1 : World} {c d f : Nat → Nat} {k : Nat} {L : List Value} (h : wx.cell? ⟨w.heap.size, k, none⟩ = some (.int .u8 ((f k : Nat) : Int)) ∧ wx.rangeAt w.heap.size 0 L ∧ (wx.cell? ⟨w.heap.size + 1, 0, none⟩ = some (.int .u64 ((c 0 : Nat) : Int)) ∧ wx.cell? ⟨w.heap.size + 1, 1, none⟩ = some (.int .u64 ((c 1 : Nat) : Int)) ∧ wx.cell? ⟨w.heap.size + 1, 2, none⟩ = some (.int .u64 ((c 2 : Nat) : Int)) ∧ wx.cell? ⟨w.heap.size + 1, 3, none⟩ = some (.int .u64 ((c 3 : Nat) : Int))) ∧ (wx.cell? ⟨w.heap.size + 1 + 1, 0, none⟩ = some (.int .u64 ((d 0 : Nat) : Int)) ∧ wx.cell? ⟨w.heap.size + 1 + 1, 1, none⟩ = some (.int .u64 ((d 1 : Nat) : Int)) ∧ wx.cell? ⟨w.heap.size + 1 + 1, 2, none⟩ = some (.int .u64 ((d 2 : Nat) : Int)) ∧ wx.cell? ⟨w.heap.size + 1 + 1, 3, none⟩ = some (.int .u64 ((d 3 : Nat) : Int))) ∧ Below w.heap.size w wx) (hb : Below wx.heap.size wx w1) : w1.cell? ⟨w.heap.size, k, none⟩ = some (.int .u8 ((f k : Nat) : Int)) ∧ w1.rangeAt w.heap.size 0 L ∧ (w1.cell? ⟨w.heap.size + 1, 0, none⟩ = some (.int .u64 ((c 0 : Nat) : Int)) ∧ w1.cell? ⟨w.heap.size + 1, 1, none⟩ = some (.int .u64 ((c 1 : Nat) : Int)) ∧ w1.cell? ⟨w.heap.size + 1, 2, none⟩ = some (.int .u64 ((c 2 : Nat) : Int)) ∧ w1.cell? ⟨w.heap.size + 1, 3, none⟩ = some (.int .u64 ((c 3 : Nat) : Int))) ∧ (w1.cell? ⟨w.heap.size + 1 + 1, 0, none⟩ = some (.int .u64 ((d 0 : Nat) : Int)) ∧ w1.cell? ⟨w.heap.size + 1 + 1, 1, none⟩ = some (.int .u64 ((d 1 : Nat) : Int)) ∧ w1.cell? ⟨w.heap.size + 1 + 1, 2, none⟩ = some (.int .u64 ((d 2 : Nat) : Int)) ∧ w1.cell? ⟨w.heap.size + 1 + 1, 3, none⟩ = some (.int .u64 ((d 3 : Nat) : Int))) ∧ Below w.heap.size w w1 :=
  ⟨by rw [hb.cell (p := ⟨w.heap.size, k, none⟩) (block_lt_of_cell h.1)]; exact h.1, kept_makes h.2 hb⟩

set_option maxRecDepth 100000 in
set_option maxHeartbeats 8000000 in
theorem makes_nat (f : Nat → Nat) (hf : ∀ i, f i < 256) (c d : Nat → Nat) (hc : Cls c) (hd : Cls d) (M1 M2 MJ MM MN : Nat) (H1 : Hid (mk (fun i => hasC c (f i)) 64 = M1)) (H2 : Hid (mk (fun i => hasC d (f i)) 64 = M2))
    (HJ : Hid (mk (fun i => hasC (fun j => c j ||| d j) (f i)) 64 = MJ)) (HM : Hid (mk (fun i => hasC (fun j => less (c j) (d j)) (f i)) 64 = MM)) (HN : Hid (mk (fun i => hasC (fun j => flip (c j)) (f i)) 64 = MN))
    (hor : bits BinOp.or IntKind.u64 (M1 : Int) (M2 : Int) = (MJ : Int)) (han : bits BinOp.andNot IntKind.u64 (M1 : Int) (M2 : Int) = (MM : Int)) (hxo : bits BinOp.xor IntKind.u64 (if IntKind.u64.signed = true then -1 else IntKind.u64.max) (M1 : Int) = (MN : Int))
    (hM1 : M1 < 18446744073709551616) (w : World) :
    Calls Try.prog 7 #[.agg (arr64 f), .agg (clsArr c), .agg (clsArr d)] w fun e w' => e = .returned (.bool true) ∧ Below w.heap.size w w' := by
  go_enter Try.func7, Try.ntmps7
  obtain ⟨L, hLt, hLl⟩ := arr64_list f
  have hiL : (Try.prog.info? 33).map (·.size) = some L.length := by rw [hLl]; exact info64
  have HL : Hid (L.toArray = arr64 f) := hLt
  have hA0 := ((At.new w (arr64 f) 33).alloc (.cells (clsArr c) 25)).alloc (.cells (clsArr d) 25)
  have hC0 := (At.new (w.alloc (.cells (arr64 f) 33)) (clsArr c) 25).alloc (.cells (clsArr d) 25)
  have hD0 := At.new ((w.alloc (.cells (arr64 f) 33)).alloc (.cells (clsArr c) 25)) (clsArr d) 25
  simp only [World.size_alloc] at hC0 hD0
  have hH0 : (((w.alloc (.cells (arr64 f) 33)).alloc (.cells (clsArr c) 25)).alloc (.cells (clsArr d) 25)).rangeAt w.heap.size 0 L ∧ ((((w.alloc (.cells (arr64 f) 33)).alloc (.cells (clsArr c) 25)).alloc (.cells (clsArr d) 25)).cell? ⟨w.heap.size + 1, 0, none⟩ = some (.int .u64 ((c 0 : Nat) : Int)) ∧ (((w.alloc (.cells (arr64 f) 33)).alloc (.cells (clsArr c) 25)).alloc (.cells (clsArr d) 25)).cell? ⟨w.heap.size + 1, 1, none⟩ = some (.int .u64 ((c 1 : Nat) : Int)) ∧ (((w.alloc (.cells (arr64 f) 33)).alloc (.cells (clsArr c) 25)).alloc (.cells (clsArr d) 25)).cell? ⟨w.heap.size + 1, 2, none⟩ = some (.int .u64 ((c 2 : Nat) : Int)) ∧ (((w.alloc (.cells (arr64 f) 33)).alloc (.cells (clsArr c) 25)).alloc (.cells (clsArr d) 25)).cell? ⟨w.heap.size + 1, 3, none⟩ = some (.int .u64 ((c 3 : Nat) : Int))) ∧ ((((w.alloc (.cells (arr64 f) 33)).alloc (.cells (clsArr c) 25)).alloc (.cells (clsArr d) 25)).cell? ⟨w.heap.size + 1 + 1, 0, none⟩ = some (.int .u64 ((d 0 : Nat) : Int)) ∧ (((w.alloc (.cells (arr64 f) 33)).alloc (.cells (clsArr c) 25)).alloc (.cells (clsArr d) 25)).cell? ⟨w.heap.size + 1 + 1, 1, none⟩ = some (.int .u64 ((d 1 : Nat) : Int)) ∧ (((w.alloc (.cells (arr64 f) 33)).alloc (.cells (clsArr c) 25)).alloc (.cells (clsArr d) 25)).cell? ⟨w.heap.size + 1 + 1, 2, none⟩ = some (.int .u64 ((d 2 : Nat) : Int)) ∧ (((w.alloc (.cells (arr64 f) 33)).alloc (.cells (clsArr c) 25)).alloc (.cells (clsArr d) 25)).cell? ⟨w.heap.size + 1 + 1, 3, none⟩ = some (.int .u64 ((d 3 : Nat) : Int))) ∧ Below w.heap.size w (((w.alloc (.cells (arr64 f) 33)).alloc (.cells (clsArr c) 25)).alloc (.cells (clsArr d) 25)) := ⟨hA0.range hLt, hC0.four.1, hD0.four.1, by repeat (first | with_reducible exact Below.refl _ _ | with_reducible refine Below.setCell ?_ (by first | (simp; done) | (simp; omega)) _ | with_reducible refine below_drewN ?_ _ | with_reducible refine Below.alloc ?_ (by first | (simp; done) | (simp; omega)) _ | with_reducible refine Below.drew ?_)⟩
  clear hA0 hC0 hD0 hLt
  go_wp2_with fail
  generalize ((w.alloc (.cells (arr64 f) 33)).alloc (.cells (clsArr c) 25)).alloc (.cells (clsArr d) 25) = W0 at *
  refine (awake_calls _).mono ?_
  rintro e w1 ⟨rfl, hb1⟩
  have hH1 := drew_makes (kept_makes hH0 hb1)
  clear hH0 hb1
  go_wp2
  refine wp_region_quiet (C := (fun w' => w'.rangeAt w.heap.size 0 L ∧ (w'.cell? ⟨w.heap.size + 1, 0, none⟩ = some (.int .u64 ((c 0 : Nat) : Int)) ∧ w'.cell? ⟨w.heap.size + 1, 1, none⟩ = some (.int .u64 ((c 1 : Nat) : Int)) ∧ w'.cell? ⟨w.heap.size + 1, 2, none⟩ = some (.int .u64 ((c 2 : Nat) : Int)) ∧ w'.cell? ⟨w.heap.size + 1, 3, none⟩ = some (.int .u64 ((c 3 : Nat) : Int))) ∧ (w'.cell? ⟨w.heap.size + 1 + 1, 0, none⟩ = some (.int .u64 ((d 0 : Nat) : Int)) ∧ w'.cell? ⟨w.heap.size + 1 + 1, 1, none⟩ = some (.int .u64 ((d 1 : Nat) : Int)) ∧ w'.cell? ⟨w.heap.size + 1 + 1, 2, none⟩ = some (.int .u64 ((d 2 : Nat) : Int)) ∧ w'.cell? ⟨w.heap.size + 1 + 1, 3, none⟩ = some (.int .u64 ((d 3 : Nat) : Int))) ∧ Below w.heap.size w w')) (by kernel_rfl) (by kernel_rfl) (hH1) ?_
  dsimp only
  repeat (first
    | (refine wpQuiet_skip (by rfl) ?_; simp only [Act.put, List.setIfInBounds_toArray, List.set_cons_zero, List.set_cons_succ])
    | (refine wpQuiet_load 33 _ (w.heap.size) (0) L _ (fun wq hq => hq.1) Try.underlying33 hiL rfl rfl rfl (by rfl) ?_; simp only [Act.put, List.setIfInBounds_toArray, List.set_cons_zero, List.set_cons_succ])
    | (refine' wpQuiet_take (by rfl) ?_ ?_
       rotate_left
       · (intro wq hq; (try dsimp only at hq); go_simp
          first
            | done
            | with_reducible rfl
            | (go_at_call 19; ((try rw [HL.out]); (try rw [← clsArr_lit c])); with_reducible refine (mask_nat f hf c hc M1 H1 _).mono ?_; rintro e wz ⟨rfl, hb⟩; exact ⟨rfl, kept_makes hq hb⟩)
            | (go_at_call 19; ((try rw [HL.out]); (try rw [← clsArr_lit d])); with_reducible refine (mask_nat f hf d hd M2 H2 _).mono ?_; rintro e wz ⟨rfl, hb⟩; exact ⟨rfl, kept_makes hq hb⟩)
         )
       simp only [Act.put, List.setIfInBounds_toArray, List.set_cons_zero, List.set_cons_succ]))
  refine wpQuiet_nil ?_
  intro w2 h2
  have hH2 := drew_makes h2
  clear hH1 h2
  go_wp2
  refine wp_region_quiet (C := (fun w' => w'.rangeAt w.heap.size 0 L ∧ (w'.cell? ⟨w.heap.size + 1, 0, none⟩ = some (.int .u64 ((c 0 : Nat) : Int)) ∧ w'.cell? ⟨w.heap.size + 1, 1, none⟩ = some (.int .u64 ((c 1 : Nat) : Int)) ∧ w'.cell? ⟨w.heap.size + 1, 2, none⟩ = some (.int .u64 ((c 2 : Nat) : Int)) ∧ w'.cell? ⟨w.heap.size + 1, 3, none⟩ = some (.int .u64 ((c 3 : Nat) : Int))) ∧ (w'.cell? ⟨w.heap.size + 1 + 1, 0, none⟩ = some (.int .u64 ((d 0 : Nat) : Int)) ∧ w'.cell? ⟨w.heap.size + 1 + 1, 1, none⟩ = some (.int .u64 ((d 1 : Nat) : Int)) ∧ w'.cell? ⟨w.heap.size + 1 + 1, 2, none⟩ = some (.int .u64 ((d 2 : Nat) : Int)) ∧ w'.cell? ⟨w.heap.size + 1 + 1, 3, none⟩ = some (.int .u64 ((d 3 : Nat) : Int))) ∧ Below w.heap.size w w')) (by kernel_rfl) (by kernel_rfl) (hH2) ?_
  dsimp only
  repeat (first
    | (refine wpQuiet_skip (by rfl) ?_; simp only [Act.put, List.setIfInBounds_toArray, List.set_cons_zero, List.set_cons_succ])
    | (refine wpQuiet_load 33 _ (w.heap.size) (0) L _ (fun wq hq => hq.1) Try.underlying33 hiL rfl rfl rfl (by rfl) ?_; simp only [Act.put, List.setIfInBounds_toArray, List.set_cons_zero, List.set_cons_succ])
    | (refine' wpQuiet_take (by rfl) ?_ ?_
       rotate_left
       · (intro wq hq; (try dsimp only at hq); go_simp
          first
            | done
            | with_reducible rfl
            | (go_at_call 13; ((try rw [← clsArr_lit c]); (try rw [← clsArr_lit d])); with_reducible refine (join_calls c d hc hd _).mono ?_; rintro e wz ⟨rfl, hb⟩; exact ⟨rfl, kept_makes hq hb⟩)
            | (go_at_call 15; ((try rw [← clsArr_lit c]); (try rw [← clsArr_lit d])); with_reducible refine (minus_calls c d hc hd _).mono ?_; rintro e wz ⟨rfl, hb⟩; exact ⟨rfl, kept_makes hq hb⟩)
            | (go_at_call 17; (try rw [← clsArr_lit c]); with_reducible refine (not_calls c hc _).mono ?_; rintro e wz ⟨rfl, hb⟩; exact ⟨rfl, kept_makes hq hb⟩)
            | (go_at_call 19; (try rw [HL.out]); with_reducible refine (mask_nat f hf (fun j => c j ||| d j) (cls_join hc hd) MJ HJ _).mono ?_; rintro e wz ⟨rfl, hb⟩; exact ⟨rfl, kept_makes hq hb⟩)
            | (go_at_call 19; (try rw [HL.out]); with_reducible refine (mask_nat f hf (fun j => less (c j) (d j)) (cls_less hc d) MM HM _).mono ?_; rintro e wz ⟨rfl, hb⟩; exact ⟨rfl, kept_makes hq hb⟩)
            | (go_at_call 19; (try rw [HL.out]); with_reducible refine (mask_nat f hf (fun j => flip (c j)) (cls_flip c) MN HN _).mono ?_; rintro e wz ⟨rfl, hb⟩; exact ⟨rfl, kept_makes hq hb⟩)
         )
       simp only [Act.put, List.setIfInBounds_toArray, List.set_cons_zero, List.set_cons_succ]))
  refine wpQuiet_nil ?_
  intro w3 h3
  clear hH2 hor han hxo
  go_wp2
  go_loopw [9] (fun i wr => ∃ k : Nat, k ≤ 64 ∧ i = .int .i64 k ∧ wr.rangeAt w.heap.size 0 L ∧ (wr.cell? ⟨w.heap.size + 1, 0, none⟩ = some (.int .u64 ((c 0 : Nat) : Int)) ∧ wr.cell? ⟨w.heap.size + 1, 1, none⟩ = some (.int .u64 ((c 1 : Nat) : Int)) ∧ wr.cell? ⟨w.heap.size + 1, 2, none⟩ = some (.int .u64 ((c 2 : Nat) : Int)) ∧ wr.cell? ⟨w.heap.size + 1, 3, none⟩ = some (.int .u64 ((c 3 : Nat) : Int))) ∧ (wr.cell? ⟨w.heap.size + 1 + 1, 0, none⟩ = some (.int .u64 ((d 0 : Nat) : Int)) ∧ wr.cell? ⟨w.heap.size + 1 + 1, 1, none⟩ = some (.int .u64 ((d 1 : Nat) : Int)) ∧ wr.cell? ⟨w.heap.size + 1 + 1, 2, none⟩ = some (.int .u64 ((d 2 : Nat) : Int)) ∧ wr.cell? ⟨w.heap.size + 1 + 1, 3, none⟩ = some (.int .u64 ((d 3 : Nat) : Int))) ∧ Below w.heap.size w wr) (fun i _ => 64 - (intOf i).toNat)
  case atStart => exact ⟨0, by omega, rfl, h3⟩
  case round =>
    obtain ⟨k, hk, rfl, hI⟩ := hrel
    by_cases hlt : k < 64
    · have hk8 : (k : Int) < 64 := by omega
      have hfk := hf k
      have hb1 : bits BinOp.and IntKind.u64 ((M1 : Int) / 2 ^ k) 1 = ((if hasC c (f k) then 1 else 0 : Nat) : Int) := by
        rw [bit_int M1 k hM1, ← H1.out, mk_bit]; simp [hlt]
      obtain ⟨E, HE⟩ : ∃ E, Hid (mk (fun i => isB (f k) (f i)) 64 = E) := ⟨_, rfl⟩
      have hEl : E < 18446744073709551616 := by rw [← HE.out]; exact mk_lt64 _ _ (Nat.le_refl _)
      have hb2 : bits BinOp.and IntKind.u64 ((E : Int) / 2 ^ k) 1 = 1 := by
        rw [bit_int E k hEl, ← HE.out, mk_bit]; simp [hlt, isB]
      have hJ : wr.drew.cell? ⟨w.heap.size, k, none⟩ = some (.int .u8 ((f k : Nat) : Int)) ∧ wr.drew.rangeAt w.heap.size 0 L ∧ (wr.drew.cell? ⟨w.heap.size + 1, 0, none⟩ = some (.int .u64 ((c 0 : Nat) : Int)) ∧ wr.drew.cell? ⟨w.heap.size + 1, 1, none⟩ = some (.int .u64 ((c 1 : Nat) : Int)) ∧ wr.drew.cell? ⟨w.heap.size + 1, 2, none⟩ = some (.int .u64 ((c 2 : Nat) : Int)) ∧ wr.drew.cell? ⟨w.heap.size + 1, 3, none⟩ = some (.int .u64 ((c 3 : Nat) : Int))) ∧ (wr.drew.cell? ⟨w.heap.size + 1 + 1, 0, none⟩ = some (.int .u64 ((d 0 : Nat) : Int)) ∧ wr.drew.cell? ⟨w.heap.size + 1 + 1, 1, none⟩ = some (.int .u64 ((d 1 : Nat) : Int)) ∧ wr.drew.cell? ⟨w.heap.size + 1 + 1, 2, none⟩ = some (.int .u64 ((d 2 : Nat) : Int)) ∧ wr.drew.cell? ⟨w.heap.size + 1 + 1, 3, none⟩ = some (.int .u64 ((d 3 : Nat) : Int))) ∧ Below w.heap.size w wr.drew := ⟨range_at hI.1 HL.out k hlt, drew_makes hI⟩
      obtain ⟨ST, hST⟩ : ∃ ST : ByteArray, ⟨[UInt8.ofNat (f k)].toArray⟩ = ST := ⟨_, rfl⟩
      have hSTs : ST.size ≤ 9223372036854775807 := by rw [← hST, (one_byte (f k) hfk).1]; decide
      obtain ⟨O, HO⟩ : ∃ O, Hid (ofTo (byteAt ST) ST.size = O) := ⟨_, rfl⟩
      have hO : Cls O := by rw [← HO.out]; exact cls_of _ _
      have HOE : Hid (mk (fun i => hasC O (f i)) 64 = E) := by
        rw [← HO.out, ← hST, ← HE.out]
        exact mk_congr _ _ 64 fun i _ => one_has (f k) hfk (f i)
      have hST : Hid (⟨[UInt8.ofNat (f k)].toArray⟩ = ST) := hST
      have hwk : IntKind.u64.wrap (k : Int) = (k : Int) := by rw [IntKind.wrap_u64]; omega
      have hmk : min k 64 = k := by omega
      have HE1 : Hid (bits BinOp.and IntKind.u64 ((M1 : Int) / 2 ^ k) 1 = ((if hasC c (f k) then 1 else 0 : Nat) : Int)) := hb1
      clear hb1
      cases hv : hasC c (f k)
      all_goals
        have hb1 := HE1.out
        rw [hv] at hb1
        simp only [Bool.false_eq_true, if_false, if_true] at hb1
        go_wp2
        refine wp_region_quiet (C := (fun w' => w'.cell? ⟨w.heap.size, k, none⟩ = some (.int .u8 ((f k : Nat) : Int)) ∧ w'.rangeAt w.heap.size 0 L ∧ (w'.cell? ⟨w.heap.size + 1, 0, none⟩ = some (.int .u64 ((c 0 : Nat) : Int)) ∧ w'.cell? ⟨w.heap.size + 1, 1, none⟩ = some (.int .u64 ((c 1 : Nat) : Int)) ∧ w'.cell? ⟨w.heap.size + 1, 2, none⟩ = some (.int .u64 ((c 2 : Nat) : Int)) ∧ w'.cell? ⟨w.heap.size + 1, 3, none⟩ = some (.int .u64 ((c 3 : Nat) : Int))) ∧ (w'.cell? ⟨w.heap.size + 1 + 1, 0, none⟩ = some (.int .u64 ((d 0 : Nat) : Int)) ∧ w'.cell? ⟨w.heap.size + 1 + 1, 1, none⟩ = some (.int .u64 ((d 1 : Nat) : Int)) ∧ w'.cell? ⟨w.heap.size + 1 + 1, 2, none⟩ = some (.int .u64 ((d 2 : Nat) : Int)) ∧ w'.cell? ⟨w.heap.size + 1 + 1, 3, none⟩ = some (.int .u64 ((d 3 : Nat) : Int))) ∧ Below w.heap.size w w')) (by kernel_rfl) (by kernel_rfl) (hJ) ?_
        dsimp only
        repeat (first
          | (refine wpQuiet_skip (by rfl) ?_; simp only [Act.put, List.setIfInBounds_toArray, List.set_cons_zero, List.set_cons_succ])
          | (refine wpQuiet_load 33 _ (w.heap.size) (0) L _ (fun wq hq => hq.2.1) Try.underlying33 hiL rfl rfl rfl (by rfl) ?_; simp only [Act.put, List.setIfInBounds_toArray, List.set_cons_zero, List.set_cons_succ])
          | (refine' wpQuiet_take (by rfl) ?_ ?_
             rotate_left
             · (intro wq hq; (try dsimp only at hq); go_simp
                first
                  | done
                  | with_reducible rfl
                  | (go_at_call 10; (try rw [← clsArr_lit c]); with_reducible refine (has_calls c hc (f k) hfk _).mono ?_; rintro e wz ⟨rfl, hb⟩; exact ⟨rfl, kept_round hq hb⟩)
                  | (go_at_call 20; (try rw [HL.out]); with_reducible refine (equal_nat f hf (f k) hfk E HE _).mono ?_; rintro e wz ⟨rfl, hb⟩; exact ⟨rfl, kept_round hq hb⟩)
               )
             simp only [Act.put, List.setIfInBounds_toArray, List.set_cons_zero, List.set_cons_succ]))
        refine wpQuiet_nil ?_
        intro w4 h4
        clear hJ hI hb1 hb2
        go_wp2
        have hEq : ∀ wq : World, Calls Try.prog 20 #[.agg L.toArray, .int .u8 ((f k : Nat) : Int)] wq fun e w' => e = .returned (.int .u64 (E : Int)) ∧ Below wq.heap.size wq w' := fun wq => by rw [HL.out]; exact equal_nat f hf (f k) hfk E HE wq
        have hMo : ∀ wq : World, Calls Try.prog 19 #[.agg L.toArray, .agg (clsArr O)] wq fun e w' => e = .returned (.int .u64 (E : Int)) ∧ Below wq.heap.size wq w' := fun wq => by rw [HL.out]; exact mask_nat f hf O hO E HOE wq
        refine wp_region_held_drew (S := fun w' => w'.cell? ⟨w.heap.size, k, none⟩ = some (.int .u8 ((f k : Nat) : Int)) ∧ w'.rangeAt w.heap.size 0 L ∧ (w'.cell? ⟨w.heap.size + 1, 0, none⟩ = some (.int .u64 ((c 0 : Nat) : Int)) ∧ w'.cell? ⟨w.heap.size + 1, 1, none⟩ = some (.int .u64 ((c 1 : Nat) : Int)) ∧ w'.cell? ⟨w.heap.size + 1, 2, none⟩ = some (.int .u64 ((c 2 : Nat) : Int)) ∧ w'.cell? ⟨w.heap.size + 1, 3, none⟩ = some (.int .u64 ((c 3 : Nat) : Int))) ∧ (w'.cell? ⟨w.heap.size + 1 + 1, 0, none⟩ = some (.int .u64 ((d 0 : Nat) : Int)) ∧ w'.cell? ⟨w.heap.size + 1 + 1, 1, none⟩ = some (.int .u64 ((d 1 : Nat) : Int)) ∧ w'.cell? ⟨w.heap.size + 1 + 1, 2, none⟩ = some (.int .u64 ((d 2 : Nat) : Int)) ∧ w'.cell? ⟨w.heap.size + 1 + 1, 3, none⟩ = some (.int .u64 ((d 3 : Nat) : Int))) ∧ Below w.heap.size w w') (by kernel_rfl) ⟨h4.1, drew_makes h4.2⟩ (fun hHeld => ?_)
        clear h4
        (refine wpAnyH_take (i := 0) (v := .agg L.toArray) rfl (by kernel_rfl) (by kernel_rfl) (by kernel_rfl) (fun _ _ _ h => h) (yieldsIf_load_mid (by rfl) 33 _ rfl (w.heap.size) 0 rfl L _ (fun wq hq => hq.2.1) Try.underlying33 rfl hiL) (by assumption) ?_; simp only [Act.put, List.getElem_toArray, List.getElem_cons_zero, List.setIfInBounds_toArray, List.set_cons_zero, List.set_cons_succ])
        (refine' wpAnyH_take (i := 1) rfl (by kernel_rfl) (by kernel_rfl) (by kernel_rfl) (fun _ _ _ h => h) (Or.inl ⟨by rfl, ?_⟩) (by assumption) ?_; rotate_left; (· (intro wq hq; (try dsimp only at hq); go_simp; first | done | with_reducible rfl)); simp only [Act.put, List.getElem_toArray, List.getElem_cons_zero, List.getElem_cons_succ, List.setIfInBounds_toArray, List.set_cons_zero, List.set_cons_succ])
        (refine' wpAnyH_take (i := 2) rfl (by kernel_rfl) (by kernel_rfl) (by kernel_rfl) (fun _ _ _ h => h) (Or.inl ⟨by rfl, ?_⟩) (by assumption) ?_; rotate_left; (· (intro wq hq; (try dsimp only at hq); go_simp; first | done | with_reducible rfl)); simp only [Act.put, List.getElem_toArray, List.getElem_cons_zero, List.getElem_cons_succ, List.setIfInBounds_toArray, List.set_cons_zero, List.set_cons_succ])
        (refine' wpAnyH_take (i := 3) rfl (by kernel_rfl) (by kernel_rfl) (by kernel_rfl) (fun _ _ _ h => h) (Or.inl ⟨by rfl, ?_⟩) (by assumption) ?_; rotate_left; (· (intro wq hq; (try dsimp only at hq); go_simp; first | done | with_reducible rfl)); simp only [Act.put, List.getElem_toArray, List.getElem_cons_zero, List.getElem_cons_succ, List.setIfInBounds_toArray, List.set_cons_zero, List.set_cons_succ])
        (refine wpAnyH_take (i := 5) (v := .agg L.toArray) rfl (by kernel_rfl) (by kernel_rfl) (by kernel_rfl) (fun _ _ _ h => h) (yieldsIf_load_mid (by rfl) 33 _ rfl (w.heap.size) 0 rfl L _ (fun wq hq => hq.2.1) Try.underlying33 rfl hiL) (by assumption) ?_; simp only [Act.put, List.getElem_toArray, List.getElem_cons_zero, List.getElem_cons_succ, List.setIfInBounds_toArray, List.set_cons_zero, List.set_cons_succ])
        (refine' wpAnyH_take (i := 6) rfl (by kernel_rfl) (by kernel_rfl) (by kernel_rfl) (fun _ _ _ h => h) (Or.inl ⟨by rfl, ?_⟩) (by assumption) ?_; rotate_left; (· (intro wq hq; (try dsimp only at hq); go_simp; first | done | with_reducible rfl)); simp only [Act.put, List.getElem_toArray, List.getElem_cons_zero, List.getElem_cons_succ, List.setIfInBounds_toArray, List.set_cons_zero, List.set_cons_succ])
        (refine' wpAnyH_take (i := 7) rfl (by kernel_rfl) (by kernel_rfl) (by kernel_rfl) (fun _ _ _ h => h) (Or.inl ⟨by rfl, ?_⟩) (by assumption) ?_; rotate_left; (· (intro wq hq; (try dsimp only at hq); go_simp; first | done | with_reducible rfl)); simp only [Act.put, List.getElem_toArray, List.getElem_cons_zero, List.getElem_cons_succ, List.setIfInBounds_toArray, List.set_cons_zero, List.set_cons_succ])
        (refine' wpAnyH_take (i := 8) rfl (by kernel_rfl) (by kernel_rfl) (by kernel_rfl) (fun _ _ _ h => h) (Or.inl ⟨by rfl, ?_⟩) (by assumption) ?_; rotate_left; (· (intro wq hq; (try dsimp only at hq); go_simp; first | done | with_reducible rfl)); simp only [Act.put, List.getElem_toArray, List.getElem_cons_zero, List.getElem_cons_succ, List.setIfInBounds_toArray, List.set_cons_zero, List.set_cons_succ])
        refine wpAnyH_ready (rs := [4, 9]) (by kernel_rfl) (by simp) ?_
        refine AllReadyH.cons rfl (fun K hK => ?_) ?_
        · go_simp
          (go_at_call 20; refine (hEq _).mono ?_; rintro e wz ⟨rfl, hb⟩; (try dsimp only))
          refine hK.out _ _ (kept_round hHeld hb) (fun hH5 => ?_)
          clear hK hb hHeld
          refine wpAnyH_ready (rs := [9]) (by kernel_rfl) (by simp) ?_
          refine AllReadyH.cons rfl (fun K hK => ?_) ?_
          · go_simp
            refine hK.out _ _ (kept_round hH5 ((Below.refl _ _).alloc (Nat.le_refl _) _)) (fun hH6 => ?_)
            have hN := At.new wz #[.int .u8 ((f k : Nat) : Int)] 5
            clear hK hH5
            refine wpAnyH_ready (rs := [10]) (by kernel_rfl) (by simp) ?_
            refine AllReadyH.cons rfl (fun K hK => ?_) ?_
            · have hcv := conv_one (f k) hfk hN
              rw [hST.out] at hcv
              go_simp
              refine hK.out _ _ hH6 (fun hH7 => ?_)
              clear hK hcv hH6
              refine wpAnyH_ready (rs := [11]) (by kernel_rfl) (by simp) ?_
              refine AllReadyH.cons rfl (fun K hK => ?_) ?_
              · go_simp
                (go_at_call 9; refine (of_calls ST hSTs _).mono ?_; rintro e wo ⟨rfl, hbo⟩; (try dsimp only)); rw [HO.out]
                refine hK.out _ _ (kept_round hH7 hbo) (fun hHo => ?_)
                clear hK hH7
                refine wpAnyH_ready (rs := [12]) (by kernel_rfl) (by simp) ?_
                refine AllReadyH.cons rfl (fun K hK => ?_) ?_
                · go_simp
                  (go_at_call 19; refine (hMo _).mono ?_; rintro e wm ⟨rfl, hbm⟩; (try dsimp only))
                  refine hK.out _ _ (kept_round hHo hbm) (fun hHm => ?_)
                  clear hK hHo hbm hbo
                  (refine' wpAnyH_take (i := 13) rfl (by kernel_rfl) (by kernel_rfl) (by kernel_rfl) (fun _ _ _ h => h) (Or.inl ⟨by rfl, ?_⟩) (by assumption) ?_; rotate_left; (· (intro wq hq; (try dsimp only at hq); go_simp; first | done | with_reducible rfl)); simp only [Act.put, List.getElem_toArray, List.getElem_cons_zero, List.getElem_cons_succ, List.setIfInBounds_toArray, List.set_cons_zero, List.set_cons_succ])
                  refine wpAnyH_done (by kernel_rfl) ?_ _
                  go_wp2
                  go_roundw
                  case rel => exact ⟨k + 1, by omega, by go_num, hHm.2⟩
                  case measure => simp [intOf]; omega
                · exact AllReadyH.nil
              · exact AllReadyH.nil
            · exact AllReadyH.nil
          · exact AllReadyH.nil
        · refine AllReadyH.cons rfl (fun K hK => ?_) ?_
          · go_simp
            refine hK.out _ _ (kept_round hHeld ((Below.refl _ _).alloc (Nat.le_refl _) _)) (fun hH5 => ?_)
            have hN : At (w4.alloc (.cells #[.int .u8 ((f k : Nat) : Int)] 5)).drew w4.heap.size #[.int .u8 ((f k : Nat) : Int)] 5 := At.new w4 _ _
            clear hK hHeld
            refine wpAnyH_ready (rs := [4, 10]) (by kernel_rfl) (by simp) ?_
            refine AllReadyH.cons rfl (fun K hK => ?_) ?_
            · go_simp
              (go_at_call 20; refine (hEq _).mono ?_; rintro e wz ⟨rfl, hb⟩; (try dsimp only))
              refine hK.out _ _ (kept_round hH5 hb) (fun hH6 => ?_)
              replace hN := hN.keptAll hb
              clear hK hb hH5
              refine wpAnyH_ready (rs := [10]) (by kernel_rfl) (by simp) ?_
              refine AllReadyH.cons rfl (fun K hK => ?_) ?_
              · have hcv := conv_one (f k) hfk hN
                rw [hST.out] at hcv
                go_simp
                refine hK.out _ _ hH6 (fun hH7 => ?_)
                clear hK hcv hH6
                refine wpAnyH_ready (rs := [11]) (by kernel_rfl) (by simp) ?_
                refine AllReadyH.cons rfl (fun K hK => ?_) ?_
                · go_simp
                  (go_at_call 9; refine (of_calls ST hSTs _).mono ?_; rintro e wo ⟨rfl, hbo⟩; (try dsimp only)); rw [HO.out]
                  refine hK.out _ _ (kept_round hH7 hbo) (fun hHo => ?_)
                  clear hK hH7
                  refine wpAnyH_ready (rs := [12]) (by kernel_rfl) (by simp) ?_
                  refine AllReadyH.cons rfl (fun K hK => ?_) ?_
                  · go_simp
                    (go_at_call 19; refine (hMo _).mono ?_; rintro e wm ⟨rfl, hbm⟩; (try dsimp only))
                    refine hK.out _ _ (kept_round hHo hbm) (fun hHm => ?_)
                    clear hK hHo hbm hbo
                    (refine' wpAnyH_take (i := 13) rfl (by kernel_rfl) (by kernel_rfl) (by kernel_rfl) (fun _ _ _ h => h) (Or.inl ⟨by rfl, ?_⟩) (by assumption) ?_; rotate_left; (· (intro wq hq; (try dsimp only at hq); go_simp; first | done | with_reducible rfl)); simp only [Act.put, List.getElem_toArray, List.getElem_cons_zero, List.getElem_cons_succ, List.setIfInBounds_toArray, List.set_cons_zero, List.set_cons_succ])
                    refine wpAnyH_done (by kernel_rfl) ?_ _
                    go_wp2
                    go_roundw
                    case rel => exact ⟨k + 1, by omega, by go_num, hHm.2⟩
                    case measure => simp [intOf]; omega
                  · exact AllReadyH.nil
                · exact AllReadyH.nil
              · exact AllReadyH.nil
            · refine AllReadyH.cons rfl (fun K hK => ?_) ?_
              · have hcv := conv_one (f k) hfk hN
                rw [hST.out] at hcv
                go_simp
                refine hK.out _ _ hH5 (fun hH6 => ?_)
                clear hK hcv hH5
                refine wpAnyH_ready (rs := [4]) (by kernel_rfl) (by simp) ?_
                refine AllReadyH.cons rfl (fun K hK => ?_) ?_
                · go_simp
                  (go_at_call 20; refine (hEq _).mono ?_; rintro e wz ⟨rfl, hb⟩; (try dsimp only))
                  refine hK.out _ _ (kept_round hH6 hb) (fun hH7 => ?_)
                  clear hK hb hH6
                  refine wpAnyH_ready (rs := [11]) (by kernel_rfl) (by simp) ?_
                  refine AllReadyH.cons rfl (fun K hK => ?_) ?_
                  · go_simp
                    (go_at_call 9; refine (of_calls ST hSTs _).mono ?_; rintro e wo ⟨rfl, hbo⟩; (try dsimp only)); rw [HO.out]
                    refine hK.out _ _ (kept_round hH7 hbo) (fun hHo => ?_)
                    clear hK hH7
                    refine wpAnyH_ready (rs := [12]) (by kernel_rfl) (by simp) ?_
                    refine AllReadyH.cons rfl (fun K hK => ?_) ?_
                    · go_simp
                      (go_at_call 19; refine (hMo _).mono ?_; rintro e wm ⟨rfl, hbm⟩; (try dsimp only))
                      refine hK.out _ _ (kept_round hHo hbm) (fun hHm => ?_)
                      clear hK hHo hbm hbo
                      (refine' wpAnyH_take (i := 13) rfl (by kernel_rfl) (by kernel_rfl) (by kernel_rfl) (fun _ _ _ h => h) (Or.inl ⟨by rfl, ?_⟩) (by assumption) ?_; rotate_left; (· (intro wq hq; (try dsimp only at hq); go_simp; first | done | with_reducible rfl)); simp only [Act.put, List.getElem_toArray, List.getElem_cons_zero, List.getElem_cons_succ, List.setIfInBounds_toArray, List.set_cons_zero, List.set_cons_succ])
                      refine wpAnyH_done (by kernel_rfl) ?_ _
                      go_wp2
                      go_roundw
                      case rel => exact ⟨k + 1, by omega, by go_num, hHm.2⟩
                      case measure => simp [intOf]; omega
                    · exact AllReadyH.nil
                  · exact AllReadyH.nil
                · exact AllReadyH.nil
              · exact AllReadyH.nil
          · exact AllReadyH.nil
    · have hk' : k = 64 := by omega
      subst hk'
      go_wp2
      go_ret
      exact ⟨rfl, hI.2.2.2⟩
end Go.Proofs.Ytjeecpgcokjjjaa
