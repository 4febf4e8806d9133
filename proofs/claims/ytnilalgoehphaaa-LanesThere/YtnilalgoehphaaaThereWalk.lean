/-
  The law LanesThere as a call: true, and nothing old has turned.
-/
import Derived.Test.YtnilalgoehphaaaThereFacts
import Derived.Deep.RegionHeld3
namespace Go.Proofs.Ytnilalgoehphaaa
open Go.RowKit

set_option maxRecDepth 100000 in
set_option maxHeartbeats 4000000 in
theorem there_nat (f : Nat → Nat) (hf : ∀ i, f i < 256) (W L C : Nat) (k : Int) (_hk0 : -9223372036854775808 ≤ k) (_hk1 : k < 9223372036854775808) (hW : W < 18446744073709551616) (hL : L < 18446744073709551616)
    (HL : Hid (loadTo f 8 = L)) (HLB : Hid (byteArr (byteOf L) = byteArr f)) (HWB : Hid (loadTo (byteOf W) 8 = W)) (hC : (W : Int) % 256 = (C : Int)) (_hC2 : C < 256) (w : World) :
    Calls Try.prog 8 #[.agg (byteArr f), .int .u64 W, .int .i64 k] w fun e w' => e = .returned (.bool true) ∧ Below w.heap.size w w' := by
  have hne : ∀ wx : World, (binOp .neq 22 (.agg (byteArr f)) (.agg (byteArr f))).run Try.prog wx = .ok (.bool false) wx := neq_same f
  go_enter Try.func8, Try.ntmps8
  go_wp2
  have hS : ((w.alloc (.cells (byteArr f) 22)).drew.cell? ⟨w.heap.size, 0, none⟩ = some (.int .u8 ((f 0 : Nat) : Int)) ∧ (w.alloc (.cells (byteArr f) 22)).drew.cell? ⟨w.heap.size, 1, none⟩ = some (.int .u8 ((f 1 : Nat) : Int)) ∧ (w.alloc (.cells (byteArr f) 22)).drew.cell? ⟨w.heap.size, 2, none⟩ = some (.int .u8 ((f 2 : Nat) : Int)) ∧ (w.alloc (.cells (byteArr f) 22)).drew.cell? ⟨w.heap.size, 3, none⟩ = some (.int .u8 ((f 3 : Nat) : Int)) ∧ (w.alloc (.cells (byteArr f) 22)).drew.cell? ⟨w.heap.size, 4, none⟩ = some (.int .u8 ((f 4 : Nat) : Int)) ∧ (w.alloc (.cells (byteArr f) 22)).drew.cell? ⟨w.heap.size, 5, none⟩ = some (.int .u8 ((f 5 : Nat) : Int)) ∧ (w.alloc (.cells (byteArr f) 22)).drew.cell? ⟨w.heap.size, 6, none⟩ = some (.int .u8 ((f 6 : Nat) : Int)) ∧ (w.alloc (.cells (byteArr f) 22)).drew.cell? ⟨w.heap.size, 7, none⟩ = some (.int .u8 ((f 7 : Nat) : Int))) ∧ Below w.heap.size w (w.alloc (.cells (byteArr f) 22)).drew := by
    refine ⟨⟨?_, ?_, ?_, ?_, ?_, ?_, ?_, ?_⟩, ((Below.refl _ _).alloc (Nat.le_refl _) _).drew⟩ <;> (show (World.cell? (w.alloc _) _ = _); rw [World.cell?_alloc_at _ _ _ _ rfl]; rfl)
  go_region_held3 (fun w' => (w'.cell? ⟨w.heap.size, 0, none⟩ = some (.int .u8 ((f 0 : Nat) : Int)) ∧ w'.cell? ⟨w.heap.size, 1, none⟩ = some (.int .u8 ((f 1 : Nat) : Int)) ∧ w'.cell? ⟨w.heap.size, 2, none⟩ = some (.int .u8 ((f 2 : Nat) : Int)) ∧ w'.cell? ⟨w.heap.size, 3, none⟩ = some (.int .u8 ((f 3 : Nat) : Int)) ∧ w'.cell? ⟨w.heap.size, 4, none⟩ = some (.int .u8 ((f 4 : Nat) : Int)) ∧ w'.cell? ⟨w.heap.size, 5, none⟩ = some (.int .u8 ((f 5 : Nat) : Int)) ∧ w'.cell? ⟨w.heap.size, 6, none⟩ = some (.int .u8 ((f 6 : Nat) : Int)) ∧ w'.cell? ⟨w.heap.size, 7, none⟩ = some (.int .u8 ((f 7 : Nat) : Int))) ∧ Below w.heap.size w w') (first | exact hS | exact kept8 (by assumption) hb)
    (first
      | (go_at_call 27; refine (awake_calls _).mono ?_; rintro e w' ⟨rfl, hb⟩)
      | (go_at_call_of 9 (Value.agg (byteArr (byteOf W))); refine (load_nat (byteOf W) (byteOf_lt W) W _ HWB).mono ?_; rintro e w' ⟨rfl, hb⟩)
      | (go_at_call 9; (try rw [byteArr_lit f]); refine (load_nat f hf L _ HL).mono ?_; rintro e w' ⟨rfl, hb⟩)
      | (go_at_call 11; refine (store_calls _ _ (by omega) (by omega)).mono ?_; rintro e w' ⟨rfl, hb⟩; rw [Int.toNat_natCast]; try rw [HLB.out]))
  rename_i hh
  obtain ⟨hcells, hbel⟩ := hh
  have Hcell : Hid (∀ i, i < 8 → w'.cell? ⟨w.heap.size, i, none⟩ = some (.int .u8 ((f i : Nat) : Int))) := cell8 hcells
  have hsz : w.heap.size < w'.heap.size := block_lt_of_cell (Hcell.out 0 (by decide))
  clear hcells hS hb hne
  obtain ⟨r, hr⟩ : ∃ r, k.tmod 8 = r := ⟨_, rfl⟩
  have hr1 : -8 < r := by rw [← hr]; exact tmod8_lo k
  have hr2 : r < 8 := by rw [← hr]; exact tmod8_hi k
  go_wp2
  obtain ⟨K, hK⟩ : ∃ K : Nat, (r + 8) % 8 = (K : Int) := ⟨((r + 8) % 8).toNat, by omega⟩
  have hK8 : K < 8 := by omega
  rw [hK]
  clear hK hr
  go_loopw [9] (fun i wr => ∃ n : Nat, n ≤ 8 ∧ i = .int .i64 n ∧ wr = w'.alloc (.cells (turnTo f K n) 22)) (fun i _ => 8 - (intOf i).toNat)
  case atStart => exact ⟨0, by omega, rfl, by rw [turnTo_zero]⟩
  case round =>
    obtain ⟨n, hn, rfl, rfl⟩ := hrel
    by_cases hlt : n < 8
    · have hn8 : (n : Int) < 8 := by omega
      have hP : (7 - (n : Int) + (K : Int)) % 8 = ((to8 K n : Nat) : Int) := by unfold to8; omega
      have hP8 := to8_lt K n
      have hc1 := Hcell.out n hlt
      have hc2 := turnTo_at f K n hK8 hlt
      generalize hPP : to8 K n = P at *
      have HPP : Hid (to8 K n = P) := hPP
      clear hPP
      have hP0 : (P : Int) < 8 := by omega
      go_wp2
      go_roundw
      case rel => exact ⟨n + 1, by omega, by go_num, by rw [← turnTo_set f K n hK8 hlt, HPP.out]⟩
      case measure => simp [intOf]; omega
    · have hn' : n = 8 := by omega
      subst hn'
      rw [turnTo_full]
      obtain ⟨g, hg⟩ : ∃ g : Nat → Nat, (fun j => f (from8 K j)) = g := ⟨_, rfl⟩
      have hgb : ∀ i, g i < 256 := by rw [← hg]; exact fun i => hf _
      obtain ⟨G, hG⟩ : ∃ G, loadTo g 8 = G := ⟨_, rfl⟩
      have HG : Hid (loadTo g 8 = G) := hG
      have hGb : G < 18446744073709551616 := by rw [← hG]; exact loadTo_lt g hgb 8
      have HGf : Hid (∀ i, i < 8 → byteOf G (to8 K i) = byteOf L i) := by
        intro i hi
        rw [← hG, ← hg, byte_turn f hf K i hK8 hi, ← HL.out, byteOf_load f hf 8 i hi]
      have HSum : Hid (sumTo G 8 = sumTo L 8) := by show sumTo G 8 = sumTo L 8; rw [← hG, ← hg, sum_turn f hf K hK8, HL.out]
      rw [hg]
      clear hg hG
      go_wp2
      have hS2 : ∀ wt : World, wt = (w'.alloc (.cells (byteArr g) 22)).drew → ((wt.cell? ⟨w.heap.size, 0, none⟩ = some (.int .u8 ((f 0 : Nat) : Int)) ∧ wt.cell? ⟨w.heap.size, 1, none⟩ = some (.int .u8 ((f 1 : Nat) : Int)) ∧ wt.cell? ⟨w.heap.size, 2, none⟩ = some (.int .u8 ((f 2 : Nat) : Int)) ∧ wt.cell? ⟨w.heap.size, 3, none⟩ = some (.int .u8 ((f 3 : Nat) : Int)) ∧ wt.cell? ⟨w.heap.size, 4, none⟩ = some (.int .u8 ((f 4 : Nat) : Int)) ∧ wt.cell? ⟨w.heap.size, 5, none⟩ = some (.int .u8 ((f 5 : Nat) : Int)) ∧ wt.cell? ⟨w.heap.size, 6, none⟩ = some (.int .u8 ((f 6 : Nat) : Int)) ∧ wt.cell? ⟨w.heap.size, 7, none⟩ = some (.int .u8 ((f 7 : Nat) : Int))) ∧ (wt.cell? ⟨w'.heap.size, 0, none⟩ = some (.int .u8 ((g 0 : Nat) : Int)) ∧ wt.cell? ⟨w'.heap.size, 1, none⟩ = some (.int .u8 ((g 1 : Nat) : Int)) ∧ wt.cell? ⟨w'.heap.size, 2, none⟩ = some (.int .u8 ((g 2 : Nat) : Int)) ∧ wt.cell? ⟨w'.heap.size, 3, none⟩ = some (.int .u8 ((g 3 : Nat) : Int)) ∧ wt.cell? ⟨w'.heap.size, 4, none⟩ = some (.int .u8 ((g 4 : Nat) : Int)) ∧ wt.cell? ⟨w'.heap.size, 5, none⟩ = some (.int .u8 ((g 5 : Nat) : Int)) ∧ wt.cell? ⟨w'.heap.size, 6, none⟩ = some (.int .u8 ((g 6 : Nat) : Int)) ∧ wt.cell? ⟨w'.heap.size, 7, none⟩ = some (.int .u8 ((g 7 : Nat) : Int)))) ∧ Below w.heap.size w wt := by
        intro wt ht
        subst ht
        refine ⟨⟨⟨?_, ?_, ?_, ?_, ?_, ?_, ?_, ?_⟩, ⟨?_, ?_, ?_, ?_, ?_, ?_, ?_, ?_⟩⟩, (hbel.alloc hbel.size _).drew⟩
        all_goals first
          | (show (World.cell? (w'.alloc _) _ = _); rw [World.cell?_alloc_at _ _ _ _ rfl]; rfl)
          | (show (World.cell? (w'.alloc _) _ = _); rw [World.cell?_alloc_past _ _ _ hsz]; exact Hcell.out _ (by decide))
      go_region_held3 (fun wx => ((wx.cell? ⟨w.heap.size, 0, none⟩ = some (.int .u8 ((f 0 : Nat) : Int)) ∧ wx.cell? ⟨w.heap.size, 1, none⟩ = some (.int .u8 ((f 1 : Nat) : Int)) ∧ wx.cell? ⟨w.heap.size, 2, none⟩ = some (.int .u8 ((f 2 : Nat) : Int)) ∧ wx.cell? ⟨w.heap.size, 3, none⟩ = some (.int .u8 ((f 3 : Nat) : Int)) ∧ wx.cell? ⟨w.heap.size, 4, none⟩ = some (.int .u8 ((f 4 : Nat) : Int)) ∧ wx.cell? ⟨w.heap.size, 5, none⟩ = some (.int .u8 ((f 5 : Nat) : Int)) ∧ wx.cell? ⟨w.heap.size, 6, none⟩ = some (.int .u8 ((f 6 : Nat) : Int)) ∧ wx.cell? ⟨w.heap.size, 7, none⟩ = some (.int .u8 ((f 7 : Nat) : Int))) ∧ (wx.cell? ⟨w'.heap.size, 0, none⟩ = some (.int .u8 ((g 0 : Nat) : Int)) ∧ wx.cell? ⟨w'.heap.size, 1, none⟩ = some (.int .u8 ((g 1 : Nat) : Int)) ∧ wx.cell? ⟨w'.heap.size, 2, none⟩ = some (.int .u8 ((g 2 : Nat) : Int)) ∧ wx.cell? ⟨w'.heap.size, 3, none⟩ = some (.int .u8 ((g 3 : Nat) : Int)) ∧ wx.cell? ⟨w'.heap.size, 4, none⟩ = some (.int .u8 ((g 4 : Nat) : Int)) ∧ wx.cell? ⟨w'.heap.size, 5, none⟩ = some (.int .u8 ((g 5 : Nat) : Int)) ∧ wx.cell? ⟨w'.heap.size, 6, none⟩ = some (.int .u8 ((g 6 : Nat) : Int)) ∧ wx.cell? ⟨w'.heap.size, 7, none⟩ = some (.int .u8 ((g 7 : Nat) : Int)))) ∧ Below w.heap.size w wx) (first | exact hS2 _ rfl | exact kept16 (by assumption) hb)
        (first
          | (go_at_call_of 9 (f 0); rw [byteArr_lit f]; refine (load_nat f hf L _ HL).mono ?_; rintro e w1 ⟨rfl, hb⟩)
          | (go_at_call_of 9 (g 0); rw [byteArr_lit g]; refine (load_nat g hgb G _ HG).mono ?_; rintro e w1 ⟨rfl, hb⟩))
      rename_i hh2
      obtain ⟨hcells2, hbel2⟩ := hh2
      clear hcells2 hS2 hb Hcell
      go_wp2
      go_loopw [12] (fun i wr => ∃ n : Nat, n ≤ 8 ∧ i = .int .i64 n ∧ Below w.heap.size w wr) (fun i _ => 8 - (intOf i).toNat)
      case atStart => exact ⟨0, by omega, rfl, hbel2⟩
      case round =>
        obtain ⟨n, hn, rfl, hbr⟩ := hrel
        by_cases hlt : n < 8
        · have hn8 : (n : Int) < 8 := by omega
          have hP : (7 - (n : Int) + (K : Int)) % 8 = ((to8 K n : Nat) : Int) := by unfold to8; omega
          have hP8 := to8_lt K n
          have HBy : Hid (byteOf G (to8 K n) = byteOf L n) := HGf.out n hlt
          generalize to8 K n = P at *
          have hP0 : (P : Int) < 8 := by omega
          go_wp2
          go_region
          go_wp2_with fail
          refine (equal_calls _ _ _ (by omega) (by omega) (by omega)).mono ?_
          rintro e v1 ⟨rfl, hb1⟩
          rw [Int.toNat_natCast, Int.toNat_natCast]
          generalize hM1 : mask8 (isB C) L = M1
          have HM1 : Hid (mask8 (isB C) L = M1) := hM1
          clear hM1
          go_wp2_with fail
          refine (equal_calls _ _ _ (by omega) (by omega) (by omega)).mono ?_
          rintro e v2 ⟨rfl, hb2⟩
          rw [Int.toNat_natCast, Int.toNat_natCast]
          generalize hM2 : mask8 (isB C) G = M2
          have q1 : (bits BinOp.and IntKind.u8 (M1 : Int) (2 ^ n % 256) != 0) = (bits BinOp.and IntKind.u8 (M2 : Int) (2 ^ P % 256) != 0) := by
            rw [← HM1.out, ← hM2]; exact same_bit _ L G n P hlt hP8 HBy.out
          clear hM2
          go_wp2_with fail
          refine (below_calls _ _ _ (by omega) (by omega) (by omega)).mono ?_
          rintro e v3 ⟨rfl, hb3⟩
          rw [Int.toNat_natCast, Int.toNat_natCast]
          generalize hM1 : mask8 (belowB C) L = M3
          have HM3 : Hid (mask8 (belowB C) L = M3) := hM1
          clear hM1
          go_wp2_with fail
          refine (below_calls _ _ _ (by omega) (by omega) (by omega)).mono ?_
          rintro e v4 ⟨rfl, hb4⟩
          rw [Int.toNat_natCast, Int.toNat_natCast]
          generalize hM2 : mask8 (belowB C) G = M4
          have q3 : (bits BinOp.and IntKind.u8 (M3 : Int) (2 ^ n % 256) != 0) = (bits BinOp.and IntKind.u8 (M4 : Int) (2 ^ P % 256) != 0) := by
            rw [← HM3.out, ← hM2]; exact same_bit _ L G n P hlt hP8 HBy.out
          clear hM2
          go_wp2_with fail
          refine (less_calls _ _ _ (by omega) (by omega)).mono ?_
          rintro e v5 ⟨rfl, hb5⟩
          rw [Int.toNat_natCast]
          generalize hM1 : mask8 (lessB (IntKind.i8.wrap (C : Int))) L = M5
          have HM5 : Hid (mask8 (lessB (IntKind.i8.wrap (C : Int))) L = M5) := hM1
          clear hM1
          go_wp2_with fail
          refine (less_calls _ _ _ (by omega) (by omega)).mono ?_
          rintro e v6 ⟨rfl, hb6⟩
          rw [Int.toNat_natCast]
          generalize hM2 : mask8 (lessB (IntKind.i8.wrap (C : Int))) G = M6
          have q5 : (bits BinOp.and IntKind.u8 (M5 : Int) (2 ^ n % 256) != 0) = (bits BinOp.and IntKind.u8 (M6 : Int) (2 ^ P % 256) != 0) := by
            rw [← HM5.out, ← hM2]; exact same_bit _ L G n P hlt hP8 HBy.out
          clear hM2
          go_wp2
          go_roundw
          case rel =>
            have b1 := hbr.drew.trans (hb1.mono hbr.drew.size)
            have b2 := b1.trans (hb2.mono b1.size)
            have b3 := b2.trans (hb3.mono b2.size)
            have b4 := b3.trans (hb4.mono b3.size)
            have b5 := b4.trans (hb5.mono b4.size)
            exact ⟨n + 1, by omega, by go_num, b5.trans (hb6.mono b5.size)⟩
          case measure => simp [intOf]; omega
        · obtain ⟨S1, hS1⟩ : ∃ S1, sumTo L 8 = S1 := ⟨_, rfl⟩
          have HS1 : Hid (sumTo L 8 = S1) := hS1
          have HS2 : Hid (sumTo G 8 = S1) := HSum.out.trans hS1
          clear hS1
          go_wp2_with fail
          refine (sum_nat L S1 _ (by omega) HS1).mono ?_
          rintro e v1 ⟨rfl, hb1⟩
          go_wp2_with fail
          refine (sum_nat G S1 _ (by omega) HS2).mono ?_
          rintro e v2 ⟨rfl, hb2⟩
          go_wp2
          go_ret
          have b1 := hbr.trans (hb1.mono hbr.size)
          exact ⟨rfl, b1.trans (hb2.mono b1.size)⟩

theorem arr_of_list (zs : List Int) (hl : zs.length = 8) (hw : ∀ z ∈ zs, (Lit.int .u8 z).wf = true) :
    ∃ f : Nat → Nat, (∀ i, f i < 256) ∧ (zs.map (Value.int .u8)).toArray = byteArr f := by
  have hb : ∀ i, (zs.getD i 0).toNat < 256 ∧ 0 ≤ zs.getD i 0 := by
    intro i
    by_cases h : i < zs.length
    · have h1 := wf_u8 (hw zs[i] (List.getElem_mem h))
      simp only [List.getD, List.getElem?_eq_getElem h, Option.getD_some]
      omega
    · simp only [List.getD, List.getElem?_eq_none (by omega : zs.length ≤ i), Option.getD_none]; omega
  refine ⟨fun i => (zs.getD i 0).toNat, fun i => (hb i).1, ?_⟩
  apply Array.ext
  · simp [byteArr, hl]
  · intro i h1 h2
    have h3 : i < zs.length := by simpa using h1
    have h4 := (hb i).2
    simp only [List.getD, List.getElem?_eq_getElem h3, Option.getD_some] at h4
    simp only [byteArr, List.getElem_toArray, List.getElem_map, Array.getElem_ofFn, List.getD, List.getElem?_eq_getElem h3, Option.getD_some]
    rw [Int.toNat_of_nonneg h4]

theorem lanesThere_walk (zs : List Int) (hl : zs.length = 8) (hw : ∀ z ∈ zs, (Lit.int .u8 z).wf = true) (a : Int) (ha : (Lit.int .u64 a).wf = true) (k : Int) (hk : (Lit.int .i64 k).wf = true) (w : World) :
    Calls Try.prog 8 #[.agg (zs.map (Value.int .u8)).toArray, .int .u64 a, .int .i64 k] w fun e w' => e = .returned (.bool true) ∧ Below w.heap.size w w' := by
  obtain ⟨f, hf, e⟩ := arr_of_list zs hl hw
  obtain ⟨a0, a1⟩ := wf_u64 ha
  obtain ⟨k0, k1⟩ := wf_i64 hk
  obtain ⟨W, rfl⟩ := Int.eq_ofNat_of_zero_le a0
  rw [e]
  have hW : W < 18446744073709551616 := by omega
  exact there_nat f hf W (loadTo f 8) (W % 256) k k0 k1 hW (loadTo_lt f hf 8) rfl (byteArr_back f hf) (load_store W hW) (by omega) (by omega) w
end Go.Proofs.Ytnilalgoehphaaa
