/-
  What the law's four and spelled answer.
-/
import Derived.Test.YtlcihopklnnhdaaTxSpell
import Derived.Laws.Concat
import Derived.Deep.DeepCutAuto
namespace Go.Proofs.Ytlcihopklnnhdaa
open Go.RowKit Go.Shelf

def digS (g : Bool) : ByteArray := if g = true then ⟨#[48, 49, 50, 51, 52, 53, 54, 55, 56, 57, 65, 66, 67, 68, 69, 70]⟩ else ⟨#[48, 49, 50, 51, 52, 53, 54, 55, 56, 57, 97, 98, 99, 100, 101, 102]⟩
theorem dig_cut : ∀ (d : Fin 16) (g : Bool), (digS g).extract d.val (d.val + 1) = mkS [digC d.val g] := by decide +kernel
theorem dig_at (g : Bool) {d : Nat} (h : d < 16) : (digS g).extract d (d + 1) = mkS [digC d g] := dig_cut ⟨d, h⟩ g
theorem and15 (n : Nat) (h : n < 65536) : bits BinOp.and IntKind.i64 (n : Int) 15 = ((n % 16 : Nat) : Int) := by
  have h1 : (BitVec.ofInt 64 (n : Int)).toNat = n := by
    rw [BitVec.ofInt_natCast, BitVec.toNat_ofNat]; exact Nat.mod_eq_of_lt (by omega)
  have h2 : (BitVec.ofInt 64 15).toNat = 15 := by decide
  show IntKind.i64.wrap ((BitVec.ofInt 64 (n : Int) &&& BitVec.ofInt 64 15).toNat : Int) = _
  rw [BitVec.toNat_and, h1, h2, show (15 : Nat) = 2 ^ 4 - 1 from rfl, Nat.and_two_pow_sub_one_eq_mod]
  simp [IntKind.wrap, IntKind.signed, IntKind.bits]
  omega
theorem mkS_snoc (a : List Nat) (b : Nat) : mkS a ++ mkS [b] = mkS (a ++ [b]) := (mkS_app a [b]).symm


set_option maxRecDepth 10000 in
set_option maxHeartbeats 1000000 in
theorem four15_true (n : Nat) (hn : n < 65536) (w : World) :
    Calls Try.prog 39 #[.int .i64 (n : Int), .bool true] w fun e w' => e = .returned (.string (mkS (fourL n true))) ∧ Below w.heap.size w w' := by
  have hni : (n : Int) < 65536 := by omega
  obtain ⟨R, hR⟩ : ∃ R, Hid (mkS (fourL n true) = R) := ⟨_, rfl⟩
  have hdg : digS true = ⟨#[48, 49, 50, 51, 52, 53, 54, 55, 56, 57, 65, 66, 67, 68, 69, 70]⟩ := rfl
  have hcut := hid (fun d (h : d < 16) => dig_at true (d := d) h)
  have hds : (digS true).size = 16 := rfl
  generalize digS true = dg at hdg hcut hds
  rw [hR.out]
  go_enter Try.func39, Try.ntmps39
  have hdg' := hid hdg
  clear hdg
  go_wp2
  rw [← hdg'.out]
  clear hdg'
  go_loopw [6, 7, 8] (fun ss ii _ wr => ∃ j : Nat, j ≤ 4 ∧ ii = .int .i64 (12 - 4 * (j : Int)) ∧ ss = .string (mkS ((fourL n true).take (2 + j))) ∧ wr = w) (fun _ ii _ _ => (intOf ii + 4).toNat)
  case atStart => exact ⟨0, by decide, rfl, rfl, rfl⟩
  case round =>
    obtain ⟨j, hj, rfl, rfl, rfl⟩ := hrel
    obtain rfl | rfl | rfl | rfl | rfl : j = 0 ∨ j = 1 ∨ j = 2 ∨ j = 3 ∨ j = 4 := by omega
    · rw [show (12 : Int) - 4 * ((0 : Nat) : Int) = 12 from rfl]
      obtain ⟨S, hS⟩ : ∃ S, Hid (mkS ((fourL n true).take (2 + 0)) = S) := ⟨_, rfl⟩
      have hSs : S.size ≤ 6 := by rw [← hS.out, mkS_size, List.length_take]; simp [fourL]
      rw [hS.out]
      obtain ⟨D, hD⟩ : ∃ D, Hid (n / 4096 = D) := ⟨_, rfl⟩
      have hD16 : D < 16 := by rw [← hD.out]; omega
      have hDi : (D : Int) < 16 := by omega
      have hband : bits BinOp.and IntKind.i64 ((n : Int) / 4096) 15 = (D : Int) := by
        have h := and15 (n / 4096) (by omega)
        rw [← hD.out]
        rw [show (n / 4096) % 16 = n / 4096 from Nat.mod_eq_of_lt (by omega)] at h
        exact h
      obtain ⟨X, hX⟩ : ∃ X, Hid (dg.extract D (D + 1) = X) := ⟨_, rfl⟩
      have hX2 := hX.out
      have hXv : Hid (X = mkS [digC D true]) := hid (by rw [← hX.out]; exact hcut.out D hD16)
      have hXs : X.size = 1 := by rw [hXv.out, mkS_size]; rfl
      clear hcut
      go_wp2
      go_roundw
      case rel => exact ⟨1, by decide, rfl, by
        rw [hXv.out, ← hS.out, mkS_snoc, ← hD.out]
        rfl, trivial⟩
      case measure => simp [intOf]
    · rw [show (12 : Int) - 4 * ((1 : Nat) : Int) = 8 from rfl]
      obtain ⟨S, hS⟩ : ∃ S, Hid (mkS ((fourL n true).take (2 + 1)) = S) := ⟨_, rfl⟩
      have hSs : S.size ≤ 6 := by rw [← hS.out, mkS_size, List.length_take]; simp [fourL]
      rw [hS.out]
      obtain ⟨D, hD⟩ : ∃ D, Hid (n / 256 % 16 = D) := ⟨_, rfl⟩
      have hD16 : D < 16 := by rw [← hD.out]; omega
      have hDi : (D : Int) < 16 := by omega
      have hband : bits BinOp.and IntKind.i64 ((n : Int) / 256) 15 = (D : Int) := by
        have h := and15 (n / 256) (by omega)
        rw [← hD.out]
        skip
        exact h
      obtain ⟨X, hX⟩ : ∃ X, Hid (dg.extract D (D + 1) = X) := ⟨_, rfl⟩
      have hX2 := hX.out
      have hXv : Hid (X = mkS [digC D true]) := hid (by rw [← hX.out]; exact hcut.out D hD16)
      have hXs : X.size = 1 := by rw [hXv.out, mkS_size]; rfl
      clear hcut
      go_wp2
      go_roundw
      case rel => exact ⟨2, by decide, rfl, by
        rw [hXv.out, ← hS.out, mkS_snoc, ← hD.out]
        rfl, trivial⟩
      case measure => simp [intOf]
    · rw [show (12 : Int) - 4 * ((2 : Nat) : Int) = 4 from rfl]
      obtain ⟨S, hS⟩ : ∃ S, Hid (mkS ((fourL n true).take (2 + 2)) = S) := ⟨_, rfl⟩
      have hSs : S.size ≤ 6 := by rw [← hS.out, mkS_size, List.length_take]; simp [fourL]
      rw [hS.out]
      obtain ⟨D, hD⟩ : ∃ D, Hid (n / 16 % 16 = D) := ⟨_, rfl⟩
      have hD16 : D < 16 := by rw [← hD.out]; omega
      have hDi : (D : Int) < 16 := by omega
      have hband : bits BinOp.and IntKind.i64 ((n : Int) / 16) 15 = (D : Int) := by
        have h := and15 (n / 16) (by omega)
        rw [← hD.out]
        skip
        exact h
      obtain ⟨X, hX⟩ : ∃ X, Hid (dg.extract D (D + 1) = X) := ⟨_, rfl⟩
      have hX2 := hX.out
      have hXv : Hid (X = mkS [digC D true]) := hid (by rw [← hX.out]; exact hcut.out D hD16)
      have hXs : X.size = 1 := by rw [hXv.out, mkS_size]; rfl
      clear hcut
      go_wp2
      go_roundw
      case rel => exact ⟨3, by decide, rfl, by
        rw [hXv.out, ← hS.out, mkS_snoc, ← hD.out]
        rfl, trivial⟩
      case measure => simp [intOf]
    · rw [show (12 : Int) - 4 * ((3 : Nat) : Int) = 0 from rfl]
      obtain ⟨S, hS⟩ : ∃ S, Hid (mkS ((fourL n true).take (2 + 3)) = S) := ⟨_, rfl⟩
      have hSs : S.size ≤ 6 := by rw [← hS.out, mkS_size, List.length_take]; simp [fourL]
      rw [hS.out]
      obtain ⟨D, hD⟩ : ∃ D, Hid (n % 16 = D) := ⟨_, rfl⟩
      have hD16 : D < 16 := by rw [← hD.out]; omega
      have hDi : (D : Int) < 16 := by omega
      have hband : bits BinOp.and IntKind.i64 ((n : Int)) 15 = (D : Int) := by
        have h := and15 (n) (by omega)
        rw [← hD.out]
        skip
        exact h
      obtain ⟨X, hX⟩ : ∃ X, Hid (dg.extract D (D + 1) = X) := ⟨_, rfl⟩
      have hX2 := hX.out
      have hXv : Hid (X = mkS [digC D true]) := hid (by rw [← hX.out]; exact hcut.out D hD16)
      have hXs : X.size = 1 := by rw [hXv.out, mkS_size]; rfl
      clear hcut
      go_wp2
      go_roundw
      case rel => exact ⟨4, by decide, rfl, by
        rw [hXv.out, ← hS.out, mkS_snoc, ← hD.out]
        rfl, trivial⟩
      case measure => simp [intOf]
    · rw [show (12 : Int) - 4 * ((4 : Nat) : Int) = -4 from rfl, show mkS ((fourL n true).take (2 + 4)) = R from hR.out]
      go_wp2
      go_ret
      exact ⟨rfl, by repeat (first | with_reducible exact Below.refl _ _ | with_reducible refine Below.setCell ?_ (by first | (simp; done) | (simp; omega)) _ | with_reducible refine below_drewN ?_ _ | with_reducible refine Below.alloc ?_ (by first | (simp; done) | (simp; omega)) _ | with_reducible refine Below.drew ?_)⟩

set_option maxRecDepth 10000 in
set_option maxHeartbeats 1000000 in
theorem four15_false (n : Nat) (hn : n < 65536) (w : World) :
    Calls Try.prog 39 #[.int .i64 (n : Int), .bool false] w fun e w' => e = .returned (.string (mkS (fourL n false))) ∧ Below w.heap.size w w' := by
  have hni : (n : Int) < 65536 := by omega
  obtain ⟨R, hR⟩ : ∃ R, Hid (mkS (fourL n false) = R) := ⟨_, rfl⟩
  have hdg : digS false = ⟨#[48, 49, 50, 51, 52, 53, 54, 55, 56, 57, 97, 98, 99, 100, 101, 102]⟩ := rfl
  have hcut := hid (fun d (h : d < 16) => dig_at false (d := d) h)
  have hds : (digS false).size = 16 := rfl
  generalize digS false = dg at hdg hcut hds
  rw [hR.out]
  go_enter Try.func39, Try.ntmps39
  have hdg' := hid hdg
  clear hdg
  go_wp2
  rw [← hdg'.out]
  clear hdg'
  go_loopw [6, 7, 8] (fun ss ii _ wr => ∃ j : Nat, j ≤ 4 ∧ ii = .int .i64 (12 - 4 * (j : Int)) ∧ ss = .string (mkS ((fourL n false).take (2 + j))) ∧ wr = w) (fun _ ii _ _ => (intOf ii + 4).toNat)
  case atStart => exact ⟨0, by decide, rfl, rfl, rfl⟩
  case round =>
    obtain ⟨j, hj, rfl, rfl, rfl⟩ := hrel
    obtain rfl | rfl | rfl | rfl | rfl : j = 0 ∨ j = 1 ∨ j = 2 ∨ j = 3 ∨ j = 4 := by omega
    · rw [show (12 : Int) - 4 * ((0 : Nat) : Int) = 12 from rfl]
      obtain ⟨S, hS⟩ : ∃ S, Hid (mkS ((fourL n false).take (2 + 0)) = S) := ⟨_, rfl⟩
      have hSs : S.size ≤ 6 := by rw [← hS.out, mkS_size, List.length_take]; simp [fourL]
      rw [hS.out]
      obtain ⟨D, hD⟩ : ∃ D, Hid (n / 4096 = D) := ⟨_, rfl⟩
      have hD16 : D < 16 := by rw [← hD.out]; omega
      have hDi : (D : Int) < 16 := by omega
      have hband : bits BinOp.and IntKind.i64 ((n : Int) / 4096) 15 = (D : Int) := by
        have h := and15 (n / 4096) (by omega)
        rw [← hD.out]
        rw [show (n / 4096) % 16 = n / 4096 from Nat.mod_eq_of_lt (by omega)] at h
        exact h
      obtain ⟨X, hX⟩ : ∃ X, Hid (dg.extract D (D + 1) = X) := ⟨_, rfl⟩
      have hX2 := hX.out
      have hXv : Hid (X = mkS [digC D false]) := hid (by rw [← hX.out]; exact hcut.out D hD16)
      have hXs : X.size = 1 := by rw [hXv.out, mkS_size]; rfl
      clear hcut
      go_wp2
      go_roundw
      case rel => exact ⟨1, by decide, rfl, by
        rw [hXv.out, ← hS.out, mkS_snoc, ← hD.out]
        rfl, trivial⟩
      case measure => simp [intOf]
    · rw [show (12 : Int) - 4 * ((1 : Nat) : Int) = 8 from rfl]
      obtain ⟨S, hS⟩ : ∃ S, Hid (mkS ((fourL n false).take (2 + 1)) = S) := ⟨_, rfl⟩
      have hSs : S.size ≤ 6 := by rw [← hS.out, mkS_size, List.length_take]; simp [fourL]
      rw [hS.out]
      obtain ⟨D, hD⟩ : ∃ D, Hid (n / 256 % 16 = D) := ⟨_, rfl⟩
      have hD16 : D < 16 := by rw [← hD.out]; omega
      have hDi : (D : Int) < 16 := by omega
      have hband : bits BinOp.and IntKind.i64 ((n : Int) / 256) 15 = (D : Int) := by
        have h := and15 (n / 256) (by omega)
        rw [← hD.out]
        skip
        exact h
      obtain ⟨X, hX⟩ : ∃ X, Hid (dg.extract D (D + 1) = X) := ⟨_, rfl⟩
      have hX2 := hX.out
      have hXv : Hid (X = mkS [digC D false]) := hid (by rw [← hX.out]; exact hcut.out D hD16)
      have hXs : X.size = 1 := by rw [hXv.out, mkS_size]; rfl
      clear hcut
      go_wp2
      go_roundw
      case rel => exact ⟨2, by decide, rfl, by
        rw [hXv.out, ← hS.out, mkS_snoc, ← hD.out]
        rfl, trivial⟩
      case measure => simp [intOf]
    · rw [show (12 : Int) - 4 * ((2 : Nat) : Int) = 4 from rfl]
      obtain ⟨S, hS⟩ : ∃ S, Hid (mkS ((fourL n false).take (2 + 2)) = S) := ⟨_, rfl⟩
      have hSs : S.size ≤ 6 := by rw [← hS.out, mkS_size, List.length_take]; simp [fourL]
      rw [hS.out]
      obtain ⟨D, hD⟩ : ∃ D, Hid (n / 16 % 16 = D) := ⟨_, rfl⟩
      have hD16 : D < 16 := by rw [← hD.out]; omega
      have hDi : (D : Int) < 16 := by omega
      have hband : bits BinOp.and IntKind.i64 ((n : Int) / 16) 15 = (D : Int) := by
        have h := and15 (n / 16) (by omega)
        rw [← hD.out]
        skip
        exact h
      obtain ⟨X, hX⟩ : ∃ X, Hid (dg.extract D (D + 1) = X) := ⟨_, rfl⟩
      have hX2 := hX.out
      have hXv : Hid (X = mkS [digC D false]) := hid (by rw [← hX.out]; exact hcut.out D hD16)
      have hXs : X.size = 1 := by rw [hXv.out, mkS_size]; rfl
      clear hcut
      go_wp2
      go_roundw
      case rel => exact ⟨3, by decide, rfl, by
        rw [hXv.out, ← hS.out, mkS_snoc, ← hD.out]
        rfl, trivial⟩
      case measure => simp [intOf]
    · rw [show (12 : Int) - 4 * ((3 : Nat) : Int) = 0 from rfl]
      obtain ⟨S, hS⟩ : ∃ S, Hid (mkS ((fourL n false).take (2 + 3)) = S) := ⟨_, rfl⟩
      have hSs : S.size ≤ 6 := by rw [← hS.out, mkS_size, List.length_take]; simp [fourL]
      rw [hS.out]
      obtain ⟨D, hD⟩ : ∃ D, Hid (n % 16 = D) := ⟨_, rfl⟩
      have hD16 : D < 16 := by rw [← hD.out]; omega
      have hDi : (D : Int) < 16 := by omega
      have hband : bits BinOp.and IntKind.i64 ((n : Int)) 15 = (D : Int) := by
        have h := and15 (n) (by omega)
        rw [← hD.out]
        skip
        exact h
      obtain ⟨X, hX⟩ : ∃ X, Hid (dg.extract D (D + 1) = X) := ⟨_, rfl⟩
      have hX2 := hX.out
      have hXv : Hid (X = mkS [digC D false]) := hid (by rw [← hX.out]; exact hcut.out D hD16)
      have hXs : X.size = 1 := by rw [hXv.out, mkS_size]; rfl
      clear hcut
      go_wp2
      go_roundw
      case rel => exact ⟨4, by decide, rfl, by
        rw [hXv.out, ← hS.out, mkS_snoc, ← hD.out]
        rfl, trivial⟩
      case measure => simp [intOf]
    · rw [show (12 : Int) - 4 * ((4 : Nat) : Int) = -4 from rfl, show mkS ((fourL n false).take (2 + 4)) = R from hR.out]
      go_wp2
      go_ret
      exact ⟨rfl, by repeat (first | with_reducible exact Below.refl _ _ | with_reducible refine Below.setCell ?_ (by first | (simp; done) | (simp; omega)) _ | with_reducible refine below_drewN ?_ _ | with_reducible refine Below.alloc ?_ (by first | (simp; done) | (simp; omega)) _ | with_reducible refine Below.drew ?_)⟩

theorem four_byts {c : Nat} (h : sizeN c ≠ 0) (hc : c < 65536) (g : Bool) : PieceOk c (byts (mkS (fourL c g))) := by
  rw [byts_mkS (fun x hx => by have := fourL_lt hc g x hx; omega)]
  exact piece_four h hc g
theorem pair_byts {c : Nat} (h : sizeN c ≠ 0) (hc : 65536 ≤ c) (g g' : Bool) : PieceOk c (byts (mkS (fourL (55296 + (c - 65536) / 1024) g) ++ mkS (fourL (56320 + (c - 65536) % 1024) g'))) := by
  have hv := size_val h
  rw [byts_append, byts_mkS (fun x hx => by have := fourL_lt (n := 55296 + (c - 65536) / 1024) (by omega) g x hx; omega), byts_mkS (fun x hx => by have := fourL_lt (n := 56320 + (c - 65536) % 1024) (by omega) g' x hx; omega)]
  exact piece_pair h hc g g'
theorem itself_byts {c : Nat} (h : sizeN c ≠ 0) (h1 : 32 ≤ c) (h2 : c ≠ 34) (h3 : c ≠ 92) : PieceOk c (byts (Utf8.encode (c : Int))) := by
  rw [enc_char h, byts_mkS (charL_lt (by have := size_val h; omega))]
  exact piece_itself h h1 h2 h3
theorem short_byts {c m : Nat} (h : (c = 34 ∧ m = 34) ∨ (c = 92 ∧ m = 92) ∨ (c = 47 ∧ m = 47) ∨ (c = 8 ∧ m = 98) ∨ (c = 12 ∧ m = 102) ∨ (c = 10 ∧ m = 110) ∨ (c = 13 ∧ m = 114) ∨ (c = 9 ∧ m = 116)) {t : ByteArray} (ht : byts t = [92, m]) : PieceOk c (byts t) := by
  rw [ht]
  exact piece_short h


set_option maxRecDepth 10000 in
set_option maxHeartbeats 4000000 in
theorem spelled_0 (c : Nat) (hc : sizeN c ≠ 0) (W : Nat) (hW : W < 256) (hm : (W : Int) % 4 = 0) (w : World) :
    Calls Try.prog 20 #[.int .i32 (c : Int), .int .i64 (W : Int)] w fun e w' => (∃ t, e = .returned (.string t) ∧ PieceOk c (byts t)) ∧ Below w.heap.size w w' := by
  have hc' := hid hc
  have hv := size_val hc
  have hv1 : (c : Int) ≤ 1114111 := by omega
  have hWi : (W : Int) < 256 := by omega
  clear hc
  by_cases k34 : c = 34
  · subst k34
    go_enter Try.func20, Try.ntmps20
    go_wp2
    go_ret
    exact ⟨⟨_, rfl, short_byts (c := 34) (m := 34) (by decide) (by decide)⟩, by repeat (first | with_reducible exact Below.refl _ _ | with_reducible refine Below.setCell ?_ (by first | (simp; done) | (simp; omega)) _ | with_reducible refine below_drewN ?_ _ | with_reducible refine Below.alloc ?_ (by first | (simp; done) | (simp; omega)) _ | with_reducible refine Below.drew ?_)⟩
  have m34 : ((c : Int) == 34) = false := by simp; omega
  by_cases k92 : c = 92
  · subst k92
    go_enter Try.func20, Try.ntmps20
    go_wp2
    go_ret
    exact ⟨⟨_, rfl, short_byts (c := 92) (m := 92) (by decide) (by decide)⟩, by repeat (first | with_reducible exact Below.refl _ _ | with_reducible refine Below.setCell ?_ (by first | (simp; done) | (simp; omega)) _ | with_reducible refine below_drewN ?_ _ | with_reducible refine Below.alloc ?_ (by first | (simp; done) | (simp; omega)) _ | with_reducible refine Below.drew ?_)⟩
  have m92 : ((c : Int) == 92) = false := by simp; omega
  by_cases k47 : c = 47
  · subst k47
    go_enter Try.func20, Try.ntmps20
    go_wp2
    go_ret
    exact ⟨⟨_, rfl, itself_byts (c := 47) (by decide) (by decide) (by decide) (by decide)⟩, by repeat (first | with_reducible exact Below.refl _ _ | with_reducible refine Below.setCell ?_ (by first | (simp; done) | (simp; omega)) _ | with_reducible refine below_drewN ?_ _ | with_reducible refine Below.alloc ?_ (by first | (simp; done) | (simp; omega)) _ | with_reducible refine Below.drew ?_)⟩
  have m47 : ((c : Int) == 47) = false := by simp; omega
  by_cases k8 : c = 8
  · subst k8
    go_enter Try.func20, Try.ntmps20
    go_wp2
    go_ret
    exact ⟨⟨_, rfl, short_byts (c := 8) (m := 98) (by decide) (by decide)⟩, by repeat (first | with_reducible exact Below.refl _ _ | with_reducible refine Below.setCell ?_ (by first | (simp; done) | (simp; omega)) _ | with_reducible refine below_drewN ?_ _ | with_reducible refine Below.alloc ?_ (by first | (simp; done) | (simp; omega)) _ | with_reducible refine Below.drew ?_)⟩
  have m8 : ((c : Int) == 8) = false := by simp; omega
  by_cases k12 : c = 12
  · subst k12
    go_enter Try.func20, Try.ntmps20
    go_wp2
    go_ret
    exact ⟨⟨_, rfl, short_byts (c := 12) (m := 102) (by decide) (by decide)⟩, by repeat (first | with_reducible exact Below.refl _ _ | with_reducible refine Below.setCell ?_ (by first | (simp; done) | (simp; omega)) _ | with_reducible refine below_drewN ?_ _ | with_reducible refine Below.alloc ?_ (by first | (simp; done) | (simp; omega)) _ | with_reducible refine Below.drew ?_)⟩
  have m12 : ((c : Int) == 12) = false := by simp; omega
  by_cases k10 : c = 10
  · subst k10
    go_enter Try.func20, Try.ntmps20
    go_wp2
    go_ret
    exact ⟨⟨_, rfl, short_byts (c := 10) (m := 110) (by decide) (by decide)⟩, by repeat (first | with_reducible exact Below.refl _ _ | with_reducible refine Below.setCell ?_ (by first | (simp; done) | (simp; omega)) _ | with_reducible refine below_drewN ?_ _ | with_reducible refine Below.alloc ?_ (by first | (simp; done) | (simp; omega)) _ | with_reducible refine Below.drew ?_)⟩
  have m10 : ((c : Int) == 10) = false := by simp; omega
  by_cases k13 : c = 13
  · subst k13
    go_enter Try.func20, Try.ntmps20
    go_wp2
    go_ret
    exact ⟨⟨_, rfl, short_byts (c := 13) (m := 114) (by decide) (by decide)⟩, by repeat (first | with_reducible exact Below.refl _ _ | with_reducible refine Below.setCell ?_ (by first | (simp; done) | (simp; omega)) _ | with_reducible refine below_drewN ?_ _ | with_reducible refine Below.alloc ?_ (by first | (simp; done) | (simp; omega)) _ | with_reducible refine Below.drew ?_)⟩
  have m13 : ((c : Int) == 13) = false := by simp; omega
  by_cases k9 : c = 9
  · subst k9
    go_enter Try.func20, Try.ntmps20
    go_wp2
    go_ret
    exact ⟨⟨_, rfl, short_byts (c := 9) (m := 116) (by decide) (by decide)⟩, by repeat (first | with_reducible exact Below.refl _ _ | with_reducible refine Below.setCell ?_ (by first | (simp; done) | (simp; omega)) _ | with_reducible refine below_drewN ?_ _ | with_reducible refine Below.alloc ?_ (by first | (simp; done) | (simp; omega)) _ | with_reducible refine Below.drew ?_)⟩
  have m9 : ((c : Int) == 9) = false := by simp; omega
  have n34 : ((c : Int) != 34) = true := by simp; omega
  have n92 : ((c : Int) != 92) = true := by simp; omega
  by_cases kb : c < 65536
  · have kbi : (c : Int) < 65536 := by omega
    by_cases k32 : 32 ≤ c
    · have k32i : (32 : Int) ≤ (c : Int) := by omega
      obtain ⟨T, hT⟩ : ∃ T, Utf8.encode (c : Int) = T := ⟨_, rfl⟩
      have hT' := hid hT
      go_enter Try.func20, Try.ntmps20
      go_wp2
      go_ret
      exact ⟨⟨_, rfl, by rw [← hT'.out]; exact itself_byts hc'.out k32 k34 k92⟩, by repeat (first | with_reducible exact Below.refl _ _ | with_reducible refine Below.setCell ?_ (by first | (simp; done) | (simp; omega)) _ | with_reducible refine below_drewN ?_ _ | with_reducible refine Below.alloc ?_ (by first | (simp; done) | (simp; omega)) _ | with_reducible refine Below.drew ?_)⟩
    · have k32i : ¬ (32 : Int) ≤ (c : Int) := by omega
      go_enter Try.func20, Try.ntmps20
      go_wp2_with fail
      refine (four15_false c kb _).mono ?_
      rintro e w1 ⟨rfl, hb1⟩
      have hb1' := hid hb1
      clear hb1
      obtain ⟨R, hR⟩ : ∃ R, Hid (mkS (fourL c false) = R) := ⟨_, rfl⟩
      rw [hR.out]
      go_wp2
      go_ret
      exact ⟨⟨_, rfl, by rw [← hR.out]; exact four_byts hc'.out kb false⟩, hb1'.out⟩
  · have k32i : (32 : Int) ≤ (c : Int) := by omega
    have kbi : ¬ (c : Int) < 65536 := by omega
    obtain ⟨T, hT⟩ : ∃ T, Utf8.encode (c : Int) = T := ⟨_, rfl⟩
    have hT' := hid hT
    go_enter Try.func20, Try.ntmps20
    go_wp2
    go_ret
    exact ⟨⟨_, rfl, by rw [← hT'.out]; exact itself_byts hc'.out (by omega) k34 k92⟩, by repeat (first | with_reducible exact Below.refl _ _ | with_reducible refine Below.setCell ?_ (by first | (simp; done) | (simp; omega)) _ | with_reducible refine below_drewN ?_ _ | with_reducible refine Below.alloc ?_ (by first | (simp; done) | (simp; omega)) _ | with_reducible refine Below.drew ?_)⟩

set_option maxRecDepth 10000 in
set_option maxHeartbeats 4000000 in
theorem spelled_1 (c : Nat) (hc : sizeN c ≠ 0) (W : Nat) (hW : W < 256) (hm : (W : Int) % 4 = 1) (w : World) :
    Calls Try.prog 20 #[.int .i32 (c : Int), .int .i64 (W : Int)] w fun e w' => (∃ t, e = .returned (.string t) ∧ PieceOk c (byts t)) ∧ Below w.heap.size w w' := by
  have hc' := hid hc
  have hv := size_val hc
  have hv1 : (c : Int) ≤ 1114111 := by omega
  have hWi : (W : Int) < 256 := by omega
  clear hc
  by_cases k34 : c = 34
  · subst k34
    go_enter Try.func20, Try.ntmps20
    go_wp2_with fail
    refine (four15_false 34 (by decide) _).mono ?_
    rintro e w1 ⟨rfl, hb1⟩
    have hb1' := hid hb1
    clear hb1
    obtain ⟨R, hR⟩ : ∃ R, Hid (mkS (fourL 34 false) = R) := ⟨_, rfl⟩
    rw [hR.out]
    go_wp2
    go_ret
    exact ⟨⟨_, rfl, by rw [← hR.out]; exact four_byts (by decide) (by decide) false⟩, hb1'.out⟩
  have m34 : ((c : Int) == 34) = false := by simp; omega
  by_cases k92 : c = 92
  · subst k92
    go_enter Try.func20, Try.ntmps20
    go_wp2_with fail
    refine (four15_false 92 (by decide) _).mono ?_
    rintro e w1 ⟨rfl, hb1⟩
    have hb1' := hid hb1
    clear hb1
    obtain ⟨R, hR⟩ : ∃ R, Hid (mkS (fourL 92 false) = R) := ⟨_, rfl⟩
    rw [hR.out]
    go_wp2
    go_ret
    exact ⟨⟨_, rfl, by rw [← hR.out]; exact four_byts (by decide) (by decide) false⟩, hb1'.out⟩
  have m92 : ((c : Int) == 92) = false := by simp; omega
  by_cases k47 : c = 47
  · subst k47
    go_enter Try.func20, Try.ntmps20
    go_wp2_with fail
    refine (four15_false 47 (by decide) _).mono ?_
    rintro e w1 ⟨rfl, hb1⟩
    have hb1' := hid hb1
    clear hb1
    obtain ⟨R, hR⟩ : ∃ R, Hid (mkS (fourL 47 false) = R) := ⟨_, rfl⟩
    rw [hR.out]
    go_wp2
    go_ret
    exact ⟨⟨_, rfl, by rw [← hR.out]; exact four_byts (by decide) (by decide) false⟩, hb1'.out⟩
  have m47 : ((c : Int) == 47) = false := by simp; omega
  by_cases k8 : c = 8
  · subst k8
    go_enter Try.func20, Try.ntmps20
    go_wp2_with fail
    refine (four15_false 8 (by decide) _).mono ?_
    rintro e w1 ⟨rfl, hb1⟩
    have hb1' := hid hb1
    clear hb1
    obtain ⟨R, hR⟩ : ∃ R, Hid (mkS (fourL 8 false) = R) := ⟨_, rfl⟩
    rw [hR.out]
    go_wp2
    go_ret
    exact ⟨⟨_, rfl, by rw [← hR.out]; exact four_byts (by decide) (by decide) false⟩, hb1'.out⟩
  have m8 : ((c : Int) == 8) = false := by simp; omega
  by_cases k12 : c = 12
  · subst k12
    go_enter Try.func20, Try.ntmps20
    go_wp2_with fail
    refine (four15_false 12 (by decide) _).mono ?_
    rintro e w1 ⟨rfl, hb1⟩
    have hb1' := hid hb1
    clear hb1
    obtain ⟨R, hR⟩ : ∃ R, Hid (mkS (fourL 12 false) = R) := ⟨_, rfl⟩
    rw [hR.out]
    go_wp2
    go_ret
    exact ⟨⟨_, rfl, by rw [← hR.out]; exact four_byts (by decide) (by decide) false⟩, hb1'.out⟩
  have m12 : ((c : Int) == 12) = false := by simp; omega
  by_cases k10 : c = 10
  · subst k10
    go_enter Try.func20, Try.ntmps20
    go_wp2_with fail
    refine (four15_false 10 (by decide) _).mono ?_
    rintro e w1 ⟨rfl, hb1⟩
    have hb1' := hid hb1
    clear hb1
    obtain ⟨R, hR⟩ : ∃ R, Hid (mkS (fourL 10 false) = R) := ⟨_, rfl⟩
    rw [hR.out]
    go_wp2
    go_ret
    exact ⟨⟨_, rfl, by rw [← hR.out]; exact four_byts (by decide) (by decide) false⟩, hb1'.out⟩
  have m10 : ((c : Int) == 10) = false := by simp; omega
  by_cases k13 : c = 13
  · subst k13
    go_enter Try.func20, Try.ntmps20
    go_wp2_with fail
    refine (four15_false 13 (by decide) _).mono ?_
    rintro e w1 ⟨rfl, hb1⟩
    have hb1' := hid hb1
    clear hb1
    obtain ⟨R, hR⟩ : ∃ R, Hid (mkS (fourL 13 false) = R) := ⟨_, rfl⟩
    rw [hR.out]
    go_wp2
    go_ret
    exact ⟨⟨_, rfl, by rw [← hR.out]; exact four_byts (by decide) (by decide) false⟩, hb1'.out⟩
  have m13 : ((c : Int) == 13) = false := by simp; omega
  by_cases k9 : c = 9
  · subst k9
    go_enter Try.func20, Try.ntmps20
    go_wp2_with fail
    refine (four15_false 9 (by decide) _).mono ?_
    rintro e w1 ⟨rfl, hb1⟩
    have hb1' := hid hb1
    clear hb1
    obtain ⟨R, hR⟩ : ∃ R, Hid (mkS (fourL 9 false) = R) := ⟨_, rfl⟩
    rw [hR.out]
    go_wp2
    go_ret
    exact ⟨⟨_, rfl, by rw [← hR.out]; exact four_byts (by decide) (by decide) false⟩, hb1'.out⟩
  have m9 : ((c : Int) == 9) = false := by simp; omega
  have n34 : ((c : Int) != 34) = true := by simp; omega
  have n92 : ((c : Int) != 92) = true := by simp; omega
  by_cases kb : c < 65536
  · have kbi : (c : Int) < 65536 := by omega
    go_enter Try.func20, Try.ntmps20
    go_wp2_with fail
    refine (four15_false c kb _).mono ?_
    rintro e w1 ⟨rfl, hb1⟩
    have hb1' := hid hb1
    clear hb1
    obtain ⟨R, hR⟩ : ∃ R, Hid (mkS (fourL c false) = R) := ⟨_, rfl⟩
    rw [hR.out]
    go_wp2
    go_ret
    exact ⟨⟨_, rfl, by rw [← hR.out]; exact four_byts hc'.out kb false⟩, hb1'.out⟩
  · have kbi : ¬ (c : Int) < 65536 := by omega
    obtain ⟨a, ha⟩ : ∃ a, Hid (55296 + (c - 65536) / 1024 = a) := ⟨_, rfl⟩
    obtain ⟨b, hb⟩ : ∃ b, Hid (56320 + (c - 65536) % 1024 = b) := ⟨_, rfl⟩
    have hai : (55296 : Int) + ((c : Int) - 65536) / 1024 = (a : Int) := by have := ha.out; omega
    have hbi : (56320 : Int) + ((c : Int) - 65536) % 1024 = (b : Int) := by have := hb.out; omega
    have ha6 : a < 65536 := by have := ha.out; have := size_val hc'.out; omega
    have hb6 : b < 65536 := by have := hb.out; omega
    have hpos : (0 : Int) ≤ (c : Int) - 65536 := by omega
    have hdv : Int.tdiv ((c : Int) - 65536) 1024 = ((c : Int) - 65536) / 1024 := Int.tdiv_eq_ediv_of_nonneg hpos
    have hmd : Int.tmod ((c : Int) - 65536) 1024 = ((c : Int) - 65536) % 1024 := Int.tmod_eq_emod_of_nonneg hpos
    go_enter Try.func20, Try.ntmps20
    go_wp2_with fail
    (try rw [hdv]); (try rw [hmd]); (try rw [hai])
    refine (four15_false a ha6 _).mono ?_
    rintro e w1 ⟨rfl, hb1⟩
    have hb1' := hid hb1
    clear hb1
    obtain ⟨R, hR⟩ : ∃ R, Hid (mkS (fourL a false) = R) := ⟨_, rfl⟩
    have hRs : R.size ≤ 6 := by rw [← hR.out, mkS_size]; simp [fourL]
    rw [hR.out]
    go_wp2_with fail
    (try rw [hmd]); (try rw [hbi])
    refine (four15_true b hb6 _).mono ?_
    rintro e w2 ⟨rfl, hb2⟩
    have hb2' := hid (hb1'.out.trans (hb2.mono hb1'.out.size))
    clear hb2
    obtain ⟨R2, hR2⟩ : ∃ R, Hid (mkS (fourL b true) = R) := ⟨_, rfl⟩
    have hRs2 : R2.size ≤ 6 := by rw [← hR2.out, mkS_size]; simp [fourL]
    rw [hR2.out]
    go_wp2
    go_ret
    exact ⟨⟨_, rfl, by rw [← hR.out, ← hR2.out, ← ha.out, ← hb.out]; exact pair_byts hc'.out (by omega) false true⟩, hb2'.out⟩

set_option maxRecDepth 10000 in
set_option maxHeartbeats 4000000 in
theorem spelled_2 (c : Nat) (hc : sizeN c ≠ 0) (W : Nat) (hW : W < 256) (hm : (W : Int) % 4 = 2) (w : World) :
    Calls Try.prog 20 #[.int .i32 (c : Int), .int .i64 (W : Int)] w fun e w' => (∃ t, e = .returned (.string t) ∧ PieceOk c (byts t)) ∧ Below w.heap.size w w' := by
  have hc' := hid hc
  have hv := size_val hc
  have hv1 : (c : Int) ≤ 1114111 := by omega
  have hWi : (W : Int) < 256 := by omega
  clear hc
  by_cases k34 : c = 34
  · subst k34
    go_enter Try.func20, Try.ntmps20
    go_wp2_with fail
    refine (four15_true 34 (by decide) _).mono ?_
    rintro e w1 ⟨rfl, hb1⟩
    have hb1' := hid hb1
    clear hb1
    obtain ⟨R, hR⟩ : ∃ R, Hid (mkS (fourL 34 true) = R) := ⟨_, rfl⟩
    rw [hR.out]
    go_wp2
    go_ret
    exact ⟨⟨_, rfl, by rw [← hR.out]; exact four_byts (by decide) (by decide) true⟩, hb1'.out⟩
  have m34 : ((c : Int) == 34) = false := by simp; omega
  by_cases k92 : c = 92
  · subst k92
    go_enter Try.func20, Try.ntmps20
    go_wp2_with fail
    refine (four15_true 92 (by decide) _).mono ?_
    rintro e w1 ⟨rfl, hb1⟩
    have hb1' := hid hb1
    clear hb1
    obtain ⟨R, hR⟩ : ∃ R, Hid (mkS (fourL 92 true) = R) := ⟨_, rfl⟩
    rw [hR.out]
    go_wp2
    go_ret
    exact ⟨⟨_, rfl, by rw [← hR.out]; exact four_byts (by decide) (by decide) true⟩, hb1'.out⟩
  have m92 : ((c : Int) == 92) = false := by simp; omega
  by_cases k47 : c = 47
  · subst k47
    go_enter Try.func20, Try.ntmps20
    go_wp2_with fail
    refine (four15_true 47 (by decide) _).mono ?_
    rintro e w1 ⟨rfl, hb1⟩
    have hb1' := hid hb1
    clear hb1
    obtain ⟨R, hR⟩ : ∃ R, Hid (mkS (fourL 47 true) = R) := ⟨_, rfl⟩
    rw [hR.out]
    go_wp2
    go_ret
    exact ⟨⟨_, rfl, by rw [← hR.out]; exact four_byts (by decide) (by decide) true⟩, hb1'.out⟩
  have m47 : ((c : Int) == 47) = false := by simp; omega
  by_cases k8 : c = 8
  · subst k8
    go_enter Try.func20, Try.ntmps20
    go_wp2_with fail
    refine (four15_true 8 (by decide) _).mono ?_
    rintro e w1 ⟨rfl, hb1⟩
    have hb1' := hid hb1
    clear hb1
    obtain ⟨R, hR⟩ : ∃ R, Hid (mkS (fourL 8 true) = R) := ⟨_, rfl⟩
    rw [hR.out]
    go_wp2
    go_ret
    exact ⟨⟨_, rfl, by rw [← hR.out]; exact four_byts (by decide) (by decide) true⟩, hb1'.out⟩
  have m8 : ((c : Int) == 8) = false := by simp; omega
  by_cases k12 : c = 12
  · subst k12
    go_enter Try.func20, Try.ntmps20
    go_wp2_with fail
    refine (four15_true 12 (by decide) _).mono ?_
    rintro e w1 ⟨rfl, hb1⟩
    have hb1' := hid hb1
    clear hb1
    obtain ⟨R, hR⟩ : ∃ R, Hid (mkS (fourL 12 true) = R) := ⟨_, rfl⟩
    rw [hR.out]
    go_wp2
    go_ret
    exact ⟨⟨_, rfl, by rw [← hR.out]; exact four_byts (by decide) (by decide) true⟩, hb1'.out⟩
  have m12 : ((c : Int) == 12) = false := by simp; omega
  by_cases k10 : c = 10
  · subst k10
    go_enter Try.func20, Try.ntmps20
    go_wp2_with fail
    refine (four15_true 10 (by decide) _).mono ?_
    rintro e w1 ⟨rfl, hb1⟩
    have hb1' := hid hb1
    clear hb1
    obtain ⟨R, hR⟩ : ∃ R, Hid (mkS (fourL 10 true) = R) := ⟨_, rfl⟩
    rw [hR.out]
    go_wp2
    go_ret
    exact ⟨⟨_, rfl, by rw [← hR.out]; exact four_byts (by decide) (by decide) true⟩, hb1'.out⟩
  have m10 : ((c : Int) == 10) = false := by simp; omega
  by_cases k13 : c = 13
  · subst k13
    go_enter Try.func20, Try.ntmps20
    go_wp2_with fail
    refine (four15_true 13 (by decide) _).mono ?_
    rintro e w1 ⟨rfl, hb1⟩
    have hb1' := hid hb1
    clear hb1
    obtain ⟨R, hR⟩ : ∃ R, Hid (mkS (fourL 13 true) = R) := ⟨_, rfl⟩
    rw [hR.out]
    go_wp2
    go_ret
    exact ⟨⟨_, rfl, by rw [← hR.out]; exact four_byts (by decide) (by decide) true⟩, hb1'.out⟩
  have m13 : ((c : Int) == 13) = false := by simp; omega
  by_cases k9 : c = 9
  · subst k9
    go_enter Try.func20, Try.ntmps20
    go_wp2_with fail
    refine (four15_true 9 (by decide) _).mono ?_
    rintro e w1 ⟨rfl, hb1⟩
    have hb1' := hid hb1
    clear hb1
    obtain ⟨R, hR⟩ : ∃ R, Hid (mkS (fourL 9 true) = R) := ⟨_, rfl⟩
    rw [hR.out]
    go_wp2
    go_ret
    exact ⟨⟨_, rfl, by rw [← hR.out]; exact four_byts (by decide) (by decide) true⟩, hb1'.out⟩
  have m9 : ((c : Int) == 9) = false := by simp; omega
  have n34 : ((c : Int) != 34) = true := by simp; omega
  have n92 : ((c : Int) != 92) = true := by simp; omega
  by_cases kb : c < 65536
  · have kbi : (c : Int) < 65536 := by omega
    go_enter Try.func20, Try.ntmps20
    go_wp2_with fail
    refine (four15_true c kb _).mono ?_
    rintro e w1 ⟨rfl, hb1⟩
    have hb1' := hid hb1
    clear hb1
    obtain ⟨R, hR⟩ : ∃ R, Hid (mkS (fourL c true) = R) := ⟨_, rfl⟩
    rw [hR.out]
    go_wp2
    go_ret
    exact ⟨⟨_, rfl, by rw [← hR.out]; exact four_byts hc'.out kb true⟩, hb1'.out⟩
  · have kbi : ¬ (c : Int) < 65536 := by omega
    obtain ⟨a, ha⟩ : ∃ a, Hid (55296 + (c - 65536) / 1024 = a) := ⟨_, rfl⟩
    obtain ⟨b, hb⟩ : ∃ b, Hid (56320 + (c - 65536) % 1024 = b) := ⟨_, rfl⟩
    have hai : (55296 : Int) + ((c : Int) - 65536) / 1024 = (a : Int) := by have := ha.out; omega
    have hbi : (56320 : Int) + ((c : Int) - 65536) % 1024 = (b : Int) := by have := hb.out; omega
    have ha6 : a < 65536 := by have := ha.out; have := size_val hc'.out; omega
    have hb6 : b < 65536 := by have := hb.out; omega
    have hpos : (0 : Int) ≤ (c : Int) - 65536 := by omega
    have hdv : Int.tdiv ((c : Int) - 65536) 1024 = ((c : Int) - 65536) / 1024 := Int.tdiv_eq_ediv_of_nonneg hpos
    have hmd : Int.tmod ((c : Int) - 65536) 1024 = ((c : Int) - 65536) % 1024 := Int.tmod_eq_emod_of_nonneg hpos
    go_enter Try.func20, Try.ntmps20
    go_wp2_with fail
    (try rw [hdv]); (try rw [hmd]); (try rw [hai])
    refine (four15_true a ha6 _).mono ?_
    rintro e w1 ⟨rfl, hb1⟩
    have hb1' := hid hb1
    clear hb1
    obtain ⟨R, hR⟩ : ∃ R, Hid (mkS (fourL a true) = R) := ⟨_, rfl⟩
    have hRs : R.size ≤ 6 := by rw [← hR.out, mkS_size]; simp [fourL]
    rw [hR.out]
    go_wp2_with fail
    (try rw [hmd]); (try rw [hbi])
    refine (four15_false b hb6 _).mono ?_
    rintro e w2 ⟨rfl, hb2⟩
    have hb2' := hid (hb1'.out.trans (hb2.mono hb1'.out.size))
    clear hb2
    obtain ⟨R2, hR2⟩ : ∃ R, Hid (mkS (fourL b false) = R) := ⟨_, rfl⟩
    have hRs2 : R2.size ≤ 6 := by rw [← hR2.out, mkS_size]; simp [fourL]
    rw [hR2.out]
    go_wp2
    go_ret
    exact ⟨⟨_, rfl, by rw [← hR.out, ← hR2.out, ← ha.out, ← hb.out]; exact pair_byts hc'.out (by omega) true false⟩, hb2'.out⟩

set_option maxRecDepth 10000 in
set_option maxHeartbeats 4000000 in
theorem spelled_3 (c : Nat) (hc : sizeN c ≠ 0) (W : Nat) (hW : W < 256) (hm : (W : Int) % 4 = 3) (w : World) :
    Calls Try.prog 20 #[.int .i32 (c : Int), .int .i64 (W : Int)] w fun e w' => (∃ t, e = .returned (.string t) ∧ PieceOk c (byts t)) ∧ Below w.heap.size w w' := by
  have hc' := hid hc
  have hv := size_val hc
  have hv1 : (c : Int) ≤ 1114111 := by omega
  have hWi : (W : Int) < 256 := by omega
  clear hc
  by_cases k34 : c = 34
  · subst k34
    go_enter Try.func20, Try.ntmps20
    go_wp2
    go_ret
    exact ⟨⟨_, rfl, short_byts (c := 34) (m := 34) (by decide) (by decide)⟩, by repeat (first | with_reducible exact Below.refl _ _ | with_reducible refine Below.setCell ?_ (by first | (simp; done) | (simp; omega)) _ | with_reducible refine below_drewN ?_ _ | with_reducible refine Below.alloc ?_ (by first | (simp; done) | (simp; omega)) _ | with_reducible refine Below.drew ?_)⟩
  have m34 : ((c : Int) == 34) = false := by simp; omega
  by_cases k92 : c = 92
  · subst k92
    go_enter Try.func20, Try.ntmps20
    go_wp2
    go_ret
    exact ⟨⟨_, rfl, short_byts (c := 92) (m := 92) (by decide) (by decide)⟩, by repeat (first | with_reducible exact Below.refl _ _ | with_reducible refine Below.setCell ?_ (by first | (simp; done) | (simp; omega)) _ | with_reducible refine below_drewN ?_ _ | with_reducible refine Below.alloc ?_ (by first | (simp; done) | (simp; omega)) _ | with_reducible refine Below.drew ?_)⟩
  have m92 : ((c : Int) == 92) = false := by simp; omega
  by_cases k47 : c = 47
  · subst k47
    go_enter Try.func20, Try.ntmps20
    go_wp2
    go_ret
    exact ⟨⟨_, rfl, short_byts (c := 47) (m := 47) (by decide) (by decide)⟩, by repeat (first | with_reducible exact Below.refl _ _ | with_reducible refine Below.setCell ?_ (by first | (simp; done) | (simp; omega)) _ | with_reducible refine below_drewN ?_ _ | with_reducible refine Below.alloc ?_ (by first | (simp; done) | (simp; omega)) _ | with_reducible refine Below.drew ?_)⟩
  have m47 : ((c : Int) == 47) = false := by simp; omega
  by_cases k8 : c = 8
  · subst k8
    go_enter Try.func20, Try.ntmps20
    go_wp2
    go_ret
    exact ⟨⟨_, rfl, short_byts (c := 8) (m := 98) (by decide) (by decide)⟩, by repeat (first | with_reducible exact Below.refl _ _ | with_reducible refine Below.setCell ?_ (by first | (simp; done) | (simp; omega)) _ | with_reducible refine below_drewN ?_ _ | with_reducible refine Below.alloc ?_ (by first | (simp; done) | (simp; omega)) _ | with_reducible refine Below.drew ?_)⟩
  have m8 : ((c : Int) == 8) = false := by simp; omega
  by_cases k12 : c = 12
  · subst k12
    go_enter Try.func20, Try.ntmps20
    go_wp2
    go_ret
    exact ⟨⟨_, rfl, short_byts (c := 12) (m := 102) (by decide) (by decide)⟩, by repeat (first | with_reducible exact Below.refl _ _ | with_reducible refine Below.setCell ?_ (by first | (simp; done) | (simp; omega)) _ | with_reducible refine below_drewN ?_ _ | with_reducible refine Below.alloc ?_ (by first | (simp; done) | (simp; omega)) _ | with_reducible refine Below.drew ?_)⟩
  have m12 : ((c : Int) == 12) = false := by simp; omega
  by_cases k10 : c = 10
  · subst k10
    go_enter Try.func20, Try.ntmps20
    go_wp2
    go_ret
    exact ⟨⟨_, rfl, short_byts (c := 10) (m := 110) (by decide) (by decide)⟩, by repeat (first | with_reducible exact Below.refl _ _ | with_reducible refine Below.setCell ?_ (by first | (simp; done) | (simp; omega)) _ | with_reducible refine below_drewN ?_ _ | with_reducible refine Below.alloc ?_ (by first | (simp; done) | (simp; omega)) _ | with_reducible refine Below.drew ?_)⟩
  have m10 : ((c : Int) == 10) = false := by simp; omega
  by_cases k13 : c = 13
  · subst k13
    go_enter Try.func20, Try.ntmps20
    go_wp2
    go_ret
    exact ⟨⟨_, rfl, short_byts (c := 13) (m := 114) (by decide) (by decide)⟩, by repeat (first | with_reducible exact Below.refl _ _ | with_reducible refine Below.setCell ?_ (by first | (simp; done) | (simp; omega)) _ | with_reducible refine below_drewN ?_ _ | with_reducible refine Below.alloc ?_ (by first | (simp; done) | (simp; omega)) _ | with_reducible refine Below.drew ?_)⟩
  have m13 : ((c : Int) == 13) = false := by simp; omega
  by_cases k9 : c = 9
  · subst k9
    go_enter Try.func20, Try.ntmps20
    go_wp2
    go_ret
    exact ⟨⟨_, rfl, short_byts (c := 9) (m := 116) (by decide) (by decide)⟩, by repeat (first | with_reducible exact Below.refl _ _ | with_reducible refine Below.setCell ?_ (by first | (simp; done) | (simp; omega)) _ | with_reducible refine below_drewN ?_ _ | with_reducible refine Below.alloc ?_ (by first | (simp; done) | (simp; omega)) _ | with_reducible refine Below.drew ?_)⟩
  have m9 : ((c : Int) == 9) = false := by simp; omega
  have n34 : ((c : Int) != 34) = true := by simp; omega
  have n92 : ((c : Int) != 92) = true := by simp; omega
  by_cases kb : c < 65536
  · have kbi : (c : Int) < 65536 := by omega
    go_enter Try.func20, Try.ntmps20
    go_wp2_with fail
    refine (four15_false c kb _).mono ?_
    rintro e w1 ⟨rfl, hb1⟩
    have hb1' := hid hb1
    clear hb1
    obtain ⟨R, hR⟩ : ∃ R, Hid (mkS (fourL c false) = R) := ⟨_, rfl⟩
    rw [hR.out]
    go_wp2
    go_ret
    exact ⟨⟨_, rfl, by rw [← hR.out]; exact four_byts hc'.out kb false⟩, hb1'.out⟩
  · have kbi : ¬ (c : Int) < 65536 := by omega
    obtain ⟨a, ha⟩ : ∃ a, Hid (55296 + (c - 65536) / 1024 = a) := ⟨_, rfl⟩
    obtain ⟨b, hb⟩ : ∃ b, Hid (56320 + (c - 65536) % 1024 = b) := ⟨_, rfl⟩
    have hai : (55296 : Int) + ((c : Int) - 65536) / 1024 = (a : Int) := by have := ha.out; omega
    have hbi : (56320 : Int) + ((c : Int) - 65536) % 1024 = (b : Int) := by have := hb.out; omega
    have ha6 : a < 65536 := by have := ha.out; have := size_val hc'.out; omega
    have hb6 : b < 65536 := by have := hb.out; omega
    have hpos : (0 : Int) ≤ (c : Int) - 65536 := by omega
    have hdv : Int.tdiv ((c : Int) - 65536) 1024 = ((c : Int) - 65536) / 1024 := Int.tdiv_eq_ediv_of_nonneg hpos
    have hmd : Int.tmod ((c : Int) - 65536) 1024 = ((c : Int) - 65536) % 1024 := Int.tmod_eq_emod_of_nonneg hpos
    go_enter Try.func20, Try.ntmps20
    go_wp2_with fail
    (try rw [hdv]); (try rw [hmd]); (try rw [hai])
    refine (four15_false a ha6 _).mono ?_
    rintro e w1 ⟨rfl, hb1⟩
    have hb1' := hid hb1
    clear hb1
    obtain ⟨R, hR⟩ : ∃ R, Hid (mkS (fourL a false) = R) := ⟨_, rfl⟩
    have hRs : R.size ≤ 6 := by rw [← hR.out, mkS_size]; simp [fourL]
    rw [hR.out]
    go_wp2_with fail
    (try rw [hmd]); (try rw [hbi])
    refine (four15_true b hb6 _).mono ?_
    rintro e w2 ⟨rfl, hb2⟩
    have hb2' := hid (hb1'.out.trans (hb2.mono hb1'.out.size))
    clear hb2
    obtain ⟨R2, hR2⟩ : ∃ R, Hid (mkS (fourL b true) = R) := ⟨_, rfl⟩
    have hRs2 : R2.size ≤ 6 := by rw [← hR2.out, mkS_size]; simp [fourL]
    rw [hR2.out]
    go_wp2
    go_ret
    exact ⟨⟨_, rfl, by rw [← hR.out, ← hR2.out, ← ha.out, ← hb.out]; exact pair_byts hc'.out (by omega) false true⟩, hb2'.out⟩

theorem spelled_calls (c : Nat) (hc : sizeN c ≠ 0) (W : Nat) (hW : W < 256) (w : World) :
    Calls Try.prog 20 #[.int .i32 (c : Int), .int .i64 (W : Int)] w fun e w' => (∃ t, e = .returned (.string t) ∧ PieceOk c (byts t)) ∧ Below w.heap.size w w' := by
  obtain h | h | h | h : (W : Int) % 4 = 0 ∨ (W : Int) % 4 = 1 ∨ (W : Int) % 4 = 2 ∨ (W : Int) % 4 = 3 := by omega
  · exact spelled_0 c hc W hW h w
  · exact spelled_1 c hc W hW h w
  · exact spelled_2 c hc W hW h w
  · exact spelled_3 c hc W hW h w
end Go.Proofs.Ytlcihopklnnhdaa
