/-
 What quarryref05.span and quarryref05.Begins answer of the first bytes of a form.
-/
import Derived.Test.YtbabdhepnjacdaaDoorUtf8W
import Derived.Test.YtbabdhepnjacdaaDoorUtf8RefSize
namespace Go.Proofs.YtbabdhepnjacdaaDoor
open Go.RowKit
/-- What span answers. -/
noncomputable def spanV (x : Nat) (t : List Nat) : Value := open Classical in if SpanOk x t then .tuple #[.int .i64 (sizeB x : Int), .int .i64 (loB x t : Int), .int .i64 (hiB5u x t : Int)] else .tuple #[.int .i64 0, .int .i64 1, .int .i64 0]
theorem spanV_pos {x : Nat} {t : List Nat} (h : SpanOk x t) : spanV x t = .tuple #[.int .i64 (sizeB x : Int), .int .i64 (loB x t : Int), .int .i64 (hiB5u x t : Int)] := if_pos h
theorem spanV_neg {x : Nat} {t : List Nat} (h : ¬ SpanOk x t) : spanV x t = .tuple #[.int .i64 0, .int .i64 1, .int .i64 0] := if_neg h
set_option maxRecDepth 10000 in
set_option maxHeartbeats 2000000 in
theorem span_calls (x : Nat) (t : List Nat) (hx : x < 256) (hlen : t.length ≤ 3) (g cap : Nat) (w : World) (hc0 : w.cell? ⟨g, 0, none⟩ = some (.int .u8 (x : Int))) (hct : ∀ (i y : Nat), t[i]? = some y → w.cell? ⟨g, i + 1, none⟩ = some (.int .u8 (y : Int)) ∧ y < 256) :
  Calls Tryd.prog 86 #[.slice (some ⟨g, 0, none⟩) (t.length + 1) cap] w fun e w' => e = .returned (spanV x t) ∧ w' = w := by
 have hct' := hid hct
 clear hct
 obtain ⟨n, hn⟩ : ∃ n : Nat, n = t.length + 1 := ⟨_, rfl⟩
 rw [← hn]
 have hn' := hid hn
 have hn4 : n ≤ 4 := by omega
 have hn1 : 1 ≤ n := by omega
 have hni : (1 : Int) ≤ (n : Int) := by omega
 have hnp : (0 : Int) < (n : Int) := by omega
 have hxi : (x : Int) < 256 := by omega
 clear hn hlen
 rcases sizeB_cases x hx with ⟨h1, hS, hL⟩ | ⟨h1, h2, hS⟩ | ⟨h1, h2, hS, hL⟩ | ⟨h1, h2, hS, hL⟩ | ⟨h1, h2, hS, hL⟩ | ⟨h1, hS⟩
 ·have i0 : ((x : Int) < 128) := by omega
  have i1 : ¬ ((192 : Int) ≤ (x : Int)) := by omega
  have i2 : ((x : Int) < 224) := by omega
  have i3 : ¬ ((224 : Int) ≤ (x : Int)) := by omega
  have i4 : ((x : Int) < 240) := by omega
  have i5 : ¬ ((240 : Int) ≤ (x : Int)) := by omega
  have i6 : ((x : Int) < 248) := by omega
  obtain ⟨l0, hl0⟩ : ∃ l0 : Nat, l0 = leadB x := ⟨_, rfl⟩
  have hl0i : (x : Int) = (l0 : Int) := by omega
  have hS' := hid hS
  have hl0' := hid hl0
  have hx' := hid hx
  clear h1 hS hL hx hl0
  go_enter Tryd.func86, Tryd.ntmps86
  go_wp2
  clear i0 i1 i2 i3 i4 i5 i6
  go_loopw [7, 8] (fun lo ii wr => ∃ (i L : Nat), 1 ≤ i ∧ i ≤ n ∧ i ≤ 1 ∧ Hid (L = accB l0 (t.take (i - 1))) ∧ Hid (okC (t.take (i - 1))) ∧ L < 33554432 ∧ lo = .int .i64 (L : Int) ∧ ii = .int .i64 (i : Int) ∧ w = wr) (fun _ ii _ => n - (intOf ii).toNat)
  case atStart =>
   refine ⟨1, l0, by omega, by omega, by omega, hid rfl, hid (fun y hy => by cases hy), ?_, rfl, rfl, rfl⟩
   have := leadB_le hx'.out
   have := hl0'.out
   omega
  case round =>
   obtain ⟨i, L, hi1, hin, hik, hL, hok, hLs, rfl, rfl, hwr⟩ := hrel
   subst hwr
   by_cases hlt : i < n
   ·have hli : (i : Int) < (n : Int) := by omega
    obtain ⟨y, hy⟩ : ∃ y, t[i - 1]? = some y := ⟨_, List.getElem?_eq_getElem (by have := hn'.out; omega)⟩
    have hcy := hct'.out _ _ hy
    rw [show i - 1 + 1 = i by omega] at hcy
    obtain ⟨hcy, hy256⟩ := hcy
    have hy' := hid hy
    have ht1 := hid (show t.take i = t.take (i - 1) ++ [y] by
     have := List.take_add_one (l := t) (i := i - 1)
     rw [hy, show i - 1 + 1 = i by omega] at this
     exact this)
    clear hy
    by_cases hki : i < 1
    ·omega
    ·have hkii : ¬ (i : Int) < 1 := by omega
     have hge : (1 : Int) ≤ (i : Int) := by omega
     have hno := hid (spanV_neg (x := x) (t := t) (fun h => by have := h.2; have := hn'.out; have := hS'.out; omega))
     go_wp2
     refine bodyPost_ret (v := .tuple #[.int .i64 0, .int .i64 1, .int .i64 0]) (by simp [results, Tryd.results86, go_sem]; try decide) rfl ⟨?_, rfl⟩
     rw [hno.out]
   ·obtain rfl : i = n := by omega
    have hall : t.take (i - 1) = t := List.take_of_length_le (by have := hn'.out; omega)
    rw [hall] at hL hok
    have hyes := hid (spanV_pos (x := x) (t := t) ⟨hok.out, by have := hn'.out; have := hS'.out; omega⟩)
    have hLs' := hid hLs
    have hn2 := hid hik
    clear hall hlt hLs
    go_wp2
    go_loopw [7, 10, 11] (fun lo hi jj wr => ∃ (j A B : Nat), i ≤ j ∧ j ≤ 1 ∧ Hid (A = L * 64 ^ (j - i)) ∧ Hid (B + 1 = (L + 1) * 64 ^ (j - i)) ∧ A < 33554432 ∧ B < 33554432 ∧ lo = .int .i64 (A : Int) ∧ hi = .int .i64 (B : Int) ∧ jj = .int .i64 (j : Int) ∧ w = wr) (fun _ _ jj _ => 1 - (intOf jj).toNat)
    case atStart => exact ⟨i, L, L, Nat.le_refl _, hn2.out, hid (by rw [Nat.sub_self, Nat.pow_zero, Nat.mul_one]), hid (by rw [Nat.sub_self, Nat.pow_zero, Nat.mul_one]), hLs'.out, hLs'.out, rfl, rfl, rfl, rfl⟩
    case round =>
     obtain ⟨j, A, B, hij, hjk, hA, hB, hAs, hBs, rfl, rfl, rfl, hwr⟩ := hrel
     subst hwr
     by_cases hlt : j < 1
     ·have hli : (j : Int) < 1 := by omega
      have hA1 := hid (show A * 64 = L * 64 ^ (j + 1 - i) by rw [hA.out, show j + 1 - i = (j - i) + 1 by omega, Nat.pow_succ, Nat.mul_assoc])
      have hB1 := hid (show B * 64 + 63 + 1 = (L + 1) * 64 ^ (j + 1 - i) by rw [show B * 64 + 63 + 1 = (B + 1) * 64 by omega, hB.out, show j + 1 - i = (j - i) + 1 by omega, Nat.pow_succ, Nat.mul_assoc])
      have hBb : B * 64 + 63 < 33554432 := by
       have h1 := accB_lt t (leadB x) hok.out
       rw [← hl0'.out, ← hL.out, show t.length = i - 1 by have := hn'.out; omega] at h1
       have h2 := leadB_le hx'.out
       rw [← hl0'.out] at h2
       have h3 : (L + 1) * 64 ^ (j + 1 - i) ≤ ((l0 + 1) * 64 ^ (i - 1)) * 64 ^ (j + 1 - i) := Nat.mul_le_mul_right _ h1
       rw [Nat.mul_assoc, ← Nat.pow_add, show i - 1 + (j + 1 - i) = j by omega] at h3
       have h4 : 64 ^ j ≤ 64 ^ 3 := Nat.pow_le_pow_right (by decide) (by omega)
       have h5 : (l0 + 1) * 64 ^ j ≤ 128 * 64 ^ 3 := Nat.mul_le_mul (by omega) h4
       have h6 : 128 * 64 ^ 3 = 33554432 := by decide
       have := hB1.out
       omega
      have hAB : A ≤ B := by
       have h1 := hA.out
       have h2 := hB.out
       have h3 : 1 ≤ 64 ^ (j - i) := Nat.pos_of_ne_zero (by simp)
       rw [Nat.add_mul, Nat.one_mul] at h2
       omega
      have hAi : (A : Int) < 33554432 := by omega
      have hBi : (B : Int) < 33554432 := by omega
      have hA64 : A * 64 < 33554432 := by omega
      clear hlt hAB
      go_wp2
      go_roundw
      case rel => exact ⟨j + 1, A * 64, B * 64 + 63, by omega, by omega, hA1, hB1, hA64, hBb, by simp, by simp, by simp, by first | trivial | rfl⟩
      case measure => simp [intOf]; omega
     ·obtain rfl : j = 1 := by omega
      go_wp2
      refine bodyPost_ret (v := .tuple #[.int .i64 1, .int .i64 (A : Int), .int .i64 (B : Int)]) (by simp [results, Tryd.results86, go_sem]; try decide) rfl ⟨?_, rfl⟩
      have e1 : loB x t = A := by unfold loB; rw [hS'.out, ← hl0'.out, ← hL.out, hA.out, hn'.out]
      have e2 : hiB5u x t = B := by unfold hiB5u; rw [hS'.out, ← hl0'.out, ← hL.out, ← hn'.out, ← hB.out]; omega
      rw [hyes.out, e1, e2, hS'.out]
      rfl
 ·have i0 : ¬ ((x : Int) < 128) := by omega
  have i1 : ¬ ((192 : Int) ≤ (x : Int)) := by omega
  have i2 : ((x : Int) < 224) := by omega
  have i3 : ¬ ((224 : Int) ≤ (x : Int)) := by omega
  have i4 : ((x : Int) < 240) := by omega
  have i5 : ¬ ((240 : Int) ≤ (x : Int)) := by omega
  have i6 : ((x : Int) < 248) := by omega
  have hno := hid (spanV_neg (x := x) (t := t) (fun h => by have := h.2; omega))
  clear h1 h2 hS hx
  go_enter Tryd.func86, Tryd.ntmps86
  go_wp2
  refine bodyPost_ret (v := .tuple #[.int .i64 0, .int .i64 1, .int .i64 0]) (by simp [results, Tryd.results86, go_sem]; try decide) rfl ⟨?_, rfl⟩
  rw [hno.out]
 ·have i0 : ¬ ((x : Int) < 128) := by omega
  have i1 : ((192 : Int) ≤ (x : Int)) := by omega
  have i2 : ((x : Int) < 224) := by omega
  have i3 : ¬ ((224 : Int) ≤ (x : Int)) := by omega
  have i4 : ((x : Int) < 240) := by omega
  have i5 : ¬ ((240 : Int) ≤ (x : Int)) := by omega
  have i6 : ((x : Int) < 248) := by omega
  obtain ⟨l0, hl0⟩ : ∃ l0 : Nat, l0 = leadB x := ⟨_, rfl⟩
  have hl0i : (x : Int) - 192 = (l0 : Int) := by omega
  have hS' := hid hS
  have hl0' := hid hl0
  have hx' := hid hx
  clear h1 h2 hS hL hx hl0
  go_enter Tryd.func86, Tryd.ntmps86
  go_wp2
  clear i0 i1 i2 i3 i4 i5 i6
  go_loopw [7, 8] (fun lo ii wr => ∃ (i L : Nat), 1 ≤ i ∧ i ≤ n ∧ i ≤ 2 ∧ Hid (L = accB l0 (t.take (i - 1))) ∧ Hid (okC (t.take (i - 1))) ∧ L < 33554432 ∧ lo = .int .i64 (L : Int) ∧ ii = .int .i64 (i : Int) ∧ w = wr) (fun _ ii _ => n - (intOf ii).toNat)
  case atStart =>
   refine ⟨1, l0, by omega, by omega, by omega, hid rfl, hid (fun y hy => by cases hy), ?_, rfl, rfl, rfl⟩
   have := leadB_le hx'.out
   have := hl0'.out
   omega
  case round =>
   obtain ⟨i, L, hi1, hin, hik, hL, hok, hLs, rfl, rfl, hwr⟩ := hrel
   subst hwr
   by_cases hlt : i < n
   ·have hli : (i : Int) < (n : Int) := by omega
    obtain ⟨y, hy⟩ : ∃ y, t[i - 1]? = some y := ⟨_, List.getElem?_eq_getElem (by have := hn'.out; omega)⟩
    have hcy := hct'.out _ _ hy
    rw [show i - 1 + 1 = i by omega] at hcy
    obtain ⟨hcy, hy256⟩ := hcy
    have hy' := hid hy
    have ht1 := hid (show t.take i = t.take (i - 1) ++ [y] by
     have := List.take_add_one (l := t) (i := i - 1)
     rw [hy, show i - 1 + 1 = i by omega] at this
     exact this)
    clear hy
    by_cases hki : i < 2
    ·have hkii : (i : Int) < 2 := by omega
     by_cases hy1 : y < 128
     ·have hno := hid (spanV_neg (x := x) (t := t) (fun h => by have := h.1 y (List.mem_of_getElem? hy'.out); omega))
      have hyi : (y : Int) < 128 := by omega
      go_wp2
      refine bodyPost_ret (v := .tuple #[.int .i64 0, .int .i64 1, .int .i64 0]) (by simp [results, Tryd.results86, go_sem]; try decide) rfl ⟨?_, rfl⟩
      rw [hno.out]
     ·have hyi : ¬ (y : Int) < 128 := by omega
      by_cases hy2 : 192 ≤ y
      ·have hno := hid (spanV_neg (x := x) (t := t) (fun h => by have := h.1 y (List.mem_of_getElem? hy'.out); omega))
       have hyj : (192 : Int) ≤ (y : Int) := by omega
       go_wp2
       refine bodyPost_ret (v := .tuple #[.int .i64 0, .int .i64 1, .int .i64 0]) (by simp [results, Tryd.results86, go_sem]; try decide) rfl ⟨?_, rfl⟩
       rw [hno.out]
      ·have hyj : ¬ (192 : Int) ≤ (y : Int) := by omega
       obtain ⟨M, hM⟩ : ∃ M : Nat, M = L * 64 + (y - 128) := ⟨_, rfl⟩
       have hMi := hid (show (L : Int) * 64 + (y : Int) - 128 = (M : Int) by omega)
       have hMa := hid (show M = accB l0 (t.take (i + 1 - 1)) by rw [hM, hL.out, show i + 1 - 1 = i by omega, ht1.out, accB_snoc])
       have hMo := hid (show okC (t.take (i + 1 - 1)) by rw [show i + 1 - 1 = i by omega, ht1.out]; exact okC_snoc hok.out (by omega) (by omega))
       have hMs : M < 33554432 := by
        rw [hMa.out, hl0'.out]
        refine accB_small hx'.out hMo.out ?_
        rw [List.length_take]; omega
       have hMs2 := hid hMs
       have hLs2 := hid hLs
       clear hM hlt hki hy1 hy2 hMs hLs
       go_wp2
       go_roundw
       case rel => exact ⟨i + 1, M, by omega, by omega, by omega, hMa, hMo, hMs2.out, by congr 1; have := hMi.out; have := hLs2.out; unfold wrap64; omega, by simp, by first | trivial | rfl⟩
       case measure => simp [intOf]; omega
    ·have hkii : ¬ (i : Int) < 2 := by omega
     have hge : (2 : Int) ≤ (i : Int) := by omega
     have hno := hid (spanV_neg (x := x) (t := t) (fun h => by have := h.2; have := hn'.out; have := hS'.out; omega))
     go_wp2
     refine bodyPost_ret (v := .tuple #[.int .i64 0, .int .i64 1, .int .i64 0]) (by simp [results, Tryd.results86, go_sem]; try decide) rfl ⟨?_, rfl⟩
     rw [hno.out]
   ·obtain rfl : i = n := by omega
    have hall : t.take (i - 1) = t := List.take_of_length_le (by have := hn'.out; omega)
    rw [hall] at hL hok
    have hyes := hid (spanV_pos (x := x) (t := t) ⟨hok.out, by have := hn'.out; have := hS'.out; omega⟩)
    have hLs' := hid hLs
    have hn2 := hid hik
    clear hall hlt hLs
    go_wp2
    go_loopw [7, 10, 11] (fun lo hi jj wr => ∃ (j A B : Nat), i ≤ j ∧ j ≤ 2 ∧ Hid (A = L * 64 ^ (j - i)) ∧ Hid (B + 1 = (L + 1) * 64 ^ (j - i)) ∧ A < 33554432 ∧ B < 33554432 ∧ lo = .int .i64 (A : Int) ∧ hi = .int .i64 (B : Int) ∧ jj = .int .i64 (j : Int) ∧ w = wr) (fun _ _ jj _ => 2 - (intOf jj).toNat)
    case atStart => exact ⟨i, L, L, Nat.le_refl _, hn2.out, hid (by rw [Nat.sub_self, Nat.pow_zero, Nat.mul_one]), hid (by rw [Nat.sub_self, Nat.pow_zero, Nat.mul_one]), hLs'.out, hLs'.out, rfl, rfl, rfl, rfl⟩
    case round =>
     obtain ⟨j, A, B, hij, hjk, hA, hB, hAs, hBs, rfl, rfl, rfl, hwr⟩ := hrel
     subst hwr
     by_cases hlt : j < 2
     ·have hli : (j : Int) < 2 := by omega
      have hA1 := hid (show A * 64 = L * 64 ^ (j + 1 - i) by rw [hA.out, show j + 1 - i = (j - i) + 1 by omega, Nat.pow_succ, Nat.mul_assoc])
      have hB1 := hid (show B * 64 + 63 + 1 = (L + 1) * 64 ^ (j + 1 - i) by rw [show B * 64 + 63 + 1 = (B + 1) * 64 by omega, hB.out, show j + 1 - i = (j - i) + 1 by omega, Nat.pow_succ, Nat.mul_assoc])
      have hBb : B * 64 + 63 < 33554432 := by
       have h1 := accB_lt t (leadB x) hok.out
       rw [← hl0'.out, ← hL.out, show t.length = i - 1 by have := hn'.out; omega] at h1
       have h2 := leadB_le hx'.out
       rw [← hl0'.out] at h2
       have h3 : (L + 1) * 64 ^ (j + 1 - i) ≤ ((l0 + 1) * 64 ^ (i - 1)) * 64 ^ (j + 1 - i) := Nat.mul_le_mul_right _ h1
       rw [Nat.mul_assoc, ← Nat.pow_add, show i - 1 + (j + 1 - i) = j by omega] at h3
       have h4 : 64 ^ j ≤ 64 ^ 3 := Nat.pow_le_pow_right (by decide) (by omega)
       have h5 : (l0 + 1) * 64 ^ j ≤ 128 * 64 ^ 3 := Nat.mul_le_mul (by omega) h4
       have h6 : 128 * 64 ^ 3 = 33554432 := by decide
       have := hB1.out
       omega
      have hAB : A ≤ B := by
       have h1 := hA.out
       have h2 := hB.out
       have h3 : 1 ≤ 64 ^ (j - i) := Nat.pos_of_ne_zero (by simp)
       rw [Nat.add_mul, Nat.one_mul] at h2
       omega
      have hAi : (A : Int) < 33554432 := by omega
      have hBi : (B : Int) < 33554432 := by omega
      have hA64 : A * 64 < 33554432 := by omega
      clear hlt hAB
      go_wp2
      go_roundw
      case rel => exact ⟨j + 1, A * 64, B * 64 + 63, by omega, by omega, hA1, hB1, hA64, hBb, by simp, by simp, by simp, by first | trivial | rfl⟩
      case measure => simp [intOf]; omega
     ·obtain rfl : j = 2 := by omega
      go_wp2
      refine bodyPost_ret (v := .tuple #[.int .i64 2, .int .i64 (A : Int), .int .i64 (B : Int)]) (by simp [results, Tryd.results86, go_sem]; try decide) rfl ⟨?_, rfl⟩
      have e1 : loB x t = A := by unfold loB; rw [hS'.out, ← hl0'.out, ← hL.out, hA.out, hn'.out]
      have e2 : hiB5u x t = B := by unfold hiB5u; rw [hS'.out, ← hl0'.out, ← hL.out, ← hn'.out, ← hB.out]; omega
      rw [hyes.out, e1, e2, hS'.out]
      rfl
 ·have i0 : ¬ ((x : Int) < 128) := by omega
  have i1 : ((192 : Int) ≤ (x : Int)) := by omega
  have i2 : ¬ ((x : Int) < 224) := by omega
  have i3 : ((224 : Int) ≤ (x : Int)) := by omega
  have i4 : ((x : Int) < 240) := by omega
  have i5 : ¬ ((240 : Int) ≤ (x : Int)) := by omega
  have i6 : ((x : Int) < 248) := by omega
  obtain ⟨l0, hl0⟩ : ∃ l0 : Nat, l0 = leadB x := ⟨_, rfl⟩
  have hl0i : (x : Int) - 224 = (l0 : Int) := by omega
  have hS' := hid hS
  have hl0' := hid hl0
  have hx' := hid hx
  clear h1 h2 hS hL hx hl0
  go_enter Tryd.func86, Tryd.ntmps86
  go_wp2
  clear i0 i1 i2 i3 i4 i5 i6
  go_loopw [7, 8] (fun lo ii wr => ∃ (i L : Nat), 1 ≤ i ∧ i ≤ n ∧ i ≤ 3 ∧ Hid (L = accB l0 (t.take (i - 1))) ∧ Hid (okC (t.take (i - 1))) ∧ L < 33554432 ∧ lo = .int .i64 (L : Int) ∧ ii = .int .i64 (i : Int) ∧ w = wr) (fun _ ii _ => n - (intOf ii).toNat)
  case atStart =>
   refine ⟨1, l0, by omega, by omega, by omega, hid rfl, hid (fun y hy => by cases hy), ?_, rfl, rfl, rfl⟩
   have := leadB_le hx'.out
   have := hl0'.out
   omega
  case round =>
   obtain ⟨i, L, hi1, hin, hik, hL, hok, hLs, rfl, rfl, hwr⟩ := hrel
   subst hwr
   by_cases hlt : i < n
   ·have hli : (i : Int) < (n : Int) := by omega
    obtain ⟨y, hy⟩ : ∃ y, t[i - 1]? = some y := ⟨_, List.getElem?_eq_getElem (by have := hn'.out; omega)⟩
    have hcy := hct'.out _ _ hy
    rw [show i - 1 + 1 = i by omega] at hcy
    obtain ⟨hcy, hy256⟩ := hcy
    have hy' := hid hy
    have ht1 := hid (show t.take i = t.take (i - 1) ++ [y] by
     have := List.take_add_one (l := t) (i := i - 1)
     rw [hy, show i - 1 + 1 = i by omega] at this
     exact this)
    clear hy
    by_cases hki : i < 3
    ·have hkii : (i : Int) < 3 := by omega
     by_cases hy1 : y < 128
     ·have hno := hid (spanV_neg (x := x) (t := t) (fun h => by have := h.1 y (List.mem_of_getElem? hy'.out); omega))
      have hyi : (y : Int) < 128 := by omega
      go_wp2
      refine bodyPost_ret (v := .tuple #[.int .i64 0, .int .i64 1, .int .i64 0]) (by simp [results, Tryd.results86, go_sem]; try decide) rfl ⟨?_, rfl⟩
      rw [hno.out]
     ·have hyi : ¬ (y : Int) < 128 := by omega
      by_cases hy2 : 192 ≤ y
      ·have hno := hid (spanV_neg (x := x) (t := t) (fun h => by have := h.1 y (List.mem_of_getElem? hy'.out); omega))
       have hyj : (192 : Int) ≤ (y : Int) := by omega
       go_wp2
       refine bodyPost_ret (v := .tuple #[.int .i64 0, .int .i64 1, .int .i64 0]) (by simp [results, Tryd.results86, go_sem]; try decide) rfl ⟨?_, rfl⟩
       rw [hno.out]
      ·have hyj : ¬ (192 : Int) ≤ (y : Int) := by omega
       obtain ⟨M, hM⟩ : ∃ M : Nat, M = L * 64 + (y - 128) := ⟨_, rfl⟩
       have hMi := hid (show (L : Int) * 64 + (y : Int) - 128 = (M : Int) by omega)
       have hMa := hid (show M = accB l0 (t.take (i + 1 - 1)) by rw [hM, hL.out, show i + 1 - 1 = i by omega, ht1.out, accB_snoc])
       have hMo := hid (show okC (t.take (i + 1 - 1)) by rw [show i + 1 - 1 = i by omega, ht1.out]; exact okC_snoc hok.out (by omega) (by omega))
       have hMs : M < 33554432 := by
        rw [hMa.out, hl0'.out]
        refine accB_small hx'.out hMo.out ?_
        rw [List.length_take]; omega
       have hMs2 := hid hMs
       have hLs2 := hid hLs
       clear hM hlt hki hy1 hy2 hMs hLs
       go_wp2
       go_roundw
       case rel => exact ⟨i + 1, M, by omega, by omega, by omega, hMa, hMo, hMs2.out, by congr 1; have := hMi.out; have := hLs2.out; unfold wrap64; omega, by simp, by first | trivial | rfl⟩
       case measure => simp [intOf]; omega
    ·have hkii : ¬ (i : Int) < 3 := by omega
     have hge : (3 : Int) ≤ (i : Int) := by omega
     have hno := hid (spanV_neg (x := x) (t := t) (fun h => by have := h.2; have := hn'.out; have := hS'.out; omega))
     go_wp2
     refine bodyPost_ret (v := .tuple #[.int .i64 0, .int .i64 1, .int .i64 0]) (by simp [results, Tryd.results86, go_sem]; try decide) rfl ⟨?_, rfl⟩
     rw [hno.out]
   ·obtain rfl : i = n := by omega
    have hall : t.take (i - 1) = t := List.take_of_length_le (by have := hn'.out; omega)
    rw [hall] at hL hok
    have hyes := hid (spanV_pos (x := x) (t := t) ⟨hok.out, by have := hn'.out; have := hS'.out; omega⟩)
    have hLs' := hid hLs
    have hn2 := hid hik
    clear hall hlt hLs
    go_wp2
    go_loopw [7, 10, 11] (fun lo hi jj wr => ∃ (j A B : Nat), i ≤ j ∧ j ≤ 3 ∧ Hid (A = L * 64 ^ (j - i)) ∧ Hid (B + 1 = (L + 1) * 64 ^ (j - i)) ∧ A < 33554432 ∧ B < 33554432 ∧ lo = .int .i64 (A : Int) ∧ hi = .int .i64 (B : Int) ∧ jj = .int .i64 (j : Int) ∧ w = wr) (fun _ _ jj _ => 3 - (intOf jj).toNat)
    case atStart => exact ⟨i, L, L, Nat.le_refl _, hn2.out, hid (by rw [Nat.sub_self, Nat.pow_zero, Nat.mul_one]), hid (by rw [Nat.sub_self, Nat.pow_zero, Nat.mul_one]), hLs'.out, hLs'.out, rfl, rfl, rfl, rfl⟩
    case round =>
     obtain ⟨j, A, B, hij, hjk, hA, hB, hAs, hBs, rfl, rfl, rfl, hwr⟩ := hrel
     subst hwr
     by_cases hlt : j < 3
     ·have hli : (j : Int) < 3 := by omega
      have hA1 := hid (show A * 64 = L * 64 ^ (j + 1 - i) by rw [hA.out, show j + 1 - i = (j - i) + 1 by omega, Nat.pow_succ, Nat.mul_assoc])
      have hB1 := hid (show B * 64 + 63 + 1 = (L + 1) * 64 ^ (j + 1 - i) by rw [show B * 64 + 63 + 1 = (B + 1) * 64 by omega, hB.out, show j + 1 - i = (j - i) + 1 by omega, Nat.pow_succ, Nat.mul_assoc])
      have hBb : B * 64 + 63 < 33554432 := by
       have h1 := accB_lt t (leadB x) hok.out
       rw [← hl0'.out, ← hL.out, show t.length = i - 1 by have := hn'.out; omega] at h1
       have h2 := leadB_le hx'.out
       rw [← hl0'.out] at h2
       have h3 : (L + 1) * 64 ^ (j + 1 - i) ≤ ((l0 + 1) * 64 ^ (i - 1)) * 64 ^ (j + 1 - i) := Nat.mul_le_mul_right _ h1
       rw [Nat.mul_assoc, ← Nat.pow_add, show i - 1 + (j + 1 - i) = j by omega] at h3
       have h4 : 64 ^ j ≤ 64 ^ 3 := Nat.pow_le_pow_right (by decide) (by omega)
       have h5 : (l0 + 1) * 64 ^ j ≤ 128 * 64 ^ 3 := Nat.mul_le_mul (by omega) h4
       have h6 : 128 * 64 ^ 3 = 33554432 := by decide
       have := hB1.out
       omega
      have hAB : A ≤ B := by
       have h1 := hA.out
       have h2 := hB.out
       have h3 : 1 ≤ 64 ^ (j - i) := Nat.pos_of_ne_zero (by simp)
       rw [Nat.add_mul, Nat.one_mul] at h2
       omega
      have hAi : (A : Int) < 33554432 := by omega
      have hBi : (B : Int) < 33554432 := by omega
      have hA64 : A * 64 < 33554432 := by omega
      clear hlt hAB
      go_wp2
      go_roundw
      case rel => exact ⟨j + 1, A * 64, B * 64 + 63, by omega, by omega, hA1, hB1, hA64, hBb, by simp, by simp, by simp, by first | trivial | rfl⟩
      case measure => simp [intOf]; omega
     ·obtain rfl : j = 3 := by omega
      go_wp2
      refine bodyPost_ret (v := .tuple #[.int .i64 3, .int .i64 (A : Int), .int .i64 (B : Int)]) (by simp [results, Tryd.results86, go_sem]; try decide) rfl ⟨?_, rfl⟩
      have e1 : loB x t = A := by unfold loB; rw [hS'.out, ← hl0'.out, ← hL.out, hA.out, hn'.out]
      have e2 : hiB5u x t = B := by unfold hiB5u; rw [hS'.out, ← hl0'.out, ← hL.out, ← hn'.out, ← hB.out]; omega
      rw [hyes.out, e1, e2, hS'.out]
      rfl
 ·have i0 : ¬ ((x : Int) < 128) := by omega
  have i1 : ((192 : Int) ≤ (x : Int)) := by omega
  have i2 : ¬ ((x : Int) < 224) := by omega
  have i3 : ((224 : Int) ≤ (x : Int)) := by omega
  have i4 : ¬ ((x : Int) < 240) := by omega
  have i5 : ((240 : Int) ≤ (x : Int)) := by omega
  have i6 : ((x : Int) < 248) := by omega
  obtain ⟨l0, hl0⟩ : ∃ l0 : Nat, l0 = leadB x := ⟨_, rfl⟩
  have hl0i : (x : Int) - 240 = (l0 : Int) := by omega
  have hS' := hid hS
  have hl0' := hid hl0
  have hx' := hid hx
  clear h1 h2 hS hL hx hl0
  go_enter Tryd.func86, Tryd.ntmps86
  go_wp2
  clear i0 i1 i2 i3 i4 i5 i6
  go_loopw [7, 8] (fun lo ii wr => ∃ (i L : Nat), 1 ≤ i ∧ i ≤ n ∧ i ≤ 4 ∧ Hid (L = accB l0 (t.take (i - 1))) ∧ Hid (okC (t.take (i - 1))) ∧ L < 33554432 ∧ lo = .int .i64 (L : Int) ∧ ii = .int .i64 (i : Int) ∧ w = wr) (fun _ ii _ => n - (intOf ii).toNat)
  case atStart =>
   refine ⟨1, l0, by omega, by omega, by omega, hid rfl, hid (fun y hy => by cases hy), ?_, rfl, rfl, rfl⟩
   have := leadB_le hx'.out
   have := hl0'.out
   omega
  case round =>
   obtain ⟨i, L, hi1, hin, hik, hL, hok, hLs, rfl, rfl, hwr⟩ := hrel
   subst hwr
   by_cases hlt : i < n
   ·have hli : (i : Int) < (n : Int) := by omega
    obtain ⟨y, hy⟩ : ∃ y, t[i - 1]? = some y := ⟨_, List.getElem?_eq_getElem (by have := hn'.out; omega)⟩
    have hcy := hct'.out _ _ hy
    rw [show i - 1 + 1 = i by omega] at hcy
    obtain ⟨hcy, hy256⟩ := hcy
    have hy' := hid hy
    have ht1 := hid (show t.take i = t.take (i - 1) ++ [y] by
     have := List.take_add_one (l := t) (i := i - 1)
     rw [hy, show i - 1 + 1 = i by omega] at this
     exact this)
    clear hy
    by_cases hki : i < 4
    ·have hkii : (i : Int) < 4 := by omega
     by_cases hy1 : y < 128
     ·have hno := hid (spanV_neg (x := x) (t := t) (fun h => by have := h.1 y (List.mem_of_getElem? hy'.out); omega))
      have hyi : (y : Int) < 128 := by omega
      go_wp2
      refine bodyPost_ret (v := .tuple #[.int .i64 0, .int .i64 1, .int .i64 0]) (by simp [results, Tryd.results86, go_sem]; try decide) rfl ⟨?_, rfl⟩
      rw [hno.out]
     ·have hyi : ¬ (y : Int) < 128 := by omega
      by_cases hy2 : 192 ≤ y
      ·have hno := hid (spanV_neg (x := x) (t := t) (fun h => by have := h.1 y (List.mem_of_getElem? hy'.out); omega))
       have hyj : (192 : Int) ≤ (y : Int) := by omega
       go_wp2
       refine bodyPost_ret (v := .tuple #[.int .i64 0, .int .i64 1, .int .i64 0]) (by simp [results, Tryd.results86, go_sem]; try decide) rfl ⟨?_, rfl⟩
       rw [hno.out]
      ·have hyj : ¬ (192 : Int) ≤ (y : Int) := by omega
       obtain ⟨M, hM⟩ : ∃ M : Nat, M = L * 64 + (y - 128) := ⟨_, rfl⟩
       have hMi := hid (show (L : Int) * 64 + (y : Int) - 128 = (M : Int) by omega)
       have hMa := hid (show M = accB l0 (t.take (i + 1 - 1)) by rw [hM, hL.out, show i + 1 - 1 = i by omega, ht1.out, accB_snoc])
       have hMo := hid (show okC (t.take (i + 1 - 1)) by rw [show i + 1 - 1 = i by omega, ht1.out]; exact okC_snoc hok.out (by omega) (by omega))
       have hMs : M < 33554432 := by
        rw [hMa.out, hl0'.out]
        refine accB_small hx'.out hMo.out ?_
        rw [List.length_take]; omega
       have hMs2 := hid hMs
       have hLs2 := hid hLs
       clear hM hlt hki hy1 hy2 hMs hLs
       go_wp2
       go_roundw
       case rel => exact ⟨i + 1, M, by omega, by omega, by omega, hMa, hMo, hMs2.out, by congr 1; have := hMi.out; have := hLs2.out; unfold wrap64; omega, by simp, by first | trivial | rfl⟩
       case measure => simp [intOf]; omega
    ·have hkii : ¬ (i : Int) < 4 := by omega
     have hge : (4 : Int) ≤ (i : Int) := by omega
     have hno := hid (spanV_neg (x := x) (t := t) (fun h => by have := h.2; have := hn'.out; have := hS'.out; omega))
     go_wp2
     refine bodyPost_ret (v := .tuple #[.int .i64 0, .int .i64 1, .int .i64 0]) (by simp [results, Tryd.results86, go_sem]; try decide) rfl ⟨?_, rfl⟩
     rw [hno.out]
   ·obtain rfl : i = n := by omega
    have hall : t.take (i - 1) = t := List.take_of_length_le (by have := hn'.out; omega)
    rw [hall] at hL hok
    have hyes := hid (spanV_pos (x := x) (t := t) ⟨hok.out, by have := hn'.out; have := hS'.out; omega⟩)
    have hLs' := hid hLs
    have hn2 := hid hik
    clear hall hlt hLs
    go_wp2
    go_loopw [7, 10, 11] (fun lo hi jj wr => ∃ (j A B : Nat), i ≤ j ∧ j ≤ 4 ∧ Hid (A = L * 64 ^ (j - i)) ∧ Hid (B + 1 = (L + 1) * 64 ^ (j - i)) ∧ A < 33554432 ∧ B < 33554432 ∧ lo = .int .i64 (A : Int) ∧ hi = .int .i64 (B : Int) ∧ jj = .int .i64 (j : Int) ∧ w = wr) (fun _ _ jj _ => 4 - (intOf jj).toNat)
    case atStart => exact ⟨i, L, L, Nat.le_refl _, hn2.out, hid (by rw [Nat.sub_self, Nat.pow_zero, Nat.mul_one]), hid (by rw [Nat.sub_self, Nat.pow_zero, Nat.mul_one]), hLs'.out, hLs'.out, rfl, rfl, rfl, rfl⟩
    case round =>
     obtain ⟨j, A, B, hij, hjk, hA, hB, hAs, hBs, rfl, rfl, rfl, hwr⟩ := hrel
     subst hwr
     by_cases hlt : j < 4
     ·have hli : (j : Int) < 4 := by omega
      have hA1 := hid (show A * 64 = L * 64 ^ (j + 1 - i) by rw [hA.out, show j + 1 - i = (j - i) + 1 by omega, Nat.pow_succ, Nat.mul_assoc])
      have hB1 := hid (show B * 64 + 63 + 1 = (L + 1) * 64 ^ (j + 1 - i) by rw [show B * 64 + 63 + 1 = (B + 1) * 64 by omega, hB.out, show j + 1 - i = (j - i) + 1 by omega, Nat.pow_succ, Nat.mul_assoc])
      have hBb : B * 64 + 63 < 33554432 := by
       have h1 := accB_lt t (leadB x) hok.out
       rw [← hl0'.out, ← hL.out, show t.length = i - 1 by have := hn'.out; omega] at h1
       have h2 := leadB_le hx'.out
       rw [← hl0'.out] at h2
       have h3 : (L + 1) * 64 ^ (j + 1 - i) ≤ ((l0 + 1) * 64 ^ (i - 1)) * 64 ^ (j + 1 - i) := Nat.mul_le_mul_right _ h1
       rw [Nat.mul_assoc, ← Nat.pow_add, show i - 1 + (j + 1 - i) = j by omega] at h3
       have h4 : 64 ^ j ≤ 64 ^ 3 := Nat.pow_le_pow_right (by decide) (by omega)
       have h5 : (l0 + 1) * 64 ^ j ≤ 128 * 64 ^ 3 := Nat.mul_le_mul (by omega) h4
       have h6 : 128 * 64 ^ 3 = 33554432 := by decide
       have := hB1.out
       omega
      have hAB : A ≤ B := by
       have h1 := hA.out
       have h2 := hB.out
       have h3 : 1 ≤ 64 ^ (j - i) := Nat.pos_of_ne_zero (by simp)
       rw [Nat.add_mul, Nat.one_mul] at h2
       omega
      have hAi : (A : Int) < 33554432 := by omega
      have hBi : (B : Int) < 33554432 := by omega
      have hA64 : A * 64 < 33554432 := by omega
      clear hlt hAB
      go_wp2
      go_roundw
      case rel => exact ⟨j + 1, A * 64, B * 64 + 63, by omega, by omega, hA1, hB1, hA64, hBb, by simp, by simp, by simp, by first | trivial | rfl⟩
      case measure => simp [intOf]; omega
     ·obtain rfl : j = 4 := by omega
      go_wp2
      refine bodyPost_ret (v := .tuple #[.int .i64 4, .int .i64 (A : Int), .int .i64 (B : Int)]) (by simp [results, Tryd.results86, go_sem]; try decide) rfl ⟨?_, rfl⟩
      have e1 : loB x t = A := by unfold loB; rw [hS'.out, ← hl0'.out, ← hL.out, hA.out, hn'.out]
      have e2 : hiB5u x t = B := by unfold hiB5u; rw [hS'.out, ← hl0'.out, ← hL.out, ← hn'.out, ← hB.out]; omega
      rw [hyes.out, e1, e2, hS'.out]
      rfl
 ·have i0 : ¬ ((x : Int) < 128) := by omega
  have i1 : ((192 : Int) ≤ (x : Int)) := by omega
  have i2 : ¬ ((x : Int) < 224) := by omega
  have i3 : ((224 : Int) ≤ (x : Int)) := by omega
  have i4 : ¬ ((x : Int) < 240) := by omega
  have i5 : ((240 : Int) ≤ (x : Int)) := by omega
  have i6 : ¬ ((x : Int) < 248) := by omega
  have hno := hid (spanV_neg (x := x) (t := t) (fun h => by have := h.2; omega))
  clear h1 hS hx
  go_enter Tryd.func86, Tryd.ntmps86
  go_wp2
  refine bodyPost_ret (v := .tuple #[.int .i64 0, .int .i64 1, .int .i64 0]) (by simp [results, Tryd.results86, go_sem]; try decide) rfl ⟨?_, rfl⟩
  rw [hno.out]
end Go.Proofs.YtbabdhepnjacdaaDoor
