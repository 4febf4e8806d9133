/-
 What quarryref05.Begins answers.
-/
import Derived.Test.YtbabdhepnjacdaaDoorUtf8Span
namespace Go.Proofs.YtbabdhepnjacdaaDoor
open Go.RowKit
/-- What Begins answers: whether some character begins so; if so, one that does, and whether the bytes are the whole of it. -/
def BegV (S : Prop) (lo hi n z : Nat) (e : Ending) : Prop := ∃ (ok : Bool) (r : Int) (al : Bool), e = .returned (.tuple #[.bool ok, .int .i32 r, .bool al]) ∧ (ok = true ↔ S) ∧ (ok = true → ∃ c : Nat, r = (c : Int) ∧ lo ≤ c ∧ c ≤ hi) ∧ (ok = true → al = decide (n = z))
theorem sizeZ_nat (c : Nat) : sizeZ (c : Int) = sizeN c := by unfold sizeZ; rw [if_neg (by omega)]; rfl
theorem hiB_small {x : Nat} {t : List Nat} (hx : x < 256) (h : SpanOk x t) : hiB5u x t < 33554432 := by
 have h1 := accB_lt t (leadB x) h.1
 have h2 := leadB_le hx
 have hs : sizeB x ≤ 4 := by have := sizeB_cases x hx; omega
 have h0 := h.2
 have h3 : (accB (leadB x) t + 1) * 64 ^ (sizeB x - (t.length + 1)) ≤ ((leadB x + 1) * 64 ^ t.length) * 64 ^ (sizeB x - (t.length + 1)) := Nat.mul_le_mul_right _ h1
 rw [Nat.mul_assoc, ← Nat.pow_add] at h3
 have h4 : 64 ^ (t.length + (sizeB x - (t.length + 1))) ≤ 64 ^ 3 := Nat.pow_le_pow_right (by decide) (by omega)
 have h5 : (leadB x + 1) * 64 ^ (t.length + (sizeB x - (t.length + 1))) ≤ 128 * 64 ^ 3 := Nat.mul_le_mul (by omega) h4
 have h6 : 128 * 64 ^ 3 = 33554432 := by decide
 have h7 : 0 < (accB (leadB x) t + 1) * 64 ^ (sizeB x - (t.length + 1)) := Nat.mul_pos (by omega) (Nat.pos_of_ne_zero (by simp))
 unfold hiB5u
 omega
theorem less_by {c hi : Nat} (h : c ≤ hi) : hi + 1 - ((c : Int) + 1).toNat < hi + 1 - (c : Int).toNat := by omega
set_option maxRecDepth 10000 in
set_option maxHeartbeats 2000000 in
theorem begins_calls (x : Nat) (t : List Nat) (hx : x < 256) (hlen : t.length ≤ 3) (g cap : Nat) (w : World) (hc0 : w.cell? ⟨g, 0, none⟩ = some (.int .u8 (x : Int))) (hct : ∀ (i y : Nat), t[i]? = some y → w.cell? ⟨g, i + 1, none⟩ = some (.int .u8 (y : Int)) ∧ y < 256) :
  Calls Tryd.prog 85 #[.slice (some ⟨g, 0, none⟩) (t.length + 1) cap] w fun e w' => BegV (SomeB x t) (loB x t) (hiB5u x t) (t.length + 1) (sizeB x) e ∧ w' = w := by
 have hsp := hid (span_calls x t hx hlen g cap w hc0 hct)
 clear hc0 hct
 by_cases hS : SpanOk x t
 ·rw [spanV_pos hS] at hsp
  have hb := hiB_small hx hS
  have hz0 : 0 < sizeB x := by have := hS.2; omega
  obtain ⟨n, hn⟩ : ∃ n : Nat, n = t.length + 1 := ⟨_, rfl⟩
  obtain ⟨z, hz⟩ : ∃ z : Nat, z = sizeB x := ⟨_, rfl⟩
  obtain ⟨lo, hlo⟩ : ∃ lo : Nat, lo = loB x t := ⟨_, rfl⟩
  obtain ⟨hi, hhi⟩ : ∃ hi : Nat, hi = hiB5u x t := ⟨_, rfl⟩
  have hS' := hid hS
  have key : SomeB x t ↔ ∃ c, lo ≤ c ∧ c ≤ hi ∧ sizeN c = z := by
   rw [hlo, hhi, hz]
   exact ⟨fun h => h.2, fun h => ⟨hS, h⟩⟩
  rw [← hn, ← hz, ← hlo, ← hhi] at hsp ⊢
  rw [key]
  rw [← hz] at hz0
  rw [← hhi] at hb
  clear hz hlo hhi key hS hx hlen
  have hn' := hid hn
  clear hn
  go_enter Tryd.func85, Tryd.ntmps85
  go_wp2_with fail
  refine Calls.mono hsp.out ?_
  rintro e w1 ⟨rfl, hw1⟩
  rw [hw1]
  clear hw1 hsp
  go_wp2
  go_loopw [8] (fun cc wr => ∃ c : Nat, lo ≤ c ∧ cc = .int .i64 (c : Int) ∧ Hid (∀ d, lo ≤ d → d < c → sizeN d ≠ z) ∧ w = wr) (fun cc _ => hi + 1 - (intOf cc).toNat)
  case atStart => exact ⟨lo, Nat.le_refl _, rfl, hid (fun d h1 h2 => by omega), rfl⟩
  case round =>
   obtain ⟨c, hc, rfl, hno, hwr⟩ := hrel
   subst hwr
   by_cases hle : c ≤ hi
   ·have hlei : (c : Int) ≤ (hi : Int) := by omega
    have hci : (c : Int) < 2147483648 := by omega
    have hcw : (c : Int) % 4294967296 = (c : Int) := by omega
    have hsc := hid (refSize_calls (c : Int) w)
    rw [sizeZ_nat] at hsc
    go_wp2_with fail
    refine Calls.mono hsc.out ?_
    rintro e w1 ⟨rfl, hw1⟩
    rw [hw1]
    clear hw1 hsc
    by_cases heq : sizeN c = z
    ·have heqi : (sizeN c : Int) = (z : Int) := by omega
     have hfin := hid (show ∃ d, lo ≤ d ∧ d ≤ hi ∧ sizeN d = z from ⟨c, hc, hle, heq⟩)
     clear heq
     go_wp2
     refine bodyPost_ret (v := .tuple #[.bool true, .int .i32 (c : Int), .bool ((n : Int) == (z : Int))]) (by simp [results, Tryd.results85, go_sem]; try decide) rfl ⟨⟨true, (c : Int), _, rfl, ⟨fun _ => hfin.out, fun _ => rfl⟩, fun _ => ⟨c, rfl, hc, hle⟩, fun _ => ?_⟩, rfl⟩
     rw [Bool.eq_iff_iff]
     simp
     omega
    ·have heqi : ¬ ((sizeN c : Int) = (z : Int)) := by omega
     have hno1 := hid (show ∀ d, lo ≤ d → d < c + 1 → sizeN d ≠ z from fun d h1 h2 => by
      by_cases e : d = c
      ·subst e; exact heq
      ·exact hno.out d h1 (by omega))
     by_cases h1 : c = 55296
     ·subst h1
      by_cases h2 : 57343 < hi
      ·have h2i : (57343 : Int) < (hi : Int) := by omega
       have hno2 := hid (show ∀ d, lo ≤ d → d < 57344 → sizeN d ≠ z from fun d h1 h2 => by
        by_cases e : d < 55297
        ·exact hno1.out d h1 e
        ·have e0 : sizeN d = 0 := by unfold sizeN; rw [if_pos (.inl ⟨by omega, by omega⟩)]
         omega)
       clear heq hcw hci
       go_wp2
       go_roundw
       case rel => exact ⟨57344, by omega, by simp, hno2, by first | trivial | rfl⟩
       case measure => simp [intOf]; omega
      ·have h2i : ¬ (57343 : Int) < (hi : Int) := by omega
       clear heq hcw hci
       go_wp2
       go_roundw
       case rel => exact ⟨55297, by omega, by simp, hno1, by first | trivial | rfl⟩
       case measure => simp [intOf]; omega
     ·have h1i : ¬ ((c : Int) = 55296) := by omega
      have hwc : wrap64 ((c : Int) + 1) = (c : Int) + 1 := by unfold wrap64; omega
      have hle2 := hid hle
      have hb' := hid hb
      clear heq h1 hcw hci hb
      go_wp2
      go_roundw
      case rel => exact ⟨c + 1, by omega, by rw [hwc]; rfl, hno1, by first | trivial | rfl⟩
      case measure => rw [hwc]; exact less_by hle2.out
   ·have hlei : ¬ (c : Int) ≤ (hi : Int) := by omega
    have hnone := hid (show ¬ ∃ d, lo ≤ d ∧ d ≤ hi ∧ sizeN d = z from fun ⟨d, h1, h2, h3⟩ => hno.out d h1 (by omega) h3)
    go_wp2
    refine bodyPost_ret (v := .tuple #[.bool false, .int .i32 0, .bool false]) (by simp [results, Tryd.results85, go_sem]; try decide) rfl ⟨⟨false, 0, false, rfl, ⟨fun h => (by cases h), fun h => absurd h hnone.out⟩, fun h => (by cases h), fun h => (by cases h)⟩, rfl⟩
 ·rw [spanV_neg hS] at hsp
  have hS' := hid hS
  clear hS hx hlen
  obtain ⟨n, hn⟩ : ∃ n : Nat, n = t.length + 1 := ⟨_, rfl⟩
  rw [← hn] at hsp ⊢
  clear hn
  go_enter Tryd.func85, Tryd.ntmps85
  go_wp2_with fail
  refine Calls.mono hsp.out ?_
  rintro e w1 ⟨rfl, hw1⟩
  rw [hw1]
  clear hw1 hsp
  go_wp2
  go_loopw [8] (fun cc wr => cc = .int .i64 1 ∧ w = wr) (fun _ _ => 0)
  case atStart => exact ⟨rfl, rfl⟩
  case round =>
   obtain ⟨rfl, hwr⟩ := hrel
   subst hwr
   go_wp2
   refine bodyPost_ret (v := .tuple #[.bool false, .int .i32 0, .bool false]) (by simp [results, Tryd.results85, go_sem]; try decide) rfl ⟨⟨false, 0, false, rfl, ⟨fun h => (by cases h), fun h => absurd h.1 hS'.out⟩, fun h => (by cases h), fun h => (by cases h)⟩, rfl⟩
end Go.Proofs.YtbabdhepnjacdaaDoor
