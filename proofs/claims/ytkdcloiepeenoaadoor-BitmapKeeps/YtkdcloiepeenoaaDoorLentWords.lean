/-
  What quarrykit.LentWords and quarrykit.KeptWords answer.
-/
import Derived.Test.YtkdcloiepeenoaaDoorBitsB
import Derived.Laws.AppendOwn
namespace Go.Proofs.YtkdcloiepeenoaaDoor
open Go.RowKit

/-- The numbers, and the marks behind their end. -/
def zmW (k : Nat) (Z : Nat → Int) (j : Nat) : Int := if j < k then Z j else 8000024 + ((j - k : Nat) : Int)
/-- The first i of them, as cells. -/
def zlW (k : Nat) (Z : Nat → Int) (i : Nat) : List Value := (List.range i).map fun j => Value.int .u64 (zmW k Z j)
theorem zlW_len (k : Nat) (Z : Nat → Int) (i : Nat) : (zlW k Z i).length = i := by simp [zlW]
theorem zlW_succ (k : Nat) (Z : Nat → Int) (i : Nat) : zlW k Z i ++ [.int .u64 (zmW k Z i)] = zlW k Z (i + 1) := by simp [zlW, List.range_succ]
/-- A list that was lent: the numbers, with marks behind them, in a block of its own. -/
def LentW (w : World) (g c k : Nat) (Z : Nat → Int) : Prop := ∃ cur, At w g cur 39 ∧ cur.size = c ∧ k + 24 ≤ c ∧ c ≤ maxLen ∧ ∀ j, j < k + 24 → cur[j]? = some (.int .u64 (zmW k Z j))
theorem LentW.kept {w w' : World} {g c k : Nat} {Z : Nat → Int} (h : LentW w g c k Z) (hb : Below w.heap.size w w') : LentW w' g c k Z := by
  obtain ⟨cur, h1, h2⟩ := h
  exact ⟨cur, h1.keptAll hb, h2⟩
theorem LentW.cell {w : World} {g c k : Nat} {Z : Nat → Int} (h : LentW w g c k Z) {j : Nat} (hj : j < k + 24) : w.cell? ⟨g, j, none⟩ = some (.int .u64 (zmW k Z j)) := by
  obtain ⟨cur, h1, _, _, _, h2⟩ := h
  rw [h1.cell j, h2 j hj]
theorem LentW.lt {w : World} {g c k : Nat} {Z : Nat → Int} (h : LentW w g c k Z) : g < w.heap.size := by
  obtain ⟨cur, h1, _⟩ := h
  exact h1.lt
theorem markW_calls (t : Nat) (ht : t < 24) (w : World) : Calls Tryd.prog 56 #[.int .i64 1, .int .i64 (t : Int)] w fun e w' => e = .returned (.int .i64 (8000024 + (t : Int))) ∧ w' = w := by
  go_enter Tryd.func56, Tryd.ntmps56
  go_wp2
  go_ret
  exact ⟨rfl, rfl⟩
theorem infoLW : (Tryd.prog.info? 39).map (fun i => (i.zero, i.size, i.bytes)) = some (some (.int .u64 0), 1, 8) := by kernel_rfl

set_option maxRecDepth 10000 in
set_option maxHeartbeats 2000000 in
theorem lentW_calls (ao : Option Addr) (k cap : Nat) (Z : Nat → Int) (hk : k ≤ 17592186043904) (hmark : 0 ≤ k) (w : World)
    (hW : ∀ j, j < k → (Lit.int .u64 (Z j)).wf = true ∧ ∃ g off, ao = some ⟨g, off, none⟩ ∧ w.cell? ⟨g, off + j, none⟩ = some (.int .u64 (Z j))) :
    Calls Tryd.prog 31 #[.slice ao k cap] w fun e w' => ∃ g c, e = .returned (.slice (some ⟨g, 0, none⟩) k c) ∧ w.heap.size ≤ g ∧ LentW w' g c k Z ∧ Below w.heap.size w w' := by
  obtain ⟨i0, hi, hz0, hz1, hz2⟩ := info_parts infoLW
  go_enter Tryd.func31, Tryd.ntmps31
  go_wp2
  go_loopw [3, 4] (fun v ii wr => ∃ i : Nat, i ≤ k ∧ ii = .int .i64 (i : Int) ∧ wr.ownsRow w.heap.size 39 1 v i (zlW k Z i) ∧ Below w.heap.size w wr) (fun _ ii _ => k - (intOf ii).toNat)
  case atStart => exact ⟨0, Nat.zero_le _, rfl, World.ownsRow_nil _ _ _ _, Below.refl _ _⟩
  case round =>
    obtain ⟨i, hik, rfl, hown, hb⟩ := hrel
    have hsz := hb.size
    by_cases hlt : i < k
    · obtain ⟨hwf, g, off, rfl, hcell⟩ := hW i hlt
      have hg := cell_block hcell
      have d1 := (hb.cell (p := ⟨g, off + i, none⟩) hg).trans hcell
      obtain ⟨z, hz⟩ : ∃ z, Hid (Z i = z) := ⟨_, rfl⟩
      rw [hz.out] at d1 hwf
      have hzm : Hid (zmW k Z i = z) := by show _ = _; rw [zmW, if_pos hlt]; exact hz.out
      have hown' : Hid (wr.ownsRow w.heap.size 39 1 u3 i (zlW k Z i)) := hown
      clear hcell hown
      go_wp2_with (first
        | (at_builtin; refine wpList_append_own _ rfl _ _ 22 rfl w.heap.size 39 i0 (.int .u64 0) 1 8 Tryd.underlying22 hi hz0 hz1 hz2 rfl (by decide) _ _ _ rfl (World.ownsRow.alloc hown'.out _) ⟨wr.heap.size, 0, none⟩ 1 1 [.int .u64 z] rfl rfl (fun j u hj => by match j, hj with | 0, hj => simp at hj; subst hj; simp [Addr.add]) (fun u hu => by simp at hu; subst hu; rfl) (by unfold maxLen; omega) (by omega) (by simp; omega) ?_)
        | go_in)
      · intro v' w1 hown1 hgrow _
        have hb' : Below w.heap.size w w1 := (hb.alloc hsz _).grown hgrow (by simp; omega) (fun b e => (hown'.out.lt b e).1)
        rw [← hzm.out, zlW_succ] at hown1
        clear hgrow hown'
        go_wp2
        go_roundw
        case rel => exact ⟨i + 1, by omega, by simp, hown1, hb'⟩
        case measure => simp [intOf]; omega
    · obtain rfl : i = k := by omega
      go_wp2
      go_loopw [3, 5] (fun v ii wr => ∃ t : Nat, t ≤ 24 ∧ ii = .int .i64 (t : Int) ∧ wr.ownsRow w.heap.size 39 1 v (i + t) (zlW i Z (i + t)) ∧ Below w.heap.size w wr) (fun _ ii _ => 24 - (intOf ii).toNat)
      case atStart => exact ⟨0, by decide, rfl, hown, hb⟩
      case round =>
        obtain ⟨t, ht, rfl, hown, hb⟩ := hrel
        have hsz := hb.size
        by_cases hlt2 : t < 24
        · have hzm : Hid (zmW i Z (i + t) = 8000024 + (t : Int)) := by show _ = _; rw [zmW, if_neg (by omega), show i + t - i = t by omega]
          have hown' : Hid (wr.ownsRow w.heap.size 39 1 u3 (i + t) (zlW i Z (i + t))) := hown
          have hmk' : Hid _ := fun w => markW_calls t hlt2 w
          clear hown hW
          go_wp2_with (first
            | (go_at_call 56; refine (hmk'.out _).mono ?_; rintro e w' ⟨rfl, hw'⟩; obtain rfl := hw'.symm)
            | (at_builtin; refine wpList_append_own _ rfl _ _ 22 rfl w.heap.size 39 i0 (.int .u64 0) 1 8 Tryd.underlying22 hi hz0 hz1 hz2 rfl (by decide) _ _ _ rfl (World.ownsRow.alloc hown'.out _) ⟨wr.heap.size, 0, none⟩ 1 1 [.int .u64 (8000024 + (t : Int))] rfl rfl (fun j u hj => by match j, hj with | 0, hj => simp at hj; subst hj; simp [Addr.add]) (fun u hu => by simp at hu; subst hu; rfl) (by unfold maxLen; omega) (by omega) (by simp; omega) ?_)
            | go_in)
          · intro v' w1 hown1 hgrow _
            have hb' : Below w.heap.size w w1 := (hb.alloc hsz _).grown hgrow (by simp; omega) (fun b e => (hown'.out.lt b e).1)
            rw [← hzm.out, zlW_succ] at hown1
            clear hgrow hown'
            go_wp2
            go_roundw
            case rel => exact ⟨t + 1, by omega, by simp, hown1, hb'⟩
            case measure => simp [intOf]; omega
        · obtain rfl : t = 24 := by omega
          rcases hown.2 with ⟨_, h0⟩ | ⟨g, c, cur, rfl, hg, hcur, hc1, hc2, hc3, hc4⟩
          · omega
          · have hL : Hid (LentW wr g c i Z) := ⟨cur, hcur, by omega, hc1, hc2, fun j hj => by
              have : (cur.toList.take ((i + 24) * 1))[j]? = (zlW i Z (i + 24))[j]? := by rw [hc4]
              rw [List.getElem?_take, if_pos (by omega)] at this
              simp only [Array.getElem?_toList] at this
              rw [this]; simp [zlW, hj]⟩
            clear hown hcur hc4 hc3 hW
            go_wp2
            go_ret
            exact ⟨g, c, rfl, hg, hL.out, hb⟩

set_option maxRecDepth 10000 in
set_option maxHeartbeats 2000000 in
theorem keptW_calls (ao : Option Addr) (k cap g c : Nat) (Z : Nat → Int) (hk : k ≤ 17592186043904) (w : World) (hL : LentW w g c k Z)
    (hW : ∀ j, j < k → (Lit.int .u64 (Z j)).wf = true ∧ ∃ g off, ao = some ⟨g, off, none⟩ ∧ w.cell? ⟨g, off + j, none⟩ = some (.int .u64 (Z j))) :
    Calls Tryd.prog 42 #[.slice (some ⟨g, 0, none⟩) k c, .slice ao k cap] w fun e w' => e = .returned (.bool true) ∧ Below w.heap.size w w' := by
  have hkc : k + 24 ≤ c := by obtain ⟨cur, _, _, h, _⟩ := hL; exact h
  have hcm : c ≤ 9223372036854775807 := by obtain ⟨cur, _, _, _, h, _⟩ := hL; unfold maxLen at h; omega
  go_enter Tryd.func42, Tryd.ntmps42
  go_wp2
  go_loopw [6] (fun ii wr => ∃ i : Nat, i ≤ k + 24 ∧ ii = .int .i64 (i : Int) ∧ ∃ nn, wr = w.drewN nn) (fun ii _ => k + 24 - (intOf ii).toNat)
  case atStart => exact ⟨0, Nat.zero_le _, rfl, 0, rfl⟩
  case round =>
    obtain ⟨i, hi, rfl, nn, rfl⟩ := hrel
    by_cases hlt : i < k + 24
    · have d0 := hL.cell hlt
      have hL' : Hid _ := hL
      clear hL
      by_cases hik : i < k
      · obtain ⟨_, g', off, rfl, hcell⟩ := hW i hik
        obtain ⟨z, hz⟩ : ∃ z, Hid (Z i = z) := ⟨_, rfl⟩
        rw [zmW, if_pos hik, hz.out] at d0
        rw [hz.out] at hcell
        have e1 : decide ((i : Int) < (k : Int)) = true := by simp; omega
        have e2 : (z != z) = false := by simp
        have e3 : decide ((k : Int) ≤ (i : Int)) = false := by simp; omega
        have e5 : decide (k ≤ i) = false := by simp; omega
        have hW' : Hid _ := hW
        clear hW
        go_wp2
        go_quiet (fail)
        go_wp2
        go_roundw
        case rel => exact ⟨i + 1, by omega, by simp, nn + nq, by simp⟩
        case measure => simp [intOf]; omega
      · obtain ⟨t, ht⟩ : ∃ t, Hid (i - k = t) := ⟨_, rfl⟩
        rw [zmW, if_neg hik, ht.out] at d0
        have e1 : decide ((i : Int) < (k : Int)) = false := by simp; omega
        have e5 : decide (i < k) = false := by simp; omega
        have e3 : decide ((k : Int) ≤ (i : Int)) = true := by simp; omega
        have e6 : decide (k ≤ i) = true := by simp; omega
        have e4 : (i : Int) - (k : Int) = (t : Int) := by have := ht.out; omega
        have ht24 : t < 24 := by have := ht.out; omega
        have hmk' : Hid _ := fun w => markW_calls t ht24 w
        clear hW hik
        go_wp2
        go_quiet ((go_at_call 56; refine (hmk'.out _).mono ?_; rintro e w' ⟨rfl, rfl⟩; exact ⟨rfl, _, rfl⟩))
        go_wp2
        go_roundw
        case rel => exact ⟨i + 1, by omega, by simp, nn + nq, by simp⟩
        case measure => simp [intOf]; omega
    · obtain rfl : i = k + 24 := by omega
      clear hL hW
      go_wp2
      go_ret
      exact ⟨rfl, below_drewN (Below.refl _ _) _⟩
end Go.Proofs.YtkdcloiepeenoaaDoor
