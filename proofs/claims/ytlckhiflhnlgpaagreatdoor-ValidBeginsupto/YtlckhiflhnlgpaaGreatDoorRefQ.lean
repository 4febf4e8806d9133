/-
  What quarryref07.Marks, Inside, Open and Control answer.
-/
import Derived.Test.YtlckhiflhnlgpaaGreatDoorQuoE
import Derived.Test.YtlckhiflhnlgpaaGreatDoorBoolRow
namespace Go.Proofs.YtlckhiflhnlgpaaGreatDoor
open Go.RowKit

theorem make_bools47 (K : Nat) (hK : K ≤ 140737488351232) (u : World) : (Instr.makeSlice 62 (.int .i64 (K : Int)) (.int .i64 (K : Int))).run Tryz.prog u =
    .ok (.slice (some ⟨u.heap.size, 0, none⟩) K K) (u.alloc (.cells (boolCells K (fun _ => false)) 4)) := by
  obtain ⟨i0, hi, hz0, hz1, hz2⟩ := info_parts infoB
  have h := run_make (P := Tryz.prog) u 62 4 i0 (.bool false) Tryz.underlying62 hi hz0 .i64 .i64 (K : Int) (K : Int) (by omega) (Int.le_refl _) (by rw [hz2]; omega) (by omega)
  rw [Int.toNat_natCast] at h
  rw [h, ← boolCells_zero]
  simp [hz1, Value.cells]

set_option maxRecDepth 10000 in
set_option maxHeartbeats 2000000 in
theorem marks7_calls (s : ByteArray) (hs : s.size ≤ 140737488351232) (w : World) :
    Calls Tryz.prog 70 #[.string s] w fun e w' => ∃ g, w.heap.size ≤ g ∧ e = .returned (.slice (some ⟨g, 0, none⟩) s.size s.size) ∧ At w' g (boolCells s.size (markS s)) 4 ∧ Below w.heap.size w w' := by
  have hmk := fun u => make_bools47 s.size hs u
  go_enter Tryz.func70, Tryz.ntmps70
  go_wp2
  go_loopw [4, 5] (fun ee ii wr => ∃ i : Nat, i ≤ s.size ∧ ii = .int .i64 (i : Int) ∧ ee = .bool (escS s i) ∧ At wr w.heap.size (boolCells s.size (fun j => if j < i then markS s j else false)) 4 ∧ Below w.heap.size w wr) (fun _ ii _ => s.size - (intOf ii).toNat)
  case atStart =>
    refine ⟨0, Nat.zero_le _, rfl, rfl, ?_, by repeat (first | with_reducible exact Below.refl _ _ | with_reducible refine Below.setCell ?_ (by first | (simp; done) | (simp; omega)) _ | with_reducible refine below_drewN ?_ _ | with_reducible refine Below.alloc ?_ (by first | (simp; done) | (simp; omega)) _ | with_reducible refine Below.drew ?_)⟩
    rw [show boolCells s.size (fun j => if j < 0 then markS s j else false) = boolCells s.size (fun _ => false) from boolCells_congr (fun j _ => by rw [if_neg (by omega)])]
    exact At.new w _ _
  case round =>
    obtain ⟨i, hi, rfl, rfl, hA, hb⟩ := hrel
    by_cases hlt : i < s.size
    · have hli : (i : Int) < (s.size : Int) := by omega
      obtain ⟨x, hxe⟩ : ∃ x, s[i].toNat = x := ⟨_, rfl⟩
      have h34 := quoB_at s i hlt
      have h92 := slash_at s i hlt
      rw [hxe] at h34 h92
      obtain ⟨c, hc⟩ : ∃ c, Hid (escS s i = c) := ⟨_, rfl⟩
      have hnx : Hid (escS s (i + 1) = (decide (x = 92) && !c)) := by show _ = _; rw [escS, escG_succ, h92]; rw [← hc.out]; rfl
      have hmk' : Hid (markS s i = (decide (x = 34) && !c)) := by show _ = _; rw [markS, h34, hc.out]
      rw [hc.out]
      have hcell := hA.cell i
      rw [boolCells_get _ hlt] at hcell
      have hfr := hA.frozen i
      have hA' := hid hA
      clear hmk h34 h92 hA
      have fin : Hid (∀ m, markS s i = m → At (wr.setCell ⟨w.heap.size, i, none⟩ (.bool m)) w.heap.size (boolCells s.size (fun j => if j < i + 1 then markS s j else false)) 4) := fun m hm => by
        have h := hA'.out.set i (.bool m)
        rw [boolCells_set] at h
        rw [show boolCells s.size (fun j => if j < i + 1 then markS s j else false) = boolCells s.size (fun j => if j = i then m else if j < i then markS s j else false) from boolCells_congr (fun j _ => by
          by_cases hj : j = i
          · rw [if_pos (by omega), if_pos hj, hj, hm]
          · rw [if_neg hj]
            by_cases hl : j < i
            · rw [if_pos (by omega), if_pos hl]
            · rw [if_neg (by omega), if_neg hl])]
        exact h
      clear hA'
      by_cases x34 : x = 34
      · subst x34
        go_wp2
        go_roundw
        case rel => exact ⟨i + 1, by omega, by simp, by rw [hnx.out]; simp, fin.out _ (by rw [hmk'.out]; simp), hb.setCell (p := ⟨w.heap.size, i, none⟩) (Nat.le_refl _) _⟩
        case measure => simp [intOf]; omega
      · have hx34 : ((x : Int) == 34) = false := by simp; omega
        by_cases x92 : x = 92
        · subst x92
          go_wp2
          go_roundw
          case rel => exact ⟨i + 1, by omega, by simp, by rw [hnx.out]; simp, fin.out _ (by rw [hmk'.out]; simp), hb.setCell (p := ⟨w.heap.size, i, none⟩) (Nat.le_refl _) _⟩
          case measure => simp [intOf]; omega
        · have hx92 : ((x : Int) == 92) = false := by simp; omega
          go_wp2
          go_roundw
          case rel => exact ⟨i + 1, by omega, by simp, by rw [hnx.out]; simp [x92], fin.out _ (by rw [hmk'.out]; simp [x34]), hb.setCell (p := ⟨w.heap.size, i, none⟩) (Nat.le_refl _) _⟩
          case measure => simp [intOf]; omega
    · obtain rfl : i = s.size := by omega
      have hA' := hid hA
      clear hmk hA
      go_wp2
      go_ret
      refine ⟨_, Nat.le_refl _, rfl, ?_, hb⟩
      rw [show boolCells s.size (markS s) = boolCells s.size (fun j => if j < s.size then markS s j else false) from boolCells_congr (fun j hj => by rw [if_pos hj])]
      exact hA'.out

set_option maxRecDepth 10000 in
set_option maxHeartbeats 2000000 in
theorem inside7_calls (s : ByteArray) (hs : s.size ≤ 140737488351232) (w : World) :
    Calls Tryz.prog 71 #[.string s] w fun e w' => ∃ g, w.heap.size ≤ g ∧ e = .returned (.slice (some ⟨g, 0, none⟩) s.size s.size) ∧ At w' g (boolCells s.size (inS s)) 4 ∧ Below w.heap.size w w' := by
  go_enter Tryz.func71, Tryz.ntmps71
  go_wp2_with fail
  refine Calls.mono (marks7_calls s hs w) ?_
  rintro e w1 ⟨g, hg, rfl, hA, hb⟩
  go_wp2
  go_loopw [4, 5] (fun ee ii wr => ∃ i : Nat, i ≤ s.size ∧ ii = .int .i64 (i : Int) ∧ ee = .bool (oddG (markS s) i) ∧ At wr g (boolCells s.size (fun j => if j < i then inS s j else markS s j)) 4 ∧ Below w.heap.size w wr) (fun _ ii _ => s.size - (intOf ii).toNat)
  case atStart =>
    refine ⟨0, Nat.zero_le _, rfl, rfl, ?_, hb⟩
    rw [show boolCells s.size (fun j => if j < 0 then inS s j else markS s j) = boolCells s.size (markS s) from boolCells_congr (fun j _ => by rw [if_neg (by omega)])]
    exact hA
  case round =>
    obtain ⟨i, hi, rfl, rfl, hAi, hbi⟩ := hrel
    clear hA hb
    by_cases hlt : i < s.size
    · have hli : (i : Int) < (s.size : Int) := by omega
      obtain ⟨c, hc⟩ : ∃ c, Hid (oddG (markS s) i = c) := ⟨_, rfl⟩
      obtain ⟨m, hm⟩ : ∃ m, Hid (markS s i = m) := ⟨_, rfl⟩
      have hnx : Hid (oddG (markS s) (i + 1) = (c ^^ m)) := by show _ = _; rw [oddG_succ, hc.out, hm.out]
      rw [hc.out]
      have hcell := hAi.cell i
      rw [boolCells_get _ hlt, if_neg (Nat.lt_irrefl _), hm.out] at hcell
      have hfr := hAi.frozen i
      have fin : Hid (∀ b, oddG (markS s) (i + 1) = b → At (wr.setCell ⟨g, i, none⟩ (.bool b)) g (boolCells s.size (fun j => if j < i + 1 then inS s j else markS s j)) 4) := fun b hb => by
        have h := hAi.set i (.bool b)
        rw [boolCells_set] at h
        rw [show boolCells s.size (fun j => if j < i + 1 then inS s j else markS s j) = boolCells s.size (fun j => if j = i then b else if j < i then inS s j else markS s j) from boolCells_congr (fun j _ => by
          by_cases hj : j = i
          · rw [if_pos (by omega), if_pos hj, hj]; exact hb
          · rw [if_neg hj]
            by_cases hl : j < i
            · rw [if_pos (by omega), if_pos hl]
            · rw [if_neg (by omega), if_neg hl])]
        exact h
      clear hAi
      cases m with
      | false =>
        go_wp2
        go_roundw
        case rel => exact ⟨i + 1, by omega, by simp, by rw [hnx.out]; simp, fin.out _ (by rw [hnx.out]; simp), hbi.setCell (p := ⟨g, i, none⟩) hg _⟩
        case measure => simp [intOf]; omega
      | true =>
        go_wp2
        go_roundw
        case rel => exact ⟨i + 1, by omega, by simp, by rw [hnx.out]; simp, fin.out _ (by rw [hnx.out]; simp), hbi.setCell (p := ⟨g, i, none⟩) hg _⟩
        case measure => simp [intOf]; omega
    · obtain rfl : i = s.size := by omega
      have hA' := hid hAi
      clear hAi
      go_wp2
      go_ret
      refine ⟨g, hg, rfl, ?_, hbi⟩
      rw [show boolCells s.size (inS s) = boolCells s.size (fun j => if j < s.size then inS s j else markS s j) from boolCells_congr (fun j hj => by rw [if_pos hj])]
      exact hA'.out

end Go.Proofs.YtlckhiflhnlgpaaGreatDoor
