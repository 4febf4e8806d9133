/-
  RefIs, RefIs2.
-/
import Derived.Test.YtlcihopklnnhdaaEscA
import Derived.Laws.AppendOwn
import Derived.Test.YtlcihopklnnhdaaKitA
/-
  What quarryref06.Odd, Is and Behind answer.
-/
namespace Go.Proofs.Ytlcihopklnnhdaa
open Go.RowKit

end Go.Proofs.Ytlcihopklnnhdaa

/-
  What quarryref06.Is and quarryref06.Behind answer.
-/
namespace Go.Proofs.Ytlcihopklnnhdaa
open Go.RowKit

/-- The first i truths, as cells. -/
def bl6 (G : Nat → Bool) (i : Nat) : List Value := (List.range i).map fun j => Value.bool (G j)
theorem bl6_succ (G : Nat → Bool) (i : Nat) : bl6 G i ++ [.bool (G i)] = bl6 G (i + 1) := by simp [bl6, List.range_succ]
theorem infoB6 : (Try.prog.info? 4).map (fun i => (i.zero, i.size, i.bytes)) = some (some (.bool false), 1, 1) := by kernel_rfl
theorem row1_new (w : World) (B : Nat) (hB : B ≤ w.heap.size) (c : Bool) (G : Nat → Bool) (h : G 0 = c) : (w.alloc (.cells #[.bool c] 4)).ownsRow B 4 1 (.slice (some ⟨w.heap.size, 0, none⟩) 1 1) 1 (bl6 G 1) :=
  ⟨rfl, .inr ⟨w.heap.size, 1, #[.bool c], rfl, hB, At.new w _ _, Nat.le_refl _, by unfold maxLen; decide, rfl, by simp [bl6, h]⟩⟩
theorem row6_cell {w : World} {B n : Nat} {v : Value} {G : Nat → Bool} (h : w.ownsRow B 4 1 v n (bl6 G n)) {i : Nat} (hi : i < n) : ∃ g cap, v = .slice (some ⟨g, 0, none⟩) n cap ∧ w.cell? ⟨g, i, none⟩ = some (.bool (G i)) := by
  rcases h.2 with ⟨_, h0⟩ | ⟨g, cap, cur, rfl, hb, hgb, h3⟩
  · omega
  · refine ⟨g, cap, rfl, ?_⟩
    have := h.cells (g := g) rfl i (.bool (G i)) (by simp [bl6, hi])
    rwa [show (⟨g, 0, none⟩ : Addr).add i = ⟨g, i, none⟩ by by_cases h : i = 0 <;> simp [Addr.add, h]] at this

set_option maxRecDepth 10000 in
set_option maxHeartbeats 2000000 in
theorem is_calls (s : ByteArray) (c : Bool) (G : Nat → Bool) (hG : Hid (G = escG (slash s) c)) (hs : s.size ≤ 140737488351232) (w : World) :
    Calls Try.prog 34 #[.string s, .bool c] w fun e w' => ∃ v, e = .returned v ∧ w'.ownsRow w.heap.size 4 1 v (s.size + 1) (bl6 G (s.size + 1)) ∧ Below w.heap.size w w' := by
  obtain ⟨i0, hi, hz0, hz1, hz2⟩ := info_parts infoB6
  go_enter Try.func34, Try.ntmps34
  go_wp2
  go_loopw [5, 6] (fun v ii wr => ∃ i : Nat, i ≤ s.size ∧ ii = .int .i64 (i : Int) ∧ wr.ownsRow w.heap.size 4 1 v (i + 1) (bl6 G (i + 1)) ∧ Below w.heap.size w wr) (fun _ ii _ => s.size - (intOf ii).toNat)
  case atStart => exact ⟨0, Nat.zero_le _, rfl, row1_new w _ (Nat.le_refl _) c G (by rw [hG.out]; rfl), by repeat (first | with_reducible exact Below.refl _ _ | with_reducible refine Below.setCell ?_ (by first | (simp; done) | (simp; omega)) _ | with_reducible refine below_drewN ?_ _ | with_reducible refine Below.alloc ?_ (by first | (simp; done) | (simp; omega)) _ | with_reducible refine Below.drew ?_)⟩
  case round =>
    obtain ⟨i, hiN, rfl, hown, hb⟩ := hrel
    have hbz := hb.size
    by_cases hlt : i < s.size
    · have hli : (i : Int) < (s.size : Int) := by omega
      have hx := slash_at s i hlt
      have hnx : Hid (G (i + 1) = (slash s i && !G i)) := by show _ = _; rw [hG.out, escG_succ]
      obtain ⟨g, cap, hv, hcell⟩ := row6_cell hown (i := i) (by omega)
      obtain ⟨q, hq⟩ : ∃ q, Hid (G i = q) := ⟨_, rfl⟩
      rw [hq.out] at hcell hnx
      obtain ⟨x, hxe⟩ : ∃ x, s[i].toNat = x := ⟨_, rfl⟩
      rw [hxe] at hx
      have hown' := hid hown
      have hG' := hG
      subst hv
      clear hown hG
      have key : ∀ q' : Bool, Hid (G (i + 1) = q') → ∀ (v' : Value) (w1 : World), Hid ((wr.alloc (.cells #[.bool q'] 4)).grownBy w1 (Value.ownBlock (.slice (some ⟨g, 0, none⟩) (i + 1) cap))) → Below w.heap.size w w1 := by
        intro q' _ v' w1 hgrow
        exact (hb.alloc hb.size _).grown hgrow.out (by simp; have := hb.size; omega) (fun b e => by have := (hown'.out.lt b e).1; omega)
      by_cases h92 : x = 92
      · subst h92
        have hr : Hid (G (i + 1) = !q) := by show _ = _; rw [hnx.out, hx]; simp
        clear hx hnx
        go_wp2_with (first
          | (at_builtin; refine wpList_append_own _ rfl _ _ 58 rfl w.heap.size 4 i0 (.bool false) 1 1 Try.underlying58 hi hz0 hz1 hz2 rfl (by decide) _ _ _ rfl (World.ownsRow.alloc hown'.out _) ⟨wr.heap.size, 0, none⟩ 1 1 [.bool (!q)] rfl rfl (fun j u hj => by match j, hj with | 0, hj => simp at hj; subst hj; simp [Addr.add]) (fun u hu => by simp at hu; subst hu; rfl) (by unfold maxLen; omega) (by omega) (by simp; omega) ?_)
          | go_in)
        intro v' w1 hown1 hgrow _
        have hb' := key _ hr v' w1 hgrow
        rw [← hr.out, bl6_succ] at hown1
        have hown1' := hid hown1
        clear hgrow hown1 hcell
        go_wp2
        go_roundw
        case rel => exact ⟨i + 1, by omega, by simp, hown1'.out, hb'⟩
        case measure => simp [intOf]; omega
      · have hr : Hid (G (i + 1) = false) := by show _ = _; rw [hnx.out, hx, decide_eq_false h92]; rfl
        have hne : ((x : Int) == 92) = false := by simp; omega
        clear hx hnx
        go_wp2_with (first
          | (at_builtin; refine wpList_append_own _ rfl _ _ 58 rfl w.heap.size 4 i0 (.bool false) 1 1 Try.underlying58 hi hz0 hz1 hz2 rfl (by decide) _ _ _ rfl (World.ownsRow.alloc hown'.out _) ⟨wr.heap.size, 0, none⟩ 1 1 [.bool false] rfl rfl (fun j u hj => by match j, hj with | 0, hj => simp at hj; subst hj; simp [Addr.add]) (fun u hu => by simp at hu; subst hu; rfl) (by unfold maxLen; omega) (by omega) (by simp; omega) ?_)
          | go_in)
        intro v' w1 hown1 hgrow _
        have hb' := key _ hr v' w1 hgrow
        rw [← hr.out, bl6_succ] at hown1
        have hown1' := hid hown1
        clear hgrow hown1 hcell
        go_wp2
        go_roundw
        case rel => exact ⟨i + 1, by omega, by simp, hown1'.out, hb'⟩
        case measure => simp [intOf]; omega
    · obtain rfl : i = s.size := by omega
      go_wp2
      go_ret
      exact ⟨_, rfl, hown, hb⟩

end Go.Proofs.Ytlcihopklnnhdaa
