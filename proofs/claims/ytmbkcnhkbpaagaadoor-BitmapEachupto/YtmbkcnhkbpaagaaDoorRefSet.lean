/-
  What quarryref04.Set and quarryref04.Places answer.
-/
import Derived.Test.YtmbkcnhkbpaagaaDoorBoolRow
namespace Go.Proofs.YtmbkcnhkbpaagaaDoor
open Go.RowKit

/-- The first i truths, as cells. -/
def bl (G : Nat → Bool) (i : Nat) : List Value := (List.range i).map fun j => Value.bool (G j)
theorem bl_succ (G : Nat → Bool) (i : Nat) : bl G i ++ [.bool (G i)] = bl G (i + 1) := by simp [bl, List.range_succ]

set_option maxRecDepth 10000 in
set_option maxHeartbeats 2000000 in
theorem refSet_calls (N : Nat) (ao : Option Addr) (k cap : Nat) (X : Nat → Nat) (hk : k ≤ 1048576) (hN : N ≤ 64 * k) (w : World) (hW : Wds w ao k X) :
    Calls Tryd.prog 38 #[bv N ao k cap] w fun e w' => ∃ v, e = .returned v ∧ w'.ownsRow w.heap.size 4 1 v N (bl (bitAt X) N) ∧ Below w.heap.size w w' := by
  obtain ⟨i0, hi, hz0, hz1, hz2⟩ := info_parts infoB
  go_enter Tryd.func38, Tryd.ntmps38
  go_wp2
  go_loopw [3, 4] (fun v ii wr => ∃ i : Nat, i ≤ N ∧ ii = .int .i64 (i : Int) ∧ At wr w.heap.size #[.int .i64 (N : Int), .slice ao k cap] 24 ∧ wr.ownsRow (w.heap.size + 1) 4 1 v i (bl (bitAt X) i) ∧ Below w.heap.size w wr) (fun _ ii _ => N - (intOf ii).toNat)
  case atStart => exact ⟨0, Nat.zero_le _, rfl, At.new w _ _, World.ownsRow_nil _ _ _ _, by repeat (first | with_reducible exact Below.refl _ _ | with_reducible refine Below.setCell ?_ (by first | (simp; done) | (simp; omega)) _ | with_reducible refine below_drewN ?_ _ | with_reducible refine Below.alloc ?_ (by first | (simp; done) | (simp; omega)) _ | with_reducible refine Below.drew ?_)⟩
  case round =>
    obtain ⟨i, hiN, rfl, a1, hown, hb⟩ := hrel
    have hsz := a1.lt
    obtain ⟨c0, c1, -, -⟩ := a1.facts
    have a1' : Hid (At wr w.heap.size #[.int .i64 (N : Int), .slice ao k cap] 24) := a1
    have hown' : Hid (wr.ownsRow (w.heap.size + 1) 4 1 u3 i (bl (bitAt X) i)) := hown
    clear a1 hown
    by_cases hlt : i < N
    · obtain ⟨q, hq⟩ : ∃ q, Hid (bitAt X i = q) := ⟨_, rfl⟩
      have hcall : Hid _ := refBit_calls i ao k cap X q (by omega) (by omega) hq wr (hW.kept hb)
      have hW' : Hid (Wds w ao k X) := hW
      clear hW
      go_wp2_with (first
        | (go_at_call 50; refine Calls.mono hcall.out ?_; rintro e w' ⟨rfl, hw'⟩; obtain rfl := hw'.symm)
        | (at_builtin; refine wpList_append_own _ rfl _ _ 48 rfl (w.heap.size + 1) 4 i0 (.bool false) 1 1 Tryd.underlying48 hi hz0 hz1 hz2 rfl (by decide) _ _ _ rfl (World.ownsRow.alloc hown'.out _) ⟨wr.heap.size, 0, none⟩ 1 1 [.bool q] rfl rfl (fun j u hj => by match j, hj with | 0, hj => simp at hj; subst hj; simp [Addr.add]) (fun u hu => by simp at hu; subst hu; rfl) (by unfold maxLen; omega) (by omega) (by simp; omega) ?_)
        | go_in)
      intro v' w1 hown1 hgrow _
      have hlt' : ∀ r, u3.ownBlock = some r → w.heap.size + 1 ≤ r := fun r e => (hown'.out.lt r e).1
      have b1 := a1'.out.grown hgrow hlt' (by omega)
      have hb' : Below w.heap.size w w1 := (hb.alloc hb.size _).grown hgrow (by simp; omega) (fun b e => by have := hlt' b e; omega)
      rw [← hq.out, bl_succ] at hown1
      have b1' : Hid (At w1 w.heap.size #[.int .i64 (N : Int), .slice ao k cap] 24) := b1
      have hown1' : Hid (w1.ownsRow (w.heap.size + 1) 4 1 v' (i + 1) (bl (bitAt X) (i + 1))) := hown1
      clear hgrow hown1 b1 hlt' hcall c0 c1
      go_wp2
      go_roundw
      case rel => exact ⟨i + 1, by omega, by simp, b1'.out, hown1'.out, hb'⟩
      case measure => simp [intOf]; omega
    · obtain rfl : i = N := by omega
      clear hW
      go_wp2
      go_ret
      exact ⟨_, rfl, row_base hown'.out (by omega), hb⟩
/-- What Set has made. -/
theorem bools_of_row {W : World} {v : Value} {B N : Nat} {G : Nat → Bool} (h : W.ownsRow B 4 1 v N (bl G N)) : ∃ ao cap, v = .slice ao N cap ∧ (∀ j, j < N → ∃ g cur, ao = some ⟨g, 0, none⟩ ∧ B ≤ g ∧ At W g cur 4 ∧ N ≤ cur.size ∧ ∀ i, i < N → cur[i]? = some (.bool (G i))) := by
  rcases h.2 with ⟨rfl, h0⟩ | ⟨g, cap, cur, rfl, hb, hgb, h3, h4, h5, h6⟩
  · exact ⟨none, 0, by rw [h0], fun j hj => by omega⟩
  · refine ⟨_, cap, rfl, fun j hj => ⟨g, cur, rfl, hb, hgb, by omega, fun i hi => ?_⟩⟩
    have : (cur.toList.take (N * 1))[i]? = (bl G N)[i]? := by rw [h6]
    rw [List.getElem?_take, if_pos (by omega)] at this
    simp only [Array.getElem?_toList] at this
    rw [this]; simp [bl, hi]
end Go.Proofs.YtmbkcnhkbpaagaaDoor
