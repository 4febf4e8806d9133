/-
  What quarryref00.CopyBits answers: a row of its own.
-/
import Derived.Test.YtomeaejjdjidlaaDoorBitsB
namespace Go.Proofs.YtomeaejjdjidlaaDoor
open Go.RowKit

theorem infoKW : (Tryd.prog.info? 22).map (fun i => (i.zero, i.size, i.bytes)) = some (some (.int .u64 0), 1, 8) := by kernel_rfl

set_option maxRecDepth 10000 in
set_option maxHeartbeats 2000000 in
theorem copyB_calls (n : Int) (ao : Option Addr) (k cap : Nat) (X : Nat → Nat) (hk : k ≤ 17592186044416) (w : World) (hW : Wds w ao k X) :
    Calls Tryd.prog 16 #[bv n ao k cap] w fun e w' => ∃ v, e = .returned (.agg #[.int .i64 n, v]) ∧ w'.ownsRow w.heap.size 22 1 v k (wl X k) ∧ Below w.heap.size w w' := by
  obtain ⟨i0, hi, hz0, hz1, hz2⟩ := info_parts infoKW
  go_enter Tryd.func16, Tryd.ntmps16
  go_wp2
  go_loopw [3, 4] (fun v ii wr => ∃ i : Nat, i ≤ k ∧ ii = .int .i64 (i : Int) ∧ At wr w.heap.size #[.int .i64 n, .slice ao k cap] 34 ∧ At wr (w.heap.size + 1) #[.int .i64 0, .slice none 0 0] 34 ∧ wr.ownsRow (w.heap.size + 2) 22 1 v i (wl X i) ∧ Below w.heap.size w wr) (fun _ ii _ => k - (intOf ii).toNat)
  case atStart =>
    refine ⟨0, Nat.zero_le _, rfl, (At.new w _ _).alloc _, ?_, World.ownsRow_nil _ _ _ _, by repeat (first | with_reducible exact Below.refl _ _ | with_reducible refine Below.setCell ?_ (by first | (simp; done) | (simp; omega)) _ | with_reducible refine below_drewN ?_ _ | with_reducible refine Below.alloc ?_ (by first | (simp; done) | (simp; omega)) _ | with_reducible refine Below.drew ?_)⟩
    have := At.new (w.alloc (.cells #[.int .i64 n, .slice ao k cap] 34)) #[.int .i64 0, .slice none 0 0] 34
    simpa using this
  case round =>
    obtain ⟨i, hik, rfl, a1, a2, hown, hb⟩ := hrel
    have hsz := a2.lt
    obtain ⟨c0, c1, -, -⟩ := a1.facts
    have a1' : Hid (At wr w.heap.size #[.int .i64 n, .slice ao k cap] 34) := a1
    have a2' : Hid (At wr (w.heap.size + 1) #[.int .i64 0, .slice none 0 0] 34) := a2
    have hown' : Hid (wr.ownsRow (w.heap.size + 2) 22 1 u3 i (wl X i)) := hown
    by_cases hlt : i < k
    · obtain ⟨hx, g, off, rfl, hcell⟩ := hW i hlt
      have d1 := (hb.cell (p := ⟨g, off + i, none⟩) (cell_block hcell)).trans hcell
      obtain ⟨x, hx'⟩ : ∃ x, Hid (X i = x) := ⟨_, rfl⟩
      rw [hx'.out] at d1 hx
      have hW' : Hid (Wds w (some ⟨g, off, none⟩) k X) := hW
      clear hcell hown a1 a2 hW
      go_wp2_with (first
        | (at_builtin; refine wpList_append_own _ rfl _ _ 32 rfl (w.heap.size + 2) 22 i0 (.int .u64 0) 1 8 Tryd.underlying32 hi hz0 hz1 hz2 rfl (by decide) _ _ _ rfl (World.ownsRow.alloc hown'.out _) ⟨wr.heap.size, 0, none⟩ 1 1 [.int .u64 (x : Int)] rfl rfl (fun j u hj => by match j, hj with | 0, hj => simp at hj; subst hj; simp [Addr.add]) (fun u hu => by simp at hu; subst hu; rfl) (by unfold maxLen; omega) (by omega) (by simp; omega) ?_)
        | go_in)
      intro v' w1 hown1 hgrow _
      have hlt' : ∀ r, u3.ownBlock = some r → w.heap.size + 2 ≤ r := fun r e => (hown'.out.lt r e).1
      have b1 := a1'.out.grown hgrow hlt' (by omega)
      have b2 := a2'.out.grown hgrow hlt' (by omega)
      have hb' : Below w.heap.size w w1 := (hb.alloc hb.size _).grown hgrow (by simp; omega) (fun b e => by have := hlt' b e; omega)
      rw [← hx'.out, wl_succ] at hown1
      have b1' : Hid (At w1 w.heap.size #[.int .i64 n, .slice (some ⟨g, off, none⟩) k cap] 34) := b1
      have b2' : Hid (At w1 (w.heap.size + 1) #[.int .i64 0, .slice none 0 0] 34) := b2
      have hown1' : Hid (w1.ownsRow (w.heap.size + 2) 22 1 v' (i + 1) (wl X (i + 1))) := hown1
      clear hgrow hown1 b1 b2 hlt' c0 c1 a1' a2' hown'
      go_wp2
      go_roundw
      case rel => exact ⟨i + 1, by omega, by simp, b1'.out, b2'.out, hown1'.out, hb'⟩
      case measure => simp [intOf]; omega
    · obtain rfl : i = k := by omega
      obtain ⟨d0, d1, f0, f1⟩ := a2.facts
      obtain ⟨vo, vc, rfl⟩ := row_slice hown'.out
      clear hW hown a1 a2
      go_wp2
      refine ret_bits1 rfl rfl a2'.out.two rfl ⟨_, rfl, ?_, (hb.setCell (p := ⟨w.heap.size + 1, 0, none⟩) (by show w.heap.size ≤ w.heap.size + 1; omega) _).setCell (p := ⟨w.heap.size + 1, 1, none⟩) (by show w.heap.size ≤ w.heap.size + 1; omega) _⟩
      exact row_base (row_other (row_other hown'.out (p := ⟨w.heap.size + 1, 0, none⟩) (by show w.heap.size + 1 < w.heap.size + 2; omega) _) (p := ⟨w.heap.size + 1, 1, none⟩) (by show w.heap.size + 1 < w.heap.size + 2; omega) _) (by omega)
end Go.Proofs.YtomeaejjdjidlaaDoor
