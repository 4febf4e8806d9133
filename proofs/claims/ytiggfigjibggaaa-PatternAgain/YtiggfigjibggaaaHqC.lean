/-
  Statements of layer 25: a copy of a list of learnt places.
-/
import Derived.Test.YtiggfigjibggaaaHqB
import Derived.Test.YtiggfigjibggaaaHpZ
namespace Go.Proofs.Ytiggfigjibggaaa
open Go.RowKit Go.Shelf Go.Maps

theorem flat_lrL {l : List Lr} {j : Nat} {x : Lr} (h : l[j]? = some x) (k : Nat) (hk : k < 4) : (l.flatMap lrL)[j * 4 + k]? = (lrL x)[k]? := by
  induction l generalizing j with
  | nil => simp at h
  | cons y l ih =>
    rw [List.flatMap_cons]
    cases j with
    | zero =>
      simp at h
      subst h
      rw [List.getElem?_append_left (by simp [lrL]; omega)]
      simp
    | succ j =>
      rw [List.getElem?_append_right (by simp [lrL]; omega)]
      have e : (j + 1) * 4 + k - (lrL y).length = j * 4 + k := by simp [lrL]; omega
      rw [e]
      exact ih (by simpa using h)
theorem lns_flat {w : World} {B N : Nat} {v : Value} {ao so : Option Addr} {cap : Nat} {u : World} {l : List Lr} (hl : LnsAt u ao l) (hN : l.length = N) (h : w.ownsRow B 25 4 v N (l.flatMap lrL)) (hv : v = .slice so N cap) : LnsAt w so l := fun j x hj => by
  have hjN : j < N := by rw [← hN]; exact (List.getElem?_eq_some_iff.1 hj).1
  obtain ⟨g, cp, e⟩ := own_someP h (by omega)
  rw [hv] at e
  cases e
  refine ⟨(hl j x hj).1, g, 0, rfl, (h.lt g (by rw [hv]; rfl)).2, fun k y hk => ?_⟩
  have hk4 : k < 4 := by
    have := (List.getElem?_eq_some_iff.1 hk).1
    simpa [lrL] using this
  have h2 := h.cells (g := g) (by rw [hv]; rfl) (j * 4 + k) y (by rw [flat_lrL hj k hk4]; exact hk)
  have e : (⟨g, 0, none⟩ : Addr).add (j * 4 + k) = ⟨g, 0 + j * 4 + k, none⟩ := by rw [Addr.add_mid]; simp
  rw [e] at h2
  exact h2
set_option maxRecDepth 10000 in
set_option maxHeartbeats 8000000 in
/-- quarryref00.CopyLearnts. -/
theorem copyL_calls (l : List Lr) (ao : Option Addr) (N cap : Nat) (hN : Hid (l.length = N)) (hN2 : N ≤ 1000000) (w : World) (hl : Hid (LnsAt w ao l)) :
    Calls Try.prog 20 #[.slice ao N cap] w fun e w' => ∃ so c, e = .returned (.slice so N c) ∧ Hid (LnsAt w' so l) ∧ Hid (∀ a, so = some a → w.heap.size ≤ a.block ∧ a.block < w'.heap.size) ∧ Hid (Below w.heap.size w w') := by
  go_enter Try.func20, Try.ntmps20
  go_wp2
  go_loopw [3, 4] (fun vv ii wr => ∃ i : Nat, i ≤ N ∧ ii = .int .i64 (i : Int) ∧ Hid (wr.ownsRow w.heap.size 25 4 vv i ((l.take i).flatMap lrL)) ∧ Hid (Below w.heap.size w wr)) (fun _ ii _ => N - (intOf ii).toNat)
  case atStart => exact ⟨0, Nat.zero_le _, rfl, hid (by simpa using World.ownsRow_nil w w.heap.size 25 4), hid (Below.refl _ _)⟩
  case round =>
    obtain ⟨i, hi, rfl, hv, hB⟩ := hrel
    by_cases hlt : i < N
    · have hlti : (i : Int) < (N : Int) := by omega
      have hi' := hid (show i + 1 ≤ N by omega)
      obtain ⟨x, hx⟩ : ∃ x, Hid (l[i]? = some x) := ⟨l[i]'(by rw [hN.out]; exact hlt), List.getElem?_eq_getElem _⟩
      obtain ⟨-, g, o, rfl, hg, hrg⟩ := (hl.out.kept hB.out) i x hx.out
      have htk : Hid (l.take (i + 1) = l.take i ++ [x]) := by show _ = _; rw [List.take_add_one, hx.out]; rfl
      obtain ⟨xr, xn, xp, xh⟩ := x
      have hrg := hid (show wr.rangeAt g (o + i * 4) [.string xr, .string xn, .int .i64 xp, .int .i64 xh] from hrg)
      have ad : (⟨g, o, none⟩ : Addr).add (i * 4) = ⟨g, o + i * 4, none⟩ := by by_cases h : i * 4 = 0 <;> simp [Addr.add, h]
      obtain ⟨W1, hW1⟩ : ∃ W, wr.alloc (.cells #[.string xr, .string xn, .int .i64 xp, .int .i64 xh] 25) = W := ⟨_, rfl⟩
      obtain ⟨c, hc⟩ : ∃ c, wr.heap.size = c := ⟨_, rfl⟩
      have A1 : At W1 c #[.string xr, .string xn, .int .i64 xp, .int .i64 xh] 25 := by rw [← hW1]; exact at_newP hc
      have B1 : Below wr.heap.size wr W1 := by rw [← hW1]; exact (Below.refl _ wr).alloc (Nat.le_refl _) _
      have hv1 : W1.ownsRow w.heap.size 25 4 u3 i ((l.take i).flatMap lrL) := by rw [← hW1]; exact World.ownsRow.alloc hv.out _
      obtain ⟨v', W2, hr, hown, hgr, -⟩ := app_genP (B := w.heap.size) Try.underlying22 infoLr rfl (by decide) hv1 ⟨c, 0, none⟩ 1 [.string xr, .string xn, .int .i64 xp, .int .i64 xh] rfl (fun j u hj => by
        have e : (⟨c, 0, none⟩ : Addr).add j = ⟨c, j, none⟩ := by by_cases h : j = 0 <;> simp [Addr.add, h]
        rw [e, A1.cell j, List.getElem?_toArray]
        exact hj) (fun u hu => by simp at hu; rcases hu with rfl | rfl | rfl | rfl <;> rfl) (by omega) (by decide) (Nat.le_trans hB.out.size B1.size)
      have hr' := hid hr
      have hB2 := hid (show Below w.heap.size w W2 from (hB.out.trans (B1.mono hB.out.size)).grown hgr (Nat.le_trans hB.out.size B1.size) (fun b e => (hv1.lt b e).1))
      have hown' : Hid (W2.ownsRow w.heap.size 25 4 v' (i + 1) ((l.take (i + 1)).flatMap lrL)) := by
        show W2.ownsRow _ _ _ _ _ _
        rw [htk.out, List.flatMap_append]
        exact hown
      clear A1 B1 hv1 hown hgr hr hv hB hx
      go_wp2_with (first
        | refine wpList_load_want 25 _ g (o + i * 4) [.string xr, .string xn, .int .i64 xp, .int .i64 xh] _ hrg.out Try.underlying25 (by kernel_rfl) rfl rfl rfl (by rfl) ?_
        | (at_builtin; refine wpList_append_runP rfl _ _ 22 rfl u3 (.slice (some ⟨c, 0, none⟩) 1 1) v' W2 rfl rfl hr'.out ?_)
        | fail)
      go_wp2
      go_roundw
      case rel => exact ⟨i + 1, hi'.out, by simp, hown', hB2⟩
      case measure => simp [intOf]; have := hi'.out; omega
    · obtain rfl : i = N := by omega
      obtain ⟨so, cp, rfl⟩ := own_shapeP hv.out
      have hfin := hid (show LnsAt wr so l from lns_flat hl.out hN.out (by have := hv.out; rw [List.take_of_length_le (by rw [hN.out]; exact Nat.le_refl _)] at this; exact this) rfl)
      have hbd := hid (show ∀ a, so = some a → w.heap.size ≤ a.block ∧ a.block < wr.heap.size from fun a e => hv.out.lt a.block (by rw [e]; rfl))
      go_wp2
      go_ret
      exact ⟨so, cp, rfl, hfin, hbd, hB⟩
end Go.Proofs.Ytiggfigjibggaaa
