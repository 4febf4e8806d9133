/-
  For quarrylaw08.MarksTwice: what stands between marks stays; quarryref00.SameTexts; a list of texts that is gathered.
-/
import Derived.Test.YthakingpeegagaaDoorMinMath
import Derived.Test.YthakingpeegagaaDoorQuoC
import Derived.Test.YthakingpeegagaaDoorLstKit
import Derived.ArgAppend
namespace Go.Proofs.YthakingpeegagaaDoor
open Go.RowKit Go.Shelf

/-- What stands between the marks is the same in the text without its blanks. -/
theorem span_text {s : ByteArray} (hbs : ∀ i, i < s.size → slash s i = true → inS s i = true) {r : Nat} (h : r < (spansS s).length) :
    (minS s).extract (spn (minS s) r).1 (spn (minS s) r).2 = s.extract (spn s r).1 (spn s r).2 := by
  obtain ⟨f, hf⟩ := spAt_ex s r (by omega)
  obtain ⟨o, ho⟩ : ∃ o, nxt (markS s) s.size f = o := ⟨_, rfl⟩
  have hon := hf.more h
  rw [ho] at hon
  have hn := hf.step ho hon
  obtain ⟨c, hc⟩ : ∃ c, nxt (markS s) s.size (o + 1) = c := ⟨_, rfl⟩
  rw [hc] at hn
  have e1 := hn.spn
  have e2 : spn (minS s) r = (jS s (o + 1), jS s c) := by
    unfold spn
    rw [min_spans hbs, List.getD_eq_getElem?_getD, List.getElem?_map, hn.at_]
    rfl
  rw [e1, e2]
  show (minS s).extract (jS s (o + 1)) (jS s c) = s.extract (o + 1) c
  have hoc := hn.oc
  have hcn := hn.cn
  obtain ⟨d, rfl⟩ : ∃ d, c = o + 1 + d := ⟨c - (o + 1), by omega⟩
  have hin : ∀ i, o + 1 ≤ i → i < o + 1 + d → inS s i = true := fun i h1 h2 => hn.inside i (by omega) h2
  have hrun := fun k hk => min_run hin k hk
  rw [hrun d (Nat.le_refl _)]
  have hz : (minS s).size = (minS s).data.size := rfl
  have hms : jS s (o + 1) + d ≤ (minS s).size := by rw [minS_size, ← hrun d (Nat.le_refl _)]; exact jS_mono s hcn
  have hsz : s.size = s.data.size := rfl
  apply ByteArray.ext
  rw [ByteArray.data_extract, ByteArray.data_extract]
  apply Array.ext
  · rw [Array.size_extract, Array.size_extract]; omega
  · intro k h1 h2
    rw [Array.size_extract] at h1 h2
    rw [Array.getElem_extract, Array.getElem_extract]
    have hk : k < d := by omega
    have hbl : blankS s (o + 1 + k) = false := by
      cases hb : blankS s (o + 1 + k) with
      | false => rfl
      | true => have := (blank_out hb).2.2; rw [hin _ (by omega) (by omega)] at this; cases this
    have hg := minS_get (s := s) (i := o + 1 + k) (by omega) hbl
    rw [hrun k (by omega)] at hg
    rw [Array.getElem?_eq_getElem (by omega), Array.getElem?_eq_getElem (by omega)] at hg
    exact hg
theorem spans_count {s : ByteArray} (hbs : ∀ i, i < s.size → slash s i = true → inS s i = true) : (spansS (minS s)).length = (spansS s).length := by rw [min_spans hbs, List.length_map]
/-- The first r texts between marks. -/
def btw (s : ByteArray) (r : Nat) : List ByteArray := (List.range r).map fun k => s.extract (spn s k).1 (spn s k).2
theorem btw_len (s : ByteArray) (r : Nat) : (btw s r).length = r := by simp [btw]
theorem btw_succ (s : ByteArray) (r : Nat) : btw s (r + 1) = btw s r ++ [s.extract (spn s r).1 (spn s r).2] := by simp [btw, List.range_succ]
theorem btw_min {s : ByteArray} (hbs : ∀ i, i < s.size → slash s i = true → inS s i = true) {r : Nat} (h : r ≤ (spansS s).length) : btw (minS s) r = btw s r := by
  unfold btw
  apply List.map_congr_left
  intro k hk
  exact span_text hbs (by have := List.mem_range.1 hk; omega)

/-- The texts lie there. -/
def TxtsAt (w : World) (ao : Option Addr) (L : List ByteArray) : Prop := ∀ (j : Nat) (p : ByteArray), L[j]? = some p → ∃ g, ao = some ⟨g, 0, none⟩ ∧ g < w.heap.size ∧ w.cell? ⟨g, j, none⟩ = some (.string p)
def strs8 (L : List ByteArray) : List Value := L.map Value.string
theorem strs8_snoc (L : List ByteArray) (p : ByteArray) : strs8 (L ++ [p]) = strs8 L ++ [.string p] := by simp [strs8]
theorem txts_row {w : World} {B n : Nat} {v : Value} {L : List ByteArray} (h : w.ownsRow B 9 1 v n (strs8 L)) : ∃ ao cap, v = .slice ao n cap ∧ TxtsAt w ao L := by
  rcases h.2 with ⟨rfl, rfl⟩ | ⟨g, cap, cur, rfl, hb, hg, h3⟩
  · refine ⟨none, 0, rfl, fun j p hj => ?_⟩
    have h1 := h.1
    simp [strs8] at h1
    rw [h1] at hj
    simp at hj
  · refine ⟨_, cap, rfl, fun j p hj => ⟨g, rfl, (Array.getElem?_eq_some_iff.1 hg).1, ?_⟩⟩
    have := h.cells (g := g) rfl j (.string p) (by simp [strs8, hj])
    rwa [show (⟨g, 0, none⟩ : Addr).add j = ⟨g, j, none⟩ by by_cases h : j = 0 <;> simp [Addr.add, h]] at this

set_option maxRecDepth 10000 in
set_option maxHeartbeats 1000000 in
theorem sameT_calls (L : List ByteArray) (n : Nat) (hn : Hid (L.length = n)) (hl : n ≤ 4611686018427387904) (ao bo : Option Addr) (cap cap' : Nat) (w : World) (hA : TxtsAt w ao L) (hB : TxtsAt w bo L) :
    Calls Tryd.prog 20 #[.slice ao n cap, .slice bo n cap'] w fun e w' => e = .returned (.bool true) ∧ Below w.heap.size w w' := by
  have hA' := hid hA
  have hB' := hid hB
  have hnl : (n : Int) ≤ 4611686018427387904 := by omega
  have e0 : ((n : Int) != (n : Int)) = false := by simp
  clear hA hB
  go_enter Tryd.func20, Tryd.ntmps20
  go_wp2
  go_loopw [5] (fun ii wr => ∃ i : Nat, i ≤ n ∧ ii = .int .i64 (i : Int) ∧ Below w.heap.size w wr) (fun ii _ => n - (intOf ii).toNat)
  case atStart => exact ⟨0, Nat.zero_le _, rfl, Below.refl _ _⟩
  case round =>
    obtain ⟨i, hi, rfl, hb⟩ := hrel
    by_cases hlt : i < n
    · have hli : (i : Int) < (n : Int) := by omega
      obtain ⟨p, hp⟩ : ∃ p, L[i]? = some p := ⟨_, List.getElem?_eq_getElem (by rw [hn.out]; exact hlt)⟩
      obtain ⟨g, rfl, hg, cg⟩ := hA'.out i p hp
      obtain ⟨h, rfl, hh, ch⟩ := hB'.out i p hp
      have s1 := (hb.cell (p := ⟨g, i, none⟩) hg).trans cg
      have s2 := (hb.cell (p := ⟨h, i, none⟩) hh).trans ch
      have ep : (p.toList != p.toList) = false := by simp
      clear hp cg ch
      go_wp2
      go_quiet (fail)
      go_wp2
      go_roundw
      case rel => exact ⟨i + 1, by omega, by simp, below_drewN hb _⟩
      case measure => simp [intOf]; omega
    · obtain rfl : i = n := by omega
      go_wp2
      go_ret
      exact ⟨rfl, hb⟩
end Go.Proofs.YthakingpeegagaaDoor
