/-
  What quarryref07.Texts answers.
-/
import Derived.Test.YtmgbgphlkhkldaaDoorRefQ
import Derived.Test.YtmgbgphlkhkldaaDoorQuoA
import Derived.Test.YtmgbgphlkhkldaaDoorQuoC
import Derived.Laws.AppendOwn
namespace Go.Proofs.YtmgbgphlkhkldaaDoor
open Go.RowKit Go.Shelf

theorem infoSp : (Tryd.prog.info? 38).map (fun i => (i.zero, i.size, i.bytes)) = some (some (.agg #[.int .i64 0, .int .i64 0]), 2, 16) := by kernel_rfl
/-- A span's two cells. -/
def spc (x : Nat × Nat) : List Value := [.int .i64 (x.1 : Int), .int .i64 (x.2 : Int)]
/-- The cells of the first r spans. -/
def spl (T : List (Nat × Nat)) (r : Nat) : List Value := (T.take r).flatMap spc
theorem spl_succ {T : List (Nat × Nat)} {r A C : Nat} (h : T[r]? = some (A, C)) : spl T r ++ [.int .i64 (A : Int), .int .i64 (C : Int)] = spl T (r + 1) := by
  unfold spl
  rw [List.take_add_one, h, List.flatMap_append]
  rfl
theorem spc_get (T : List (Nat × Nat)) : ∀ (j P C : Nat), T[j]? = some (P, C) → (T.flatMap spc)[j * 2]? = some (.int .i64 (P : Int)) ∧ (T.flatMap spc)[j * 2 + 1]? = some (.int .i64 (C : Int)) := by
  induction T with
  | nil => intro j P C h; simp at h
  | cons x T ih =>
    intro j P C h
    cases j with
    | zero => simp at h; subst h; exact ⟨rfl, rfl⟩
    | succ j =>
      have := ih j P C (by simpa using h)
      rw [List.flatMap_cons, show (j + 1) * 2 = j * 2 + 2 by omega]
      exact this
/-- The list as it was made holds the spans. -/
theorem spans_list {w : World} {B N : Nat} {v : Value} {T : List (Nat × Nat)} (hN : T.length = N) (h : w.ownsRow B 38 2 v N (spl T N)) : ∃ ao cap, v = .slice ao N cap ∧ SpansAt w ao T := by
  have hall : spl T N = T.flatMap spc := by unfold spl; rw [← hN, List.take_length]
  have lt := h.lt
  rcases h.2 with ⟨rfl, e1⟩ | ⟨g, cap, cur, rfl, hb, hgb, h3⟩
  · subst e1
    exact ⟨none, 0, rfl, fun j P C hj => by rw [List.eq_nil_of_length_eq_zero hN] at hj; simp at hj⟩
  · refine ⟨_, cap, rfl, fun j P C hj => ⟨g, rfl, (lt g rfl).2, ?_, ?_⟩⟩
    · have := h.cells (g := g) rfl (j * 2) (.int .i64 (P : Int)) (by rw [hall]; exact (spc_get T j P C hj).1)
      rwa [show (⟨g, 0, none⟩ : Addr).add (j * 2) = ⟨g, j * 2, none⟩ by by_cases h : j * 2 = 0 <;> simp [Addr.add, h]] at this
    · have := h.cells (g := g) rfl (j * 2 + 1) (.int .i64 (C : Int)) (by rw [hall]; exact (spc_get T j P C hj).2)
      rwa [show (⟨g, 0, none⟩ : Addr).add (j * 2 + 1) = ⟨g, j * 2 + 1, none⟩ by simp [Addr.add]] at this
/-- Of the places below i those that open a text are gone through. -/
def TxTo (s : ByteArray) (i r : Nat) : Prop := ∃ f, SpAt s r f ∧ (∀ j, f ≤ j → j < i → markS s j = false) ∧ ∀ j, i ≤ j → j < f → (markS s j && inS s j) = false
theorem txTo_zero (s : ByteArray) : TxTo s 0 0 := ⟨0, spAt_zero s, fun j _ h => by omega, fun j _ h => by omega⟩
theorem TxTo.skip {s : ByteArray} {i r : Nat} (h : TxTo s i r) (hi : i < s.size) (hn : (markS s i && inS s i) = false) : TxTo s (i + 1) r := by
  obtain ⟨f, h1, h2, h3⟩ := h
  refine ⟨f, h1, fun j g1 g2 => ?_, fun j g1 g2 => h3 j (by omega) g2⟩
  by_cases hj : j < i
  · exact h2 j g1 hj
  · obtain rfl : j = i := by omega
    have ho : oddG (markS s) j = false := (oddG_same g1 h2).trans (h1.2.2.2 (by omega))
    cases hm : markS s j with
    | false => rfl
    | true =>
      have : inS s j = true := by rw [inS, oddG_succ, ho, hm]; rfl
      rw [hm, this] at hn
      cases hn
theorem TxTo.hit {s : ByteArray} {i r : Nat} (h : TxTo s i r) (hi : i < s.size) (hm : markS s i = true) (hin : inS s i = true) : r < (spansS s).length ∧ (spansS s)[r]? = some (i + 1, nxt (markS s) s.size (i + 1)) ∧ TxTo s (i + 1) (r + 1) := by
  obtain ⟨f, h1, h2, h3⟩ := h
  have hf : f ≤ i := by
    by_cases hf : f ≤ i
    · exact hf
    · have := h3 i (Nat.le_refl _) (by omega)
      rw [hm, hin] at this
      cases this
  have ho : nxt (markS s) s.size f = i := nxt_is hf hi hm h2
  have hs := h1.step ho hi
  refine ⟨hs.lt, hs.at_, _, hs.next, fun j g1 g2 => by have := hs.oc; omega, fun j g1 g2 => ?_⟩
  by_cases hj : j < nxt (markS s) s.size (i + 1)
  · rw [hs.within j (by omega) hj]; rfl
  · obtain rfl : j = nxt (markS s) s.size (i + 1) := by omega
    by_cases hn : nxt (markS s) s.size (i + 1) < s.size
    · rw [hs.last hn]; simp
    · rw [markS_out s _ (by omega)]; rfl
theorem TxTo.end {s : ByteArray} {r : Nat} (h : TxTo s s.size r) : r = (spansS s).length := by
  obtain ⟨f, h1, h2, h3⟩ := h
  refine (h1.end ?_).1
  by_cases hf : f ≤ s.size
  · rw [nxt_none hf h2]; omega
  · have := nxt_lo (G := markS s) (n := s.size) (f := f); omega
theorem txTo_le {s : ByteArray} {i r : Nat} (h : TxTo s i r) : r ≤ s.size + 1 := by
  obtain ⟨f, h1, -⟩ := h
  have := h1.2.1
  have := spansS_len s
  omega

end Go.Proofs.YtmgbgphlkhkldaaDoor
