/-
 How a name and how names are written, by the program: written, Print.
-/
import Derived.Test.YtgpagaielnemmaaDoorPtE
import Derived.Test.YtgpagaielnemmaaDoorPack1
import Derived.Test.YtgpagaielnemmaaDoorShelfP
import Derived.Lib.CountLaws
import Derived.Lib.Replace
namespace Go.Proofs.YtgpagaielnemmaaDoor
open Go.RowKit Go.Shelf
theorem rep_one (c : UInt8) (new : List UInt8) : ∀ (n : Nat) (s : List UInt8), s.length ≤ n → Lib.replaceK [c] new (Lib.count s [c]) s = s.flatMap (fun x => if x = c then new else [x]) := by
 have none_map : ∀ a : List UInt8, (∀ x ∈ a, x ≠ c) → a.flatMap (fun x => if x = c then new else [x]) = a := by
  intro a
  induction a with
  | nil => intro _; rfl
  | cons b a ih =>
   intro h
   rw [List.flatMap_cons, if_neg (h b (by simp)), ih (fun x hx => h x (by simp [hx]))]
   rfl
 have first : ∀ l : List UInt8, (∀ x ∈ l, x ≠ c) ∨ ∃ a r, l = a ++ c :: r ∧ ∀ x ∈ a, x ≠ c := by
  intro l
  induction l with
  | nil => exact .inl (fun x h => by simp at h)
  | cons b l ih =>
   by_cases hb : b = c
   ·exact .inr ⟨[], l, by simp [hb], fun x h => by simp at h⟩
   ·rcases ih with h | ⟨a, r, rfl, h⟩
    ·exact .inl (fun x hx => by
      simp at hx
      rcases hx with rfl | hx
      ·exact hb
      ·exact h x hx)
    ·exact .inr ⟨b :: a, r, rfl, fun x hx => by
      simp at hx
      rcases hx with rfl | hx
      ·exact hb
      ·exact h x hx⟩
 intro n
 induction n with
 | zero =>
  intro s hs
  obtain rfl : s = [] := List.length_eq_zero_iff.1 (by omega)
  rw [Lib.count_miss (by rfl)]
  rfl
 | succ n ih =>
  intro s hs
  rcases first s with h | ⟨a, r, rfl, h⟩
  ·rw [Lib.count_miss (by rw [Lib.index_one]; exact idx_no s c h), none_map s h]
   rfl
  ·have hi : Lib.index (a ++ c :: r) [c] = (a.length : Int) := by rw [Lib.index_one]; exact idx_yes a c r h
   have hd : (a ++ c :: r).drop (a.length + [c].length) = r := by simp
   rw [Lib.count_hit (by simp) hi, hd, Nat.add_comm, Lib.replaceK_hit _ _ _ _ _ hi, hd, ih r (by simp at hs; omega)]
   rw [List.flatMap_append, none_map a h, List.flatMap_cons, if_pos rfl]
   simp
theorem repAll_one (c : UInt8) (new : List UInt8) (hne : ([c] == new) = false) (s : List UInt8) : Lib.replaceAll s [c] new = s.flatMap (fun x => if x = c then new else [x]) := by
 unfold Lib.replaceAll Lib.replace
 rw [if_neg (by rw [hne]; exact Bool.false_ne_true)]
 have : Lib.replaceNum s [c] (-1) = Lib.count s [c] := by unfold Lib.replaceNum; rw [if_pos (.inl (by decide))]
 rw [this]
 exact rep_one c new _ s (Nat.le_refl _)
theorem wrN_two : ∀ l : List UInt8, (l.flatMap (fun x => if x = 126 then [126, 48] else [x])).flatMap (fun x => if x = 47 then [126, 49] else [x]) = wrN l
 | [] => rfl
 | c :: t => by
  rw [List.flatMap_cons, List.flatMap_append, wrN_two t, wrN]
  by_cases h : c = 126
  ·subst h
   rw [if_pos rfl, if_pos rfl]
   rfl
  ·rw [if_neg h, if_neg h]
   by_cases h2 : c = 47
   ·subst h2
    rw [if_pos rfl]
    rfl
   ·rw [if_neg h2, List.flatMap_cons, if_neg h2]
    rfl
theorem flat_len (f : UInt8 → List UInt8) (k : Nat) (hf : ∀ x, (f x).length ≤ k) : ∀ l : List UInt8, (l.flatMap f).length ≤ k * l.length
 | [] => by simp
 | c :: t => by
  rw [List.flatMap_cons, List.length_append, List.length_cons]
  have h1 := flat_len f k hf t
  have h2 := hf c
  rw [Nat.mul_add, Nat.mul_one]
  omega
theorem wrN_len : ∀ l : List UInt8, (wrN l).length ≤ 2 * l.length
 | [] => by simp [wrN]
 | c :: t => by
  have := wrN_len t
  rw [wrN]
  split
  ·simp; omega
  ·split
   ·simp; omega
   ·simp; omega
/-- The variable internal/bytealg.MaxLen holds some number. -/
def MxI (w : World) : Prop := ∃ m, w.cell? ⟨Tryd.laysM155_ren.g 1, 0, none⟩ = some (.int .i64 m)
theorem MxI.kept {w w' : World} (h : MxI w) (hb : Below w.heap.size w w') : MxI w' := by
 obtain ⟨m, hm⟩ := h
 exact ⟨m, (hb.cell (p := ⟨Tryd.laysM155_ren.g 1, 0, none⟩) (cell_ltT hm)).trans hm⟩
theorem MxI.below {n : Nat} {w w' : World} (h : MxI w) (hb : Below n w w') (hn : ∀ m, w.cell? ⟨Tryd.laysM155_ren.g 1, 0, none⟩ = some (.int .i64 m) → Tryd.laysM155_ren.g 1 < n) : MxI w' := by
 obtain ⟨m, hm⟩ := h
 exact ⟨m, (hb.cell (p := ⟨Tryd.laysM155_ren.g 1, 0, none⟩) (hn m hm)).trans hm⟩
theorem MxI.of_shape {w : World} (h : w.ShapedOpen Tryd.prog) : MxI w := Tryd.laysM155.s1_3 w h
theorem repl_calls (l : List UInt8) (c : UInt8) (d : UInt8) (x : UInt8) (hl : l.length ≤ 4294967280) (w : World) (hm : MxI w) (hne : ([c] == [d, x]) = false) : Calls Tryd.prog 53 #[.string (mkL l), .string ⟨#[c]⟩, .string ⟨#[d, x]⟩] w fun e w' => e = .returned (.string (mkL (l.flatMap (fun y => if y = c then [d, x] else [y])))) ∧ Below w.heap.size w w' := by
 obtain ⟨m, hm⟩ := hm
 have hc := Lib.count_le l [c]
 have h := Any.strings_ReplaceAll Tryd.lays155 Tryd.Builder_Extra_155 (mkL l) ⟨#[c]⟩ ⟨#[d, x]⟩ m w (by rw [mkL_size]; omega) hm (by show 1 ≤ 1; decide) (by
  rw [mkL_size]
  have : Lib.countB (mkL l) ⟨#[c]⟩ = Lib.count l [c] := by show Lib.count (mkL l).data.toList _ = _; rw [data_mkL]
  rw [this]
  show l.length + Lib.count l [c] * 2 ≤ _
  omega)
 refine h.mono ?_
 rintro e w' ⟨rfl, hb⟩
 refine ⟨?_, hb⟩
 rw [data_mkL]
 have := repAll_one c [d, x] hne l
 show Ending.returned (.string ⟨(Lib.replaceAll l [c] [d, x]).toArray⟩) = _
 rw [this]
 rfl
end Go.Proofs.YtgpagaielnemmaaDoor
