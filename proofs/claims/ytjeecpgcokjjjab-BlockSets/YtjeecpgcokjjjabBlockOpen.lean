/-
  Classes that come in by value: alone, and two of them beside a text and a byte.
-/
import Derived.Test.YtjeecpgcokjjjabBlockClass
import Derived.Test.YtjeecpgcokjjjabKit
namespace Go.Proofs.Ytjeecpgcokjjjab
open Go.ChangeShapes Go.WideShapes Go.ChangeAt Go.RowKit

section
variable {H : Type} {enc : TypeId × Value → H} {P : Program} {w : World} {base : Nat} {spare : Nat → Bool} {held : Bool}

theorem okWide_struct {r : Reach} {b0 : Nat} {t : TypeId} {v : Value} {fs : Array Field} (ht : P.underlying t = some (.struct fs)) (h : Value.okWide P w r b0 t v) : ∃ cs, v = .agg cs ∧ cs.size = P.cellsOf t := by
  simp only [Value.okWide, ht] at h
  obtain ⟨cs, h1, h2, _⟩ := h
  exact ⟨cs, h1, h2⟩

/-- The cells of an array of integers. -/
theorem ints_cells {fuel : Nat} {t e : TypeId} {k : IntKind} {n : Nat} {cs : List Value} {x : DataW H × List MemPlace} (ht : P.underlying t = some (.array n e)) (he : P.underlying e = some (.int k)) (hc : P.cellsOf e = 1) (hn : P.cellsOf t = n)
    (h : DataW.trod enc P w base spare held fuel t cs = some x) : ∃ zs : List Int, cs = zs.map (Value.int k) ∧ zs.length = n ∧ ∀ z ∈ zs, (Lit.int k z).wf = true := by
  obtain ⟨xs, m, _, _, hlen, hxl, hx⟩ := DataW.trod_array ht h
  have hcell : ∀ i, i < n → ∃ z : Int, cs[i]? = some (.int k z) ∧ (Lit.int k z).wf = true := by
    intro i hi
    have h1 := hx i hi
    rw [hc, List.getElem?_eq_getElem (by omega)] at h1
    obtain ⟨z, hz, _, hw⟩ := DataW.trod_int he h1
    refine ⟨z, ?_, hw⟩
    have h3 : ((cs.drop (i * 1)).take 1)[0]? = some (.int k z) := by rw [hz]; rfl
    simpa [List.getElem?_take, List.getElem?_drop] using h3
  rw [hn] at hlen
  have key : ∀ (l : List Value), (∀ i, i < l.length → ∃ z : Int, l[i]? = some (.int k z) ∧ (Lit.int k z).wf = true) → ∃ zs : List Int, l = zs.map (Value.int k) ∧ ∀ z ∈ zs, (Lit.int k z).wf = true := by
    intro l
    induction l with
    | nil => exact fun _ => ⟨[], rfl, by simp⟩
    | cons a l ih =>
      intro h
      obtain ⟨z, hz, hw⟩ := h 0 (by simp)
      obtain ⟨zs, hzs, hws⟩ := ih (fun i hi => by simpa using h (i + 1) (by simpa using hi))
      simp at hz
      exact ⟨z :: zs, by simp [hz, hzs], by intro y hy; rcases List.mem_cons.1 hy with rfl | hy' <;> first | exact hw | exact hws y hy'⟩
  obtain ⟨zs, hzs, hws⟩ := key cs (by intro i hi; exact hcell i (by omega))
  exact ⟨zs, hzs, by have := congrArg List.length hzs; simp at this; omega, hws⟩
end

theorem cls_of_list (zs : List Int) (hl : zs.length = 4) (hw : ∀ z ∈ zs, (Lit.int .u64 z).wf = true) : ∃ c : Nat → Nat, Cls c ∧ zs.map (Value.int .u64) = (clsArr c).toList := by
  have hb : ∀ i, (zs.getD i 0).toNat < 18446744073709551616 ∧ 0 ≤ zs.getD i 0 := by
    intro i
    by_cases h : i < zs.length
    · have h1 := wf_u64 (hw zs[i] (List.getElem_mem h))
      simp only [List.getD, List.getElem?_eq_getElem h, Option.getD_some]
      omega
    · simp only [List.getD, List.getElem?_eq_none (by omega : zs.length ≤ i), Option.getD_none]; omega
  refine ⟨fun i => (zs.getD i 0).toNat, fun i => (hb i).1, ?_⟩
  apply List.ext_getElem
  · simp [clsArr, hl]
  · intro i h1 h2
    have h3 : i < zs.length := by simpa using h1
    have h4 := (hb i).2
    simp only [List.getD, List.getElem?_eq_getElem h3, Option.getD_some] at h4
    simp only [clsArr, Array.getElem_toList, List.getElem_map, Array.getElem_ofFn, List.getD, List.getElem?_eq_getElem h3, Option.getD_some]
    rw [Int.toNat_of_nonneg h4]

section
variable {H : Type} {enc : TypeId × Value → H} {w : World} {base : Nat} {spare : Nat → Bool} {held : Bool}
theorem class_cells {fuel : Nat} {cs : List Value} {x : DataW H × List MemPlace} (h : DataW.trod enc Try.prog w base spare held fuel 25 cs = some x) : ∃ c : Nat → Nat, Cls c ∧ cs = (clsArr c).toList := by
  obtain ⟨xs, m, _, _, hlen, hxl, hx⟩ := DataW.trod_struct Try.underlying25 h
  have e4 : Try.prog.cellsOf 23 = 4 := by kernel_rfl
  have h0 : DataW.trod enc Try.prog w base spare held m 23 ((cs.drop 0).take (Try.prog.cellsOf 23)) = xs[0]? := hx 0 _ rfl
  have hl4 : cs.length = 4 := hlen.trans (by kernel_rfl)
  have hxl' : xs.length = 1 := hxl
  rw [e4, List.drop_zero, List.take_of_length_le (by omega), List.getElem?_eq_getElem (by omega)] at h0
  obtain ⟨zs, hz, hzl, hzw⟩ := ints_cells (k := .u64) (n := 4) Try.underlying23 Try.underlying22 (by kernel_rfl) e4 h0
  obtain ⟨c, hc, e⟩ := cls_of_list zs hzl hzw
  exact ⟨c, hc, by rw [← e, ← hz]⟩
/-- A class by value. -/
theorem open_class {r : Reach} {b0 : Nat} {v : Value} {d : DataW H} {ps : List MemPlace} (hval : Value.okWide Try.prog w r b0 25 v) (hd : DataW.Trod enc Try.prog w base spare held 25 v d ps) :
    ∃ c : Nat → Nat, v = .agg (clsArr c) ∧ Cls c := by
  obtain ⟨cs, rfl, hs⟩ := okWide_struct Try.underlying25 hval
  obtain ⟨fuel, hf⟩ := hd
  obtain ⟨c, hc, e⟩ := class_cells hf
  refine ⟨c, ?_, hc⟩
  have e' : cs.toList = (clsArr c).toList := e
  rw [Array.toList_inj.1 e']
end
end Go.Proofs.Ytjeecpgcokjjjab
