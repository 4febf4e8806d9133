/-
  The law BlockMakes as a call, whatever the block and the classes.
-/
import Derived.Test.YtjeecpgcokjjjaaMakesWalk
namespace Go.Proofs.Ytjeecpgcokjjjaa
open Go.RowKit

theorem arr64_of_list (zs : List Int) (hl : zs.length = 64) (hw : ∀ z ∈ zs, (Lit.int .u8 z).wf = true) :
    ∃ f : Nat → Nat, (∀ i, f i < 256) ∧ (zs.map (Value.int .u8)).toArray = arr64 f := by
  have hb : ∀ i, (zs.getD i 0).toNat < 256 ∧ 0 ≤ zs.getD i 0 := by
    intro i
    by_cases h : i < zs.length
    · have h1 := wf_u8 (hw zs[i] (List.getElem_mem h))
      simp only [List.getD, List.getElem?_eq_getElem h, Option.getD_some]
      omega
    · simp only [List.getD, List.getElem?_eq_none (by omega : zs.length ≤ i), Option.getD_none]; omega
  refine ⟨fun i => (zs.getD i 0).toNat, fun i => (hb i).1, ?_⟩
  apply Array.ext
  · simp [arr64, hl]
  · intro i h1 h2
    have h3 : i < zs.length := by simpa using h1
    have h4 := (hb i).2
    simp only [List.getD, List.getElem?_eq_getElem h3, Option.getD_some] at h4
    simp only [arr64, List.getElem_toArray, List.getElem_map, Array.getElem_ofFn, List.getD, List.getElem?_eq_getElem h3, Option.getD_some]
    rw [Int.toNat_of_nonneg h4]

theorem mk64 (q : Nat → Bool) : mk q 64 < 18446744073709551616 := mk_lt64 q 64 (Nat.le_refl _)
theorem mask_or (q r : Nat → Bool) : mk q 64 ||| mk r 64 = mk (fun i => q i || r i) 64 := by
  symm
  apply mk_ext _ _ (or_lt64 (mk64 q) (mk64 r))
  intro i hi
  rw [Nat.testBit_or, mk_bit, mk_bit]; simp [hi]
theorem mask_less (q r : Nat → Bool) : less (mk q 64) (mk r 64) = mk (fun i => q i && !r i) 64 := by
  symm
  apply mk_ext _ _ (less_lt64 (mk64 q))
  intro i hi
  rw [less_bit, mk_bit, mk_bit]; simp [hi]
theorem mask_flip (q : Nat → Bool) : flip (mk q 64) = mk (fun i => !q i) 64 := by
  symm
  apply mk_ext _ _ (flip_lt64 _)
  intro i hi
  rw [flip_bit _ _ (mk64 q) hi, mk_bit]; simp [hi]

theorem blockMakes_walk (zs : List Int) (hl : zs.length = 64) (hw : ∀ z ∈ zs, (Lit.int .u8 z).wf = true) (c : Nat → Nat) (hc : Cls c) (d : Nat → Nat) (hd : Cls d) (w : World) :
    Calls Try.prog 7 #[.agg (zs.map (Value.int .u8)).toArray, .agg (clsArr c), .agg (clsArr d)] w fun e w' => e = .returned (.bool true) ∧ Below w.heap.size w w' := by
  obtain ⟨f, hf, e⟩ := arr64_of_list zs hl hw
  rw [e]
  refine makes_nat f hf c d hc hd _ _ _ _ _ rfl rfl rfl rfl rfl ?_ ?_ ?_ (mk64 _) w
  · rw [u64_or_nat _ _ (mk64 _) (mk64 _), mask_or, mk_congr _ _ 64 (fun i _ => (has_join c d (f i)).symm)]
  · rw [u64_andNot_nat _ _ (mk64 _) (mk64 _), less_eq (mk64 _) (mk64 _), mask_less, mk_congr _ _ 64 (fun i _ => (has_less c d (f i)).symm)]
  · rw [flip_int _ (mk64 _), mask_flip, mk_congr _ _ 64 (fun i _ => (has_flip hc (f i)).symm)]
end Go.Proofs.Ytjeecpgcokjjjaa
