/-
 strconv.Itoa, and the table of powers of ten that it reads.
-/
import Derived.Test.YtgpagaielnemmaaDoorShelfB
import Derived.Test.YtgpagaielnemmaaDoorRows
import Derived.Test.YtgpagaielnemmaaDoorPack1
import Derived.Lib.LaidTab
import Derived.Lib.AppendIntMem
namespace Go.Proofs.YtgpagaielnemmaaDoor
open Go.RowKit Go.Shelf
/-- The table of powers of ten: its name, as the row has it. -/
abbrev powNm : String := Rows.pointerLeadsRow.named.getD 3 default
def PowT (w : World) : Prop := Lib.TabIs Tryd.prog w powNm .u64 Lib.pow10Tab
theorem gPowN : (Tryd.prog.globalNamed powNm).isSome = true := by kernel_rfl
theorem PowT.kept {w w' : World} (h : PowT w) (hb : Below w.heap.size w w') : PowT w' := by
 obtain ⟨g, hg⟩ := Option.isSome_iff_exists.1 gPowN
 unfold PowT Lib.TabIs World.var? at h ⊢
 rw [hg] at h ⊢
 simp only [Option.bind_some] at h ⊢
 cases ho : w.heap[g]? with
 | none => rw [ho] at h; cases h
 | some o =>
  have hlt : g < w.heap.size := (Array.getElem?_eq_some_iff.1 ho).1
  rw [hb.block g hlt]
  exact h
theorem itoa_calls (x : Int) (h0 : -9223372036854775808 ≤ x) (h1 : x ≤ 9223372036854775807) (w : World) (hT : PowT w) :
  Calls Tryd.prog 59 #[.int .i64 x] w fun e w' => e = .returned (.string ⟨(Lib.itoa x).toArray⟩) ∧ Below w.heap.size w w' := by
 refine Calls.mono (show Calls Tryd.prog 59 #[.int .i64 x] w fun e w' => e = .returned (.string ⟨(Lib.itoa x).toArray⟩) ∧ ∃ k os, w' = Sort.grow (w.drewN k) os from Any.strconv_Itoa Tryd.laysM171 x h0 h1 w hT) ?_
 rintro e w' ⟨rfl, k, os, rfl⟩
 exact ⟨rfl, Lib.below_grow _ w (Nat.le_refl _) k os⟩
end Go.Proofs.YtgpagaielnemmaaDoor
