/-
  What marks.Blanks answers.
-/
import Derived.Test.YtodhekdnbenobaaDoorPartD
namespace Go.Proofs.YtodhekdnbenobaaDoor
open Go.RowKit Go.Shelf

theorem pt_cell {w : World} {g K j f : Nat} {s : ByteArray} {t : TypeId} (h : At w g (rowCells (K * 5) (ptZ s)) t) (hj : j < K) (hf : f < 5) : w.cell? ⟨g, j * 5 + f, none⟩ = some (.int .u64 ((ptV s j f : Nat) : Int)) := by
  rw [h.cell, rowCells_get _ (by omega), ptZ, show (j * 5 + f) / 5 = j by omega, show (j * 5 + f) % 5 = f by omega]

end Go.Proofs.YtodhekdnbenobaaDoor
