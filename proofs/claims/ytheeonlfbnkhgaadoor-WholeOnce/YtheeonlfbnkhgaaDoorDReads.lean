/-
  The laws DecimalReads and DecimalIs, walked.
-/
import Derived.Test.YtheeonlfbnkhgaaDoorRefOf
namespace Go.Proofs.YtheeonlfbnkhgaaDoor
open Go.RowKit Go.Shelf

set_option maxRecDepth 10000 in
theorem read_out (s : ByteArray) (I : Int) (h : I < 0 ∨ (s.size : Int) < I) (w : World) :
    Calls Tryd.prog 31 #[.string s, .int .i64 I] w fun e w' => e = .returned (.tuple #[.agg #[.bool false, .string ⟨#[]⟩, .int .i64 0], .int .i64 0, .int .i64 2]) ∧ Below w.heap.size w w' := by
  have D0 := hid (show OwnD w w.heap.size false ⟨#[]⟩ 0 (w.alloc (.cells #[.bool false, .string ⟨#[]⟩, .int .i64 0] 23)) from ⟨Nat.le_refl _, At.new w _ _, by repeat (first | with_reducible exact Below.refl _ _ | with_reducible refine Below.setCell ?_ (by first | (simp; done) | (simp; omega)) _ | with_reducible refine below_drewN ?_ _ | with_reducible refine Below.alloc ?_ (by first | (simp; done) | (simp; omega)) _ | with_reducible refine Below.drew ?_)⟩)
  go_enter Tryd.func31, Tryd.ntmps31
  go_upto_region 1 with fail
  generalize w.alloc (.cells #[.bool false, .string ⟨#[]⟩, .int .i64 0] 23) = W0 at D0 ⊢
  obtain ⟨⟨c0, c1, c2⟩, f0, f1, f2⟩ := D0.out.facts
  by_cases h0 : I < 0
  · clear h
    go_wp2
    refine ret_dec3 rfl rfl (D0.out.put _ _ _).2.1 rfl ⟨rfl, (D0.out.put _ _ _).2.2⟩
  · have h1 : (s.size : Int) < I := by omega
    clear h
    go_wp2
    refine ret_dec3 rfl rfl (D0.out.put _ _ _).2.1 rfl ⟨rfl, (D0.out.put _ _ _).2.2⟩
theorem awR : readV ⟨#[120, 45, 49, 50, 46, 53, 48, 101, 51, 44]⟩ 1 = .tuple #[.agg #[.bool true, .string ⟨#[49, 50, 53]⟩, .int .i64 2], .int .i64 9, .int .i64 0] := by kernel_rfl
theorem awO : ofV ⟨#[48, 46, 53]⟩ = .tuple #[.agg #[.bool false, .string ⟨#[53]⟩, .int .i64 (-1)], .int .i64 0] := by kernel_rfl
end Go.Proofs.YtheeonlfbnkhgaaDoor
