/-
 quarryref22.Takes, path.Takes.
-/
import Derived.Test.YtbabdhepnjacdaaDoorPyI
namespace Go.Proofs.YtbabdhepnjacdaaDoor
open Go.RowKit Go.Shelf
set_option maxRecDepth 10000 in
set_option maxHeartbeats 4000000 in
theorem takes22_calls (s : Stp) (nm : ByteArray) (pl : Int) (ob : Bool) (w : World) : Calls Tryd.prog 28 #[.agg #[.int .i64 s.kind, .string s.name, .int .i64 s.place], .string nm, .int .i64 pl, .bool ob] w fun e w' => e = .returned (.bool (tkS s nm pl ob)) ∧ Below w.heap.size w w' := by
 have hof := hid (fun u => of22_calls s u)
 have htk := hid (fun u => takesI_calls s nm pl ob u)
 generalize hk : tkS s nm pl ob = T at htk ⊢
 generalize hx : ifV s = X at hof htk
 obtain ⟨k, n0, p0⟩ := s
 dsimp only at hof ⊢
 have A1 := hid (At.new w #[.int .i64 k, .string n0, .int .i64 p0] 53)
 have B1 := hid (show Below w.heap.size w (w.alloc (.cells #[.int .i64 k, .string n0, .int .i64 p0] 53)) from (Below.refl _ w).alloc (Nat.le_refl _) _)
 clear hk hx
 go_enter Tryd.func28, Tryd.ntmps28
 go_wp2_with (first | refine wpList_load_want 53 _ w.heap.size 0 [.int .i64 k, .string n0, .int .i64 p0] _ (A1.out.range rfl) Tryd.underlying53 sizeStp rfl rfl rfl (by rfl) ?_ | fail)
 refine Calls.mono (hof.out _) ?_
 rintro e w2 ⟨rfl, b2⟩
 have B2 := hid (B1.out.trans (b2.mono B1.out.size))
 clear b2 hof A1 B1
 go_wp2_with fail
 refine Calls.mono (htk.out _) ?_
 rintro e w3 ⟨rfl, b3⟩
 have B3 := hid (B2.out.trans (b3.mono B2.out.size))
 clear b3 htk B2
 go_wp2
 go_ret
 exact ⟨rfl, B3.out⟩
end Go.Proofs.YtbabdhepnjacdaaDoor
