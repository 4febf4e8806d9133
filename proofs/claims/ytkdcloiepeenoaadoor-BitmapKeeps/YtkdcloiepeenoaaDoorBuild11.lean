/-
  A list of eleven rows of bits, written out.
-/
import Derived.Test.YtkdcloiepeenoaaDoorApartKit5
namespace Go.Proofs.YtkdcloiepeenoaaDoor
open Go.RowKit

theorem fill_two (cs : List Value) (i : Nat) (a b : Value) (rest : List (Nat × Value)) (h : i * 2 + 2 ≤ cs.length) :
    Instr.fill (fun i => some (i * 2, 2)) cs.toArray ((i, .agg #[a, b]) :: rest) = Instr.fill (fun i => some (i * 2, 2)) ((cs.set (i * 2) a).set (i * 2 + 1) b).toArray rest := by
  rw [Instr.fill]
  have h1 : ¬ cs.length < i * 2 + 2 := by omega
  simp [Value.cells, h1]
theorem fill11 (a0 b0 a1 b1 a2 b2 a3 b3 a4 b4 a5 b5 a6 b6 a7 b7 a8 b8 a9 b9 a10 b10 : Value) : Instr.fill (fun i => some (i * 2, 2)) #[.int .i64 0, .slice none 0 0, .int .i64 0, .slice none 0 0, .int .i64 0, .slice none 0 0, .int .i64 0, .slice none 0 0, .int .i64 0, .slice none 0 0, .int .i64 0, .slice none 0 0, .int .i64 0, .slice none 0 0, .int .i64 0, .slice none 0 0, .int .i64 0, .slice none 0 0, .int .i64 0, .slice none 0 0, .int .i64 0, .slice none 0 0] [(0, .agg #[a0, b0]), (1, .agg #[a1, b1]), (2, .agg #[a2, b2]), (3, .agg #[a3, b3]), (4, .agg #[a4, b4]), (5, .agg #[a5, b5]), (6, .agg #[a6, b6]), (7, .agg #[a7, b7]), (8, .agg #[a8, b8]), (9, .agg #[a9, b9]), (10, .agg #[a10, b10])] = some #[a0, b0, a1, b1, a2, b2, a3, b3, a4, b4, a5, b5, a6, b6, a7, b7, a8, b8, a9, b9, a10, b10] := by
  rw [fill_two _ 0 a0 b0 _ (by simp)]
  simp only [Nat.reduceMul, Nat.reduceAdd, List.set_cons_zero, List.set_cons_succ]
  rw [fill_two _ 1 a1 b1 _ (by simp)]
  simp only [Nat.reduceMul, Nat.reduceAdd, List.set_cons_zero, List.set_cons_succ]
  rw [fill_two _ 2 a2 b2 _ (by simp)]
  simp only [Nat.reduceMul, Nat.reduceAdd, List.set_cons_zero, List.set_cons_succ]
  rw [fill_two _ 3 a3 b3 _ (by simp)]
  simp only [Nat.reduceMul, Nat.reduceAdd, List.set_cons_zero, List.set_cons_succ]
  rw [fill_two _ 4 a4 b4 _ (by simp)]
  simp only [Nat.reduceMul, Nat.reduceAdd, List.set_cons_zero, List.set_cons_succ]
  rw [fill_two _ 5 a5 b5 _ (by simp)]
  simp only [Nat.reduceMul, Nat.reduceAdd, List.set_cons_zero, List.set_cons_succ]
  rw [fill_two _ 6 a6 b6 _ (by simp)]
  simp only [Nat.reduceMul, Nat.reduceAdd, List.set_cons_zero, List.set_cons_succ]
  rw [fill_two _ 7 a7 b7 _ (by simp)]
  simp only [Nat.reduceMul, Nat.reduceAdd, List.set_cons_zero, List.set_cons_succ]
  rw [fill_two _ 8 a8 b8 _ (by simp)]
  simp only [Nat.reduceMul, Nat.reduceAdd, List.set_cons_zero, List.set_cons_succ]
  rw [fill_two _ 9 a9 b9 _ (by simp)]
  simp only [Nat.reduceMul, Nat.reduceAdd, List.set_cons_zero, List.set_cons_succ]
  rw [fill_two _ 10 a10 b10 _ (by simp)]
  simp only [Nat.reduceMul, Nat.reduceAdd, List.set_cons_zero, List.set_cons_succ]
  rfl
theorem zeros11 : (Array.range (11 * 2)).map (fun i => (#[Value.int .i64 0, Value.slice none 0 0] : Array Value)[i % 2]!) = #[.int .i64 0, .slice none 0 0, .int .i64 0, .slice none 0 0, .int .i64 0, .slice none 0 0, .int .i64 0, .slice none 0 0, .int .i64 0, .slice none 0 0, .int .i64 0, .slice none 0 0, .int .i64 0, .slice none 0 0, .int .i64 0, .slice none 0 0, .int .i64 0, .slice none 0 0, .int .i64 0, .slice none 0 0, .int .i64 0, .slice none 0 0] := by
  apply Array.ext'
  rw [Array.toList_map, Array.toList_range]
  rfl
set_option maxRecDepth 10000 in
theorem run_build11 (a0 b0 a1 b1 a2 b2 a3 b3 a4 b4 a5 b5 a6 b6 a7 b7 a8 b8 a9 b9 a10 b10 : Value) (w : World) : Sem.run Tryd.prog (Instr.buildSlice 36 11 #[(0, .agg #[a0, b0]), (1, .agg #[a1, b1]), (2, .agg #[a2, b2]), (3, .agg #[a3, b3]), (4, .agg #[a4, b4]), (5, .agg #[a5, b5]), (6, .agg #[a6, b6]), (7, .agg #[a7, b7]), (8, .agg #[a8, b8]), (9, .agg #[a9, b9]), (10, .agg #[a10, b10])]) w = .ok (.slice (some ⟨w.heap.size, 0, none⟩) 11 11) (w.alloc (.cells #[a0, b0, a1, b1, a2, b2, a3, b3, a4, b4, a5, b5, a6, b6, a7, b7, a8, b8, a9, b9, a10, b10] 24)) := by
  have hz : ∀ w, (zeroValue 24).run Tryd.prog w = .ok (.agg #[.int .i64 0, .slice none 0 0]) w := fun w => by kernel_rfl
  have hs : ∀ w, (sizeOf 24).run Tryd.prog w = .ok 2 w := fun w => by kernel_rfl
  have hf := fill11 a0 b0 a1 b1 a2 b2 a3 b3 a4 b4 a5 b5 a6 b6 a7 b7 a8 b8 a9 b9 a10 b10
  rw [← zeros11] at hf
  unfold Instr.buildSlice
  simp only [Sem.run_bind, run_underlying Tryd.underlying36, Result.andThen_ok, hs]
  rw [if_neg (by decide), if_neg (by decide)]
  simp only [Sem.run_bind, hz, Result.andThen_ok, Sem.run_pure, Value.cells]
  have e : (Array.range (11 * 2)).map (fun x => (#[Value.int .i64 0, Value.slice none 0 0] : Array Value)[x % (#[Value.int .i64 0, Value.slice none 0 0] : Array Value).size]!) = (Array.range (11 * 2)).map (fun i => (#[Value.int .i64 0, Value.slice none 0 0] : Array Value)[i % 2]!) := rfl
  rw [e, hf]
  rfl
end Go.Proofs.YtkdcloiepeenoaaDoor
