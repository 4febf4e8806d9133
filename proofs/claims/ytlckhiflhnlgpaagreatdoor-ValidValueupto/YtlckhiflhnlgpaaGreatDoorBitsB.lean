/-
  BitRow, BitRet, RowsKit.
-/
import Derived.Test.YtlckhiflhnlgpaaGreatDoorFormedWalk
import Derived.Laws.OwnMore
import Derived.Laws.ResultCell
import Derived.Laws.Rows
import Derived.Laws.AppendOwn
/-
  Rows of words and rows of truths that a call has made.
-/
namespace Go.Proofs.YtlckhiflhnlgpaaGreatDoor
open Go.RowKit

/-- The words as cells. -/
def rowCells (K : Nat) (Y : Nat → Nat) : Array Value := ((List.range K).map fun j => Value.int .u64 ((Y j : Nat) : Int)).toArray
theorem rowCells_size (K : Nat) (Y : Nat → Nat) : (rowCells K Y).size = K := by simp [rowCells]
theorem rowCells_get {K j : Nat} (Y : Nat → Nat) (h : j < K) : (rowCells K Y)[j]? = some (.int .u64 ((Y j : Nat) : Int)) := by simp [rowCells, h]
theorem rowCells_congr {K : Nat} {Y Y' : Nat → Nat} (h : ∀ j, j < K → Y j = Y' j) : rowCells K Y = rowCells K Y' := by
  unfold rowCells
  congr 1
  apply List.map_congr_left
  intro j hj
  rw [h j (by simpa using hj)]
theorem rowCells_set (K j x : Nat) (Y : Nat → Nat) : (rowCells K Y).setIfInBounds j (.int .u64 ((x : Nat) : Int)) = rowCells K (fun i => if i = j then x else Y i) := by
  apply Array.ext_getElem?
  intro i
  by_cases hi : i < K
  · rw [rowCells_get _ hi]
    by_cases hij : i = j
    · subst hij
      rw [Array.getElem?_setIfInBounds_self_of_lt (by rw [rowCells_size]; exact hi)]
      simp
    · rw [Array.getElem?_setIfInBounds_ne (by omega), rowCells_get _ hi]
      simp [hij]
  · rw [Array.getElem?_eq_none (by simp [rowCells_size]; omega), Array.getElem?_eq_none (by rw [rowCells_size]; omega)]
theorem rowCells_zero (K : Nat) : madeCells #[.int .u64 0] K = rowCells K (fun _ => 0) := by
  apply Array.ext_getElem?
  intro i
  by_cases hi : i < K
  · rw [rowCells_get _ hi]
    simp [madeCells, hi, Nat.mod_one]
  · rw [Array.getElem?_eq_none (by simp [madeCells]; omega), Array.getElem?_eq_none (by rw [rowCells_size]; omega)]
theorem infoW : (Tryz.prog.info? 49).map (fun i => (i.zero, i.size, i.bytes)) = some (some (.int .u64 0), 1, 8) := by kernel_rfl
theorem make_row (K : Nat) (hK : K ≤ 17592186044416) (u : World) : (Instr.makeSlice 65 (.int .i64 (K : Int)) (.int .i64 (K : Int))).run Tryz.prog u =
    .ok (.slice (some ⟨u.heap.size, 0, none⟩) K K) (u.alloc (.cells (rowCells K (fun _ => 0)) 49)) := by
  obtain ⟨i0, hi, hz0, hz1, hz2⟩ := info_parts infoW
  have h := run_make (P := Tryz.prog) u 65 49 i0 (.int .u64 0) Tryz.underlying65 hi hz0 .i64 .i64 (K : Int) (K : Int) (by omega) (Int.le_refl _) (by rw [hz2]; omega) (by omega)
  rw [Int.toNat_natCast] at h
  rw [h, ← rowCells_zero]
  simp [hz1, Value.cells]
/-- A block of words is read as a list of words. -/
theorem At.wds {w : World} {g K : Nat} {Y : Nat → Nat} {t : TypeId} (h : At w g (rowCells K Y) t) (hY : ∀ j, j < K → Y j < 18446744073709551616) {k : Nat} (hk : k ≤ K) : Wds w (some ⟨g, 0, none⟩) k Y := fun j hj => by
  refine ⟨hY j (by omega), g, 0, rfl, ?_⟩
  rw [Nat.zero_add, h.cell j, rowCells_get Y (by omega)]
/-- Which places are named by the first m numbers. -/
def setTo (Z : Nat → Int) : Nat → Nat → Bool
  | 0, _ => false
  | m + 1, i => setTo Z m i || decide (Z m = (i : Int))
end Go.Proofs.YtlckhiflhnlgpaaGreatDoor

/-
  A call's end, where a row of bits is among its results.
-/
namespace Go.Proofs.YtlckhiflhnlgpaaGreatDoor
open Go.RowKit

theorem sizeBits : (Tryz.prog.info? 81).map (·.size) = some 2 := by kernel_rfl
theorem load_bits {w : World} {b : Nat} {x y : Value} (h : At w b #[x, y] 81) : (loadVar 81 ⟨b, 0, none⟩).run Tryz.prog w = .ok (.agg #[x, y]) w :=
  run_loadVar_row (P := Tryz.prog) w b 81 81 #[x, y] (0, 0) _ h Tryz.underlying81 rfl sizeBits
theorem ret_bits2 {fn : Func} {p u : Tmp} {R : Ending → World → Prop} {a : Act} {w : World} {b : Nat} {x y : Value} (hres : fn.results = #[.cell p 81, .tmp u]) (hp : a.tmps.getD p undef = .pointer (some ⟨b, 0, none⟩))
    (h : At w b #[x, y] 81) (hd : a.defers = []) (hR : R (.returned (.tuple #[.agg #[x, y], a.tmps.getD u undef])) w) : bodyPost Tryz.prog fn R .ret a w := by
  refine bodyPost_ret (v := .tuple #[.agg #[x, y], a.tmps.getD u undef]) ?_ hd hR
  rw [results_cell_tmp hres, hp]
  simp [asAddr, load_bits h]
theorem At.two {w : World} {b : Nat} {x y x' y' : Value} (h : At w b #[x, y] 81) : At ((w.setCell ⟨b, 0, none⟩ x').setCell ⟨b, 1, none⟩ y') b #[x', y'] 81 := by
  have := (h.set 0 x').set 1 y'
  simpa using this
theorem At.facts {w : World} {b : Nat} {x y : Value} (h : At w b #[x, y] 81) : w.cell? ⟨b, 0, none⟩ = some x ∧ w.cell? ⟨b, 1, none⟩ = some y ∧ w.frozen? ⟨b, 0, none⟩ = false ∧ w.frozen? ⟨b, 1, none⟩ = false := ⟨h.cell 0, h.cell 1, h.frozen 0, h.frozen 1⟩
end Go.Proofs.YtlckhiflhnlgpaaGreatDoor

/-
  Rows that append has made: what is read of them, and what keeps them; rows of truths.
-/
namespace Go.Proofs.YtlckhiflhnlgpaaGreatDoor
open Go.RowKit

/-- The slice's cells hold these truths. -/
def Bls (w : World) (ao : Option Addr) (k : Nat) (G : Nat → Bool) : Prop := ∀ j, j < k → ∃ g off, ao = some ⟨g, off, none⟩ ∧ w.cell? ⟨g, off + j, none⟩ = some (.bool (G j))
theorem Bls.kept {w w' : World} {ao : Option Addr} {k : Nat} {G : Nat → Bool} (h : Bls w ao k G) (hb : Below w.heap.size w w') : Bls w' ao k G := fun j hj => by
  obtain ⟨g, off, h2, h3⟩ := h j hj
  exact ⟨g, off, h2, (hb.cell (p := ⟨g, off + j, none⟩) (cell_block h3)).trans h3⟩
theorem At.grown {w w' : World} {b B : Nat} {cs : Array Value} {t : TypeId} {o : Obj} {row : Option Nat} (h : At w b cs t) (hg : (w.alloc o).grownBy w' row) (hr : ∀ r, row = some r → B ≤ r) (hb : b < B) : At w' b cs t :=
  (hg.block b (h.alloc o).lt (fun e => by have := hr b e.symm; omega)).trans (h.alloc o)

theorem row_base {w : World} {B B' n : Nat} {e : TypeId} {v : Value} {xs : List Value} (h : w.ownsRow B e 1 v n xs) (hB : B' ≤ B) : w.ownsRow B' e 1 v n xs := by
  refine ⟨h.1, ?_⟩
  rcases h.2 with h2 | ⟨g, cap, cur, rfl, hb, hgb, h3⟩
  · exact .inl h2
  · exact .inr ⟨g, cap, cur, rfl, by omega, hgb, h3⟩
theorem row_succ {w : World} {B n : Nat} {e : TypeId} {v : Value} {xs : List Value} (h : w.ownsRow B e 1 v (n + 1) xs) : ∃ g cap, v = .slice (some ⟨g, 0, none⟩) (n + 1) cap := by
  rcases h.2 with ⟨_, h0⟩ | ⟨g, cap, cur, rfl, _⟩
  · omega
  · exact ⟨g, cap, rfl⟩

end Go.Proofs.YtlckhiflhnlgpaaGreatDoor
