/-
  Texts of mine that others lean on, one behind the other.
-/
import Derived.Test.YthakingpeegagaaDoorPack2
import Derived.Laws.OwnMore
import Derived.Laws.ResultCell
import Derived.Laws.Rows
import Derived.Laws.AppendOwn
import Derived.Test.YthakingpeegagaaDoorPack1
import Derived.WalkMore
/-
  BitRow, BitRet, RowsKit.
-/
/-
  Rows of words and rows of truths that a call has made.
-/
namespace Go.Proofs.YthakingpeegagaaDoor
open Go.RowKit

/-- The words as cells. -/
def rowCells (K : Nat) (Y : Nat → Nat) : Array Value := ((List.range K).map fun j => Value.int .u64 ((Y j : Nat) : Int)).toArray
theorem rowCells_size (K : Nat) (Y : Nat → Nat) : (rowCells K Y).size = K := by simp [rowCells]
theorem rowCells_get {K j : Nat} (Y : Nat → Nat) (h : j < K) : (rowCells K Y)[j]? = some (.int .u64 ((Y j : Nat) : Int)) := by simp [rowCells, h]
theorem rowCells_congr {K : Nat} {Y Y' : Nat → Nat} (h : ∀ j, j < K → Y j = Y' j) : rowCells K Y = rowCells K Y' := by
  unfold rowCells
  congr 1
  apply List.map_congr_left
  intro j hj
  rw [h j (by simpa using hj)]
theorem rowCells_set (K j x : Nat) (Y : Nat → Nat) : (rowCells K Y).setIfInBounds j (.int .u64 ((x : Nat) : Int)) = rowCells K (fun i => if i = j then x else Y i) := by
  apply Array.ext_getElem?
  intro i
  by_cases hi : i < K
  · rw [rowCells_get _ hi]
    by_cases hij : i = j
    · subst hij
      rw [Array.getElem?_setIfInBounds_self_of_lt (by rw [rowCells_size]; exact hi)]
      simp
    · rw [Array.getElem?_setIfInBounds_ne (by omega), rowCells_get _ hi]
      simp [hij]
  · rw [Array.getElem?_eq_none (by simp [rowCells_size]; omega), Array.getElem?_eq_none (by rw [rowCells_size]; omega)]
theorem rowCells_zero (K : Nat) : madeCells #[.int .u64 0] K = rowCells K (fun _ => 0) := by
  apply Array.ext_getElem?
  intro i
  by_cases hi : i < K
  · rw [rowCells_get _ hi]
    simp [madeCells, hi, Nat.mod_one]
  · rw [Array.getElem?_eq_none (by simp [madeCells]; omega), Array.getElem?_eq_none (by rw [rowCells_size]; omega)]
theorem infoW : (Tryd.prog.info? 58).map (fun i => (i.zero, i.size, i.bytes)) = some (some (.int .u64 0), 1, 8) := by kernel_rfl
theorem make_row (K : Nat) (hK : K ≤ 17592186044416) (u : World) : (Instr.makeSlice 23 (.int .i64 (K : Int)) (.int .i64 (K : Int))).run Tryd.prog u =
    .ok (.slice (some ⟨u.heap.size, 0, none⟩) K K) (u.alloc (.cells (rowCells K (fun _ => 0)) 58)) := by
  obtain ⟨i0, hi, hz0, hz1, hz2⟩ := info_parts infoW
  have h := run_make (P := Tryd.prog) u 23 58 i0 (.int .u64 0) Tryd.underlying23 hi hz0 .i64 .i64 (K : Int) (K : Int) (by omega) (Int.le_refl _) (by rw [hz2]; omega) (by omega)
  rw [Int.toNat_natCast] at h
  rw [h, ← rowCells_zero]
  simp [hz1, Value.cells]
/-- A block of words is read as a list of words. -/
theorem At.wds {w : World} {g K : Nat} {Y : Nat → Nat} {t : TypeId} (h : At w g (rowCells K Y) t) (hY : ∀ j, j < K → Y j < 18446744073709551616) {k : Nat} (hk : k ≤ K) : Wds w (some ⟨g, 0, none⟩) k Y := fun j hj => by
  refine ⟨hY j (by omega), g, 0, rfl, ?_⟩
  rw [Nat.zero_add, h.cell j, rowCells_get Y (by omega)]
theorem wds_none (w : World) (ao : Option Addr) (X : Nat → Nat) : Wds w ao 0 X := fun j hj => by omega

/-- Which places are named by the first m numbers. -/
def setTo (Z : Nat → Int) : Nat → Nat → Bool
  | 0, _ => false
  | m + 1, i => setTo Z m i || decide (Z m = (i : Int))
theorem rowOf_none (Z : Nat → Int) (N j : Nat) : rowOf (setTo Z 0) N j = 0 := by
  refine (rowOf_eq (by decide) (fun r _ => ?_)).symm
  simp [setTo]
/-- One place more. -/
theorem rowOf_next {Z : Nat → Int} {m N P : Nat} (hZ : Z m = (P : Int)) (hP : P < N) (j : Nat) : rowOf (setTo Z (m + 1)) N j = if j = P / 64 then rowOf (setTo Z m) N (P / 64) ||| 2 ^ (P % 64) else rowOf (setTo Z m) N j := by
  have hx : (if j = P / 64 then rowOf (setTo Z m) N (P / 64) ||| 2 ^ (P % 64) else rowOf (setTo Z m) N j) < 18446744073709551616 := by
    split
    · exact Nat.or_lt_two_pow (n := 64) (rowOf_lt _ _ _) (Nat.pow_lt_pow_right (by decide) (by omega))
    · exact rowOf_lt _ _ _
  refine (rowOf_eq hx (fun r hr => ?_)).symm
  have hb : ∀ j', (rowOf (setTo Z m) N j').testBit r = (decide (64 * j' + r < N) && setTo Z m (64 * j' + r)) := fun j' => by
    rw [rowOf, sumBits_bit, decide_eq_true hr]; rfl
  rw [setTo, hZ]
  by_cases hj : j = P / 64
  · rw [if_pos hj, Nat.testBit_or, hb, Nat.testBit_two_pow, ← hj]
    by_cases hr' : P % 64 = r
    · have e : (P : Int) = ((64 * j + r : Nat) : Int) := by omega
      rw [decide_eq_true hr', decide_eq_true e, decide_eq_true (show 64 * j + r < N by omega)]
      simp
    · have e : ¬ (P : Int) = ((64 * j + r : Nat) : Int) := by omega
      rw [decide_eq_false hr', decide_eq_false e]
      simp
  · rw [if_neg hj, hb]
    have e : ¬ (P : Int) = ((64 * j + r : Nat) : Int) := by omega
    rw [decide_eq_false e]
    simp
end Go.Proofs.YthakingpeegagaaDoor

/-
  A call's end, where a row of bits is among its results.
-/
namespace Go.Proofs.YthakingpeegagaaDoor
open Go.RowKit

theorem sizeBits : (Tryd.prog.info? 25).map (·.size) = some 2 := by kernel_rfl
theorem load_bits {w : World} {b : Nat} {x y : Value} (h : At w b #[x, y] 25) : (loadVar 25 ⟨b, 0, none⟩).run Tryd.prog w = .ok (.agg #[x, y]) w :=
  run_loadVar_row (P := Tryd.prog) w b 25 25 #[x, y] (0, 0) _ h Tryd.underlying25 rfl sizeBits
theorem ret_bits2 {fn : Func} {p u : Tmp} {R : Ending → World → Prop} {a : Act} {w : World} {b : Nat} {x y : Value} (hres : fn.results = #[.cell p 25, .tmp u]) (hp : a.tmps.getD p undef = .pointer (some ⟨b, 0, none⟩))
    (h : At w b #[x, y] 25) (hd : a.defers = []) (hR : R (.returned (.tuple #[.agg #[x, y], a.tmps.getD u undef])) w) : bodyPost Tryd.prog fn R .ret a w := by
  refine bodyPost_ret (v := .tuple #[.agg #[x, y], a.tmps.getD u undef]) ?_ hd hR
  rw [results_cell_tmp hres, hp]
  simp [asAddr, load_bits h]
theorem ret_bits1 {fn : Func} {p : Tmp} {R : Ending → World → Prop} {a : Act} {w : World} {b : Nat} {x y : Value} (hres : fn.results = #[.cell p 25]) (hp : a.tmps.getD p undef = .pointer (some ⟨b, 0, none⟩))
    (h : At w b #[x, y] 25) (hd : a.defers = []) (hR : R (.returned (.agg #[x, y])) w) : bodyPost Tryd.prog fn R .ret a w :=
  bodyPost_ret (v := .agg #[x, y]) (results_cell_row (P := Tryd.prog) hres _ w b 25 #[x, y] (0, 0) _ hp h Tryd.underlying25 rfl sizeBits) hd hR
theorem At.two {w : World} {b : Nat} {x y x' y' : Value} (h : At w b #[x, y] 25) : At ((w.setCell ⟨b, 0, none⟩ x').setCell ⟨b, 1, none⟩ y') b #[x', y'] 25 := by
  have := (h.set 0 x').set 1 y'
  simpa using this
theorem At.facts {w : World} {b : Nat} {x y : Value} (h : At w b #[x, y] 25) : w.cell? ⟨b, 0, none⟩ = some x ∧ w.cell? ⟨b, 1, none⟩ = some y ∧ w.frozen? ⟨b, 0, none⟩ = false ∧ w.frozen? ⟨b, 1, none⟩ = false := ⟨h.cell 0, h.cell 1, h.frozen 0, h.frozen 1⟩
end Go.Proofs.YthakingpeegagaaDoor

/-
  Rows that append has made: what is read of them, and what keeps them; rows of truths.
-/
namespace Go.Proofs.YthakingpeegagaaDoor
open Go.RowKit

/-- The slice's cells hold these truths. -/
def Bls (w : World) (ao : Option Addr) (k : Nat) (G : Nat → Bool) : Prop := ∀ j, j < k → ∃ g off, ao = some ⟨g, off, none⟩ ∧ w.cell? ⟨g, off + j, none⟩ = some (.bool (G j))
theorem Bls.kept {w w' : World} {ao : Option Addr} {k : Nat} {G : Nat → Bool} (h : Bls w ao k G) (hb : Below w.heap.size w w') : Bls w' ao k G := fun j hj => by
  obtain ⟨g, off, h2, h3⟩ := h j hj
  exact ⟨g, off, h2, (hb.cell (p := ⟨g, off + j, none⟩) (cell_block h3)).trans h3⟩
/-- The first i words, as cells. -/
def wl (Y : Nat → Nat) (i : Nat) : List Value := (List.range i).map fun j => Value.int .u64 ((Y j : Nat) : Int)
theorem wl_succ (Y : Nat → Nat) (i : Nat) : wl Y i ++ [.int .u64 ((Y i : Nat) : Int)] = wl Y (i + 1) := by simp [wl, List.range_succ]
/-- A row that append has made is read as a list of words. -/
theorem wds_of_row {W : World} {v : Value} {B K : Nat} {Y : Nat → Nat} (h : W.ownsRow B 58 1 v K (wl Y K)) (hY : ∀ j, j < K → Y j < 18446744073709551616) : ∃ ao cap, v = .slice ao K cap ∧ Wds W ao K Y := by
  rcases h.2 with ⟨rfl, h0⟩ | ⟨g, cap, cur, rfl, hb, hgb, h3⟩
  · exact ⟨none, 0, by rw [h0], fun j hj => by omega⟩
  · refine ⟨_, cap, rfl, fun j hj => ⟨hY j hj, g, 0, rfl, ?_⟩⟩
    have := h.cells (g := g) rfl j (.int .u64 ((Y j : Nat) : Int)) (by simp [wl, hj])
    rwa [show (⟨g, 0, none⟩ : Addr).add j = ⟨g, 0 + j, none⟩ by by_cases h : j = 0 <;> simp [Addr.add, h]] at this

theorem At.grown {w w' : World} {b B : Nat} {cs : Array Value} {t : TypeId} {o : Obj} {row : Option Nat} (h : At w b cs t) (hg : (w.alloc o).grownBy w' row) (hr : ∀ r, row = some r → B ≤ r) (hb : b < B) : At w' b cs t :=
  (hg.block b (h.alloc o).lt (fun e => by have := hr b e.symm; omega)).trans (h.alloc o)

theorem row_other {w : World} {B n : Nat} {e : TypeId} {v : Value} {xs : List Value} (h : w.ownsRow B e 1 v n xs) {p : Addr} (hp : p.block < B) (u : Value) : (w.setCell p u).ownsRow B e 1 v n xs := by
  refine ⟨h.1, ?_⟩
  rcases h.2 with h2 | ⟨g, cap, cur, rfl, hb, hgb, h3⟩
  · exact .inl h2
  · exact .inr ⟨g, cap, cur, rfl, hb, (Below.heap_setCell w p u g (by omega)).trans hgb, h3⟩
theorem row_base {w : World} {B B' n : Nat} {e : TypeId} {v : Value} {xs : List Value} (h : w.ownsRow B e 1 v n xs) (hB : B' ≤ B) : w.ownsRow B' e 1 v n xs := by
  refine ⟨h.1, ?_⟩
  rcases h.2 with h2 | ⟨g, cap, cur, rfl, hb, hgb, h3⟩
  · exact .inl h2
  · exact .inr ⟨g, cap, cur, rfl, by omega, hgb, h3⟩
theorem row_keptAll {w w' : World} {B n : Nat} {e : TypeId} {v : Value} {xs : List Value} (h : w.ownsRow B e 1 v n xs) (hb : Below w.heap.size w w') : w'.ownsRow B e 1 v n xs := by
  refine ⟨h.1, ?_⟩
  rcases h.2 with h2 | ⟨g, cap, cur, rfl, hb', hgb, h3⟩
  · exact .inl h2
  · exact .inr ⟨g, cap, cur, rfl, hb', (hb.block g (Array.getElem?_eq_some_iff.1 hgb).1).trans hgb, h3⟩
theorem row_succ {w : World} {B n : Nat} {e : TypeId} {v : Value} {xs : List Value} (h : w.ownsRow B e 1 v (n + 1) xs) : ∃ g cap, v = .slice (some ⟨g, 0, none⟩) (n + 1) cap := by
  rcases h.2 with ⟨_, h0⟩ | ⟨g, cap, cur, rfl, _⟩
  · omega
  · exact ⟨g, cap, rfl⟩

theorem row_slice {w : World} {B n : Nat} {e : TypeId} {v : Value} {xs : List Value} (h : w.ownsRow B e 1 v n xs) : ∃ ao cap, v = .slice ao n cap := by
  rcases h.2 with ⟨rfl, h0⟩ | ⟨g, cap, cur, rfl, _⟩
  · exact ⟨none, 0, by rw [h0]⟩
  · exact ⟨_, cap, rfl⟩
end Go.Proofs.YthakingpeegagaaDoor

/-
  RefIs, RefIs2.
-/
/-
  What quarryref06.Odd, Is and Behind answer.
-/
namespace Go.Proofs.YthakingpeegagaaDoor
open Go.RowKit

end Go.Proofs.YthakingpeegagaaDoor

/-
  What quarryref06.Is and quarryref06.Behind answer.
-/
namespace Go.Proofs.YthakingpeegagaaDoor
open Go.RowKit

/-- The first i truths, as cells. -/
def bl6 (G : Nat → Bool) (i : Nat) : List Value := (List.range i).map fun j => Value.bool (G j)
theorem bl6_succ (G : Nat → Bool) (i : Nat) : bl6 G i ++ [.bool (G i)] = bl6 G (i + 1) := by simp [bl6, List.range_succ]
theorem infoB6 : (Tryd.prog.info? 4).map (fun i => (i.zero, i.size, i.bytes)) = some (some (.bool false), 1, 1) := by kernel_rfl
theorem row1_new (w : World) (B : Nat) (hB : B ≤ w.heap.size) (c : Bool) (G : Nat → Bool) (h : G 0 = c) : (w.alloc (.cells #[.bool c] 4)).ownsRow B 4 1 (.slice (some ⟨w.heap.size, 0, none⟩) 1 1) 1 (bl6 G 1) :=
  ⟨rfl, .inr ⟨w.heap.size, 1, #[.bool c], rfl, hB, At.new w _ _, Nat.le_refl _, by unfold maxLen; decide, rfl, by simp [bl6, h]⟩⟩
theorem row6_cell {w : World} {B n : Nat} {v : Value} {G : Nat → Bool} (h : w.ownsRow B 4 1 v n (bl6 G n)) {i : Nat} (hi : i < n) : ∃ g cap, v = .slice (some ⟨g, 0, none⟩) n cap ∧ w.cell? ⟨g, i, none⟩ = some (.bool (G i)) := by
  rcases h.2 with ⟨_, h0⟩ | ⟨g, cap, cur, rfl, hb, hgb, h3⟩
  · omega
  · refine ⟨g, cap, rfl, ?_⟩
    have := h.cells (g := g) rfl i (.bool (G i)) (by simp [bl6, hi])
    rwa [show (⟨g, 0, none⟩ : Addr).add i = ⟨g, i, none⟩ by by_cases h : i = 0 <;> simp [Addr.add, h]] at this

end Go.Proofs.YthakingpeegagaaDoor

/-
  What quarryref04.need, quarryref04.bit and quarryref04.Formed answer.
-/
namespace Go.Proofs.YthakingpeegagaaDoor
open Go.RowKit

theorem mod2_bit (x r : Nat) : (((x : Int) / 2 ^ r).tmod 2 == 1) = x.testBit r := by
  have h0 : 0 ≤ (x : Int) / 2 ^ r := Int.ediv_nonneg (by omega) (Int.le_of_lt (Int.pow_pos (by decide)))
  rw [Nat.testBit_eq_decide_div_mod_eq, Int.tmod_eq_emod_of_nonneg h0]
  have : ((x : Int) / 2 ^ r) % 2 = ((x / 2 ^ r % 2 : Nat) : Int) := by simp
  rw [this]
  by_cases h : x / 2 ^ r % 2 = 1
  · simp [h]
  · rw [decide_eq_false h]
    simp; omega

end Go.Proofs.YthakingpeegagaaDoor

/-
  What quarryref04.Of answers; rows of truths.
-/
namespace Go.Proofs.YthakingpeegagaaDoor
open Go.RowKit

theorem hiB_step (g : Nat → Bool) (t : Nat) (ht : t < 64) : 2 * hiB g t < 18446744073709551616 ∧ 2 * hiB g t + 1 < 18446744073709551616 := by
  have h1 := hiB_lt g t
  have h2 : 2 ^ t ≤ 2 ^ 63 := Nat.pow_le_pow_right (by decide) (by omega)
  omega

end Go.Proofs.YthakingpeegagaaDoor

/-
  What quarryref00.SameBits answers.
-/
namespace Go.Proofs.YthakingpeegagaaDoor
open Go.RowKit

set_option maxRecDepth 10000 in
set_option maxHeartbeats 1000000 in
theorem same_calls (n m : Int) (ao bo : Option Addr) (k l cap cap' : Nat) (X Y : Nat → Nat) (B : Bool) (hn : (Lit.int .i64 n).wf = true) (hm : (Lit.int .i64 m).wf = true) (hk : k ≤ 17592186044416) (hl : l ≤ 17592186044416)
    (hB : Hid ((n = m ∧ k = l ∧ ∀ j, j < k → X j = Y j) ↔ B = true)) (w : World) (hW : Wds w ao k X) (hV : Wds w bo l Y) :
    Calls Tryd.prog 21 #[bv n ao k cap, bv m bo l cap'] w fun e w' => e = .returned (.bool B) ∧ Below w.heap.size w w' := by
  obtain ⟨hn1, hn2⟩ := wf_i64 hn
  obtain ⟨hm1, hm2⟩ := wf_i64 hm
  clear hn hm
  go_enter Tryd.func21, Tryd.ntmps21
  by_cases h : n = m ∧ k = l
  · obtain ⟨rfl, rfl⟩ := h
    have e1 : (n != n) = false := by simp
    have e2 : ((k : Int) != (k : Int)) = false := by simp
    clear hn1 hn2 hm1 hm2
    go_wp2
    go_loopw [5] (fun ii wr => ∃ i : Nat, i ≤ k ∧ Hid (∀ j, j < i → X j = Y j) ∧ ii = .int .i64 (i : Int) ∧ At wr w.heap.size #[.int .i64 n, .slice ao k cap] 25 ∧ At wr (w.heap.size + 1) #[.int .i64 n, .slice bo k cap'] 25 ∧ Below w.heap.size w wr) (fun ii _ => k - (intOf ii).toNat)
    case atStart =>
      refine ⟨0, Nat.zero_le _, fun j hj => by omega, rfl, (At.new w _ _).alloc _, ?_, by repeat (first | with_reducible exact Below.refl _ _ | with_reducible refine Below.setCell ?_ (by first | (simp; done) | (simp; omega)) _ | with_reducible refine below_drewN ?_ _ | with_reducible refine Below.alloc ?_ (by first | (simp; done) | (simp; omega)) _ | with_reducible refine Below.drew ?_)⟩
      have := At.new (w.alloc (.cells #[.int .i64 n, .slice ao k cap] 25)) #[.int .i64 n, .slice bo k cap'] 25
      simpa using this
    case round =>
      obtain ⟨i, hi, hz, rfl, a1, a2, hb⟩ := hrel
      have c1 := a1.cell 1
      have c2 := a2.cell 1
      simp only [List.getElem?_toArray, List.getElem?_cons_zero, List.getElem?_cons_succ] at c1 c2
      by_cases hlt : i < k
      · obtain ⟨hx, g, off, rfl, hcell⟩ := hW i hlt
        obtain ⟨hy, g', off', rfl, hcell'⟩ := hV i hlt
        have d1 := (hb.cell (p := ⟨g, off + i, none⟩) (cell_block hcell)).trans hcell
        have d2 := (hb.cell (p := ⟨g', off' + i, none⟩) (cell_block hcell')).trans hcell'
        obtain ⟨x, hx'⟩ : ∃ x, Hid (X i = x) := ⟨_, rfl⟩
        obtain ⟨y, hy'⟩ : ∃ y, Hid (Y i = y) := ⟨_, rfl⟩
        rw [hx'.out] at d1 hx
        rw [hy'.out] at d2 hy
        have hB' : Hid _ := hB.out
        have a1' : Hid _ := a1
        have a2' : Hid _ := a2
        clear hB hW hV hcell hcell' a1 a2
        by_cases he : x = y
        · have e3 : ((x : Int) != (y : Int)) = false := by simp [he]
          have he' : Hid _ := he
          clear he
          go_wp2
          go_quiet (fail)
          go_wp2
          go_roundw
          case rel => exact ⟨i + 1, by omega, fun j hj => by
                        by_cases hji : j = i
                        · rw [hji, hx'.out, hy'.out]; exact he'.out
                        · exact hz.out j (by omega), by simp, a1'.out, a2'.out, below_drewN hb _⟩
          case measure => simp [intOf]; omega
        · have e3 : ((x : Int) != (y : Int)) = true := by simp; omega
          obtain rfl : B = false := by
            cases B
            · rfl
            · have := (hB'.out.2 rfl).2.2 i hlt
              rw [hx'.out, hy'.out] at this; exact (he this).elim
          clear hB' he
          go_wp2
          go_quiet (fail)
          go_wp2
          go_ret
          exact ⟨rfl, below_drewN hb _⟩
      · obtain rfl : i = k := by omega
        obtain rfl : B = true := hB.out.1 ⟨by trivial, by trivial, hz.out⟩
        clear hB hz hW hV a1 a2
        go_wp2
        go_ret
        exact ⟨rfl, hb⟩
  · obtain rfl : B = false := by
      cases B
      · rfl
      · exact (h ⟨(hB.out.2 rfl).1, (hB.out.2 rfl).2.1⟩).elim
    clear hB hW hV
    by_cases hnm : n = m
    · have e1 : (n != m) = false := by simp [hnm]
      have e2 : ((k : Int) != (l : Int)) = true := by simp; omega
      clear h hnm
      go_wp2
      go_ret
      exact ⟨rfl, by repeat (first | with_reducible exact Below.refl _ _ | with_reducible refine Below.setCell ?_ (by first | (simp; done) | (simp; omega)) _ | with_reducible refine below_drewN ?_ _ | with_reducible refine Below.alloc ?_ (by first | (simp; done) | (simp; omega)) _ | with_reducible refine Below.drew ?_)⟩
    · have e1 : (n != m) = true := by simpa using hnm
      clear h hnm
      go_wp2
      go_ret
      exact ⟨rfl, by repeat (first | with_reducible exact Below.refl _ _ | with_reducible refine Below.setCell ?_ (by first | (simp; done) | (simp; omega)) _ | with_reducible refine below_drewN ?_ _ | with_reducible refine Below.alloc ?_ (by first | (simp; done) | (simp; omega)) _ | with_reducible refine Below.drew ?_)⟩
end Go.Proofs.YthakingpeegagaaDoor

/-
  EscWords, EscRow, RefEsc, EscLawKit.
-/
/-
  Of no program: the words of the row of escaped bytes.
-/
namespace Go.Proofs.YthakingpeegagaaDoor

/-- Which bytes of a text are escaped. -/
def escS (s : ByteArray) : Nat → Bool := escG (slash s) false
theorem escC_G (x : Nat) (c : Bool) (n : Nat) : escC x c n = escG x.testBit c n := by
  induction n with
  | zero => rfl
  | succ n ih => rw [escC_succ, escG_succ, ih]
/-- The backslashes of the block r, as a word. -/
def slashW (s : ByteArray) (r : Nat) : Nat := mk (fun i => isB 92 (cutF s ((64 * r : Nat) : Int) 0 i)) 64
theorem slashW_lt (s : ByteArray) (r : Nat) : slashW s r < 18446744073709551616 := mk_lt64 _ 64 (by decide)
theorem slashW_bit (s : ByteArray) (r i : Nat) (hi : i < 64) : (slashW s r).testBit i = slash s (64 * r + i) := by
  unfold slashW
  rw [mk_bit, decide_eq_true hi, Bool.true_and]
  unfold cutF isB
  by_cases h : 64 * r + i < s.size
  · rw [if_pos ⟨by omega, by omega⟩]
    rfl
  · rw [if_neg (by omega), slash_out s _ (by omega)]
    rfl
theorem escW_word (s : ByteArray) (r n : Nat) (hn : n ≤ 64) : escC (slashW s r) (escS s (64 * r)) n = escS s (64 * r + n) := by
  unfold escS
  rw [escC_G, escG_add]
  exact escG_congr _ fun i hi => slashW_bit s r i (by omega)
theorem escW_row (s : ByteArray) (r : Nat) : escW (slashW s r) (escS s (64 * r)) &&& lowm ((s.size : Int) - 64 * (r : Int)) = rowOf (escS s) s.size r :=
  turn_row (escW_lt _ _) fun i hi => by rw [escW_bit _ _ hi, escW_word s r i (by omega)]
theorem escC_none (n : Nat) : escC 0 false n = false := by
  cases n with
  | zero => rfl
  | succ n => rw [escC_succ]; simp
theorem escW_none : escW 0 false = 0 := by
  refine (zero_iff (escW_lt _ _)).2 fun r hr => ?_
  rw [escW_bit _ _ hr, escC_none]
/-- Where a block has no backslash and nothing is carried. -/
theorem esc_skip (s : ByteArray) (r : Nat) (h : slashW s r = 0) (hc : escS s (64 * r) = false) : rowOf (escS s) s.size r = 0 ∧ escS s (64 * (r + 1)) = false := by
  refine ⟨?_, ?_⟩
  · rw [← escW_row, h, hc, escW_none]; exact Nat.zero_and _
  · rw [Nat.mul_succ, ← escW_word s r 64 (by decide), h, hc, escC_none]
theorem esc_next (s : ByteArray) (r : Nat) : escC (slashW s r) (escS s (64 * r)) 64 = escS s (64 * (r + 1)) := by
  rw [escW_word s r 64 (by decide), Nat.mul_succ]

/-- The row as far as its first r words are told; no bit behind them. -/
def escTo (s : ByteArray) (r : Nat) (j : Nat) : Nat := if j < r then rowOf (escS s) s.size j else 0
theorem escTo_lt (s : ByteArray) (r j : Nat) : escTo s r j < 18446744073709551616 := by
  unfold escTo
  split
  · exact rowOf_lt _ _ _
  · decide
theorem escTo_skip (s : ByteArray) (r j : Nat) (h : rowOf (escS s) s.size r = 0) : escTo s r j = escTo s (r + 1) j := by
  unfold escTo
  by_cases hj : j < r
  · rw [if_pos hj, if_pos (by omega)]
  · rw [if_neg hj]
    by_cases hr : j = r
    · rw [if_pos (by omega), hr, h]
    · rw [if_neg (by omega)]
theorem escTo_set (s : ByteArray) (r j : Nat) : (if j = r then rowOf (escS s) s.size r else escTo s r j) = escTo s (r + 1) j := by
  unfold escTo
  by_cases hr : j = r
  · rw [if_pos hr, if_pos (by omega), hr]
  · rw [if_neg hr]
    by_cases hj : j < r
    · rw [if_pos hj, if_pos (by omega)]
    · rw [if_neg hj, if_neg (by omega)]
end Go.Proofs.YthakingpeegagaaDoor

/-
  What escape.Escaped answers.
-/
namespace Go.Proofs.YthakingpeegagaaDoor
open Go.RowKit Go.Shelf

attribute [local go_sem] Oper.semAt_some

set_option maxRecDepth 10000 in
theorem belowE_calls (I M : Nat) (hM : Hid (lowm (I : Int) = M)) (w : World) : Calls Tryd.prog 43 #[.int .i64 (I : Int)] w fun e w' => e = .returned (.int .u64 (M : Int)) ∧ w' = w := by
  have hm := hM.out
  go_enter Tryd.func43, Tryd.ntmps43
  by_cases h64 : I < 64
  · have hp : (2 : Nat) ^ I ≤ 9223372036854775808 := Nat.pow_le_pow_right (n := 2) (j := 63) (by decide) (by omega)
    have hp0 : 0 < (2 : Nat) ^ I := Nat.pow_pos (by decide)
    have b : IntKind.u64.wrap (IntKind.u64.wrap ((2 : Int) ^ I) - 1) = (M : Int) := by
      have w1 : IntKind.u64.wrap ((2 : Int) ^ I) = ((2 ^ I : Nat) : Int) := (put_bit (X := 0) (by omega) h64).1
      rw [w1, IntKind.wrap_u64, ← hm, lowm, show min ((I : Nat) : Int).toNat 64 = I by simp; omega]
      omega
    replace b : Hid _ := b
    clear hm hM hp hp0
    go_wp2
    go_ret
    refine ⟨?_, rfl⟩
    first | (rw [b.out]; rfl) | rfl
  · have b : IntKind.u64.wrap (IntKind.u64.wrap ((2 : Int) ^ min I 64) - 1) = (M : Int) := by
      rw [← hm, lowm, show min I 64 = 64 by omega, show min ((I : Nat) : Int).toNat 64 = 64 by simp; omega]
      decide
    replace b : Hid _ := b
    clear hm hM
    go_wp2
    go_ret
    refine ⟨?_, rfl⟩
    first | (rw [b.out]; rfl) | rfl

/-- Between two rounds: the row Y and what is carried. -/
def EsI (w : World) (s : ByteArray) (K : Nat) (pre : List Nat) (W : World) : Prop :=
  ∃ (Y : Nat → Nat) (c : Bool), Hid (pre = List.range pre.length → c = escS s (64 * pre.length) ∧ ∀ j, Y j = escTo s pre.length j) ∧ (At W w.heap.size #[.string s] 9 ∧ At W (w.heap.size + 1) #[.int .i64 0, .slice none 0 0] 25 ∧ At W (w.heap.size + 1 + 1) (rowCells K Y) 58 ∧
    At W (w.heap.size + 1 + 1 + 1) #[.slice (some ⟨w.heap.size + 1 + 1, 0, none⟩) K K] 23 ∧ At W (w.heap.size + 1 + 1 + 1 + 1) #[.bool c] 4 ∧ w.heap.size + 7 ≤ W.heap.size) ∧ Below w.heap.size w W
/-- The frame in which a round's body begins. -/
def EsA (w : World) (s : ByteArray) (K : Nat) (x : Nat) (a' : Act) (W : World) : Prop :=
  ∃ (g A : Nat) (L : List Value), Hid (A = 64 * min x (blocksOf s - 1)) ∧ Hid (L.toArray = arr64 (cutF s (A : Int) 0)) ∧ Hid (L.length = 64) ∧ w.heap.size + 6 < g ∧ At W g L.toArray 57 ∧ a' = { tmps := #[.string s, .pointer (some ⟨w.heap.size, 0, none⟩), .pointer (some ⟨w.heap.size + 1, 0, none⟩), .pointer (some ⟨w.heap.size + 1 + 1 + 1, 0, none⟩), .pointer (some ⟨w.heap.size + 1 + 1 + 1 + 1, 0, none⟩), .int .i64 (A : Int), .pointer (some ⟨g, 0, none⟩), undef, undef, .string s, .int .i64 (s.size : Int), .int .i64 ((s.size : Int) + 63), .int .i64 (K : Int), .slice (some ⟨w.heap.size + 1 + 1, 0, none⟩) K K, .string s, .func (.func 44) #[] #[.pointer (some ⟨w.heap.size + 1 + 1 + 1 + 1 + 1, 0, none⟩), .pointer (some ⟨w.heap.size + 1 + 1 + 1 + 1 + 1 + 1, 0, none⟩)], .int .i64 (A : Int), .agg L.toArray, undef, undef, undef, undef, undef, undef, undef, undef, undef, undef, undef, undef, undef, undef, undef, undef, undef, undef, undef, undef, undef, undef, undef, undef, undef, undef, undef, undef, undef], defers := [] }
section
variable {w : World} {s : ByteArray} {K B : Nat}
theorem esI_own (hB : w.heap.size ≤ B) : OwnFrom B (EsI w s K) := fun t X Z row hs hg hr => by
  obtain ⟨Y, c, hI, ⟨h1, h2, h3, h4, h5, h6⟩, hb⟩ := hs
  have hr' := fun r e => (hr r e).2
  exact ⟨Y, c, hI, ⟨h1.own hg hr', h2.own hg hr', h3.own hg hr', h4.own hg hr', h5.own hg hr', Nat.le_trans h6 hg.size⟩, ownFrom_below (β := List Nat) (Nat.le_refl _) hB t X Z row hb hg hr⟩
theorem esA_own (x : Nat) (a' : Act) : OwnFrom B (fun (_ : Unit) W => EsA w s K x a' W) := fun _ X Y row hs hg hr => by
  obtain ⟨g, A, L, h1, h2, h3, h4, h5, h6⟩ := hs
  exact ⟨g, A, L, h1, h2, h3, h4, h5.own hg (fun r e => (hr r e).2), h6⟩
theorem esI_kept {pre : List Nat} {X Z : World} (h : EsI w s K pre X) (hb : Below X.heap.size X Z) : EsI w s K pre Z := by
  obtain ⟨Y, c, hI, ⟨h1, h2, h3, h4, h5, h6⟩, hB⟩ := h
  exact ⟨Y, c, hI, ⟨h1.keptAll hb, h2.keptAll hb, h3.keptAll hb, h4.keptAll hb, h5.keptAll hb, Nat.le_trans h6 hb.size⟩, hB.trans (hb.mono hB.size)⟩
end
theorem snoc_range {pre : List Nat} {x : Nat} (h : pre ++ [x] = List.range (pre ++ [x]).length) : pre = List.range pre.length ∧ x = pre.length := by
  rw [List.length_append, List.length_singleton, List.range_succ] at h
  have h1 := List.append_inj h (by simp)
  exact ⟨h1.1, by simpa using h1.2⟩

set_option maxRecDepth 100000 in
set_option maxHeartbeats 8000000 in
theorem escapedS_in (s : ByteArray) (hs : s.size ≤ 562949953421312) (w : World) (hT : Tab w) (hw0 : 0 < w.heap.size) :
    CallsIn Fence.wide 3 Tryd.prog 26 #[.string s] w fun e w' => ∃ g, w.heap.size ≤ g ∧ e = .returned (.agg #[.int .i64 (s.size : Int), .slice (some ⟨g, 0, none⟩) (need s.size) (need s.size)]) ∧ At w' g (rowCells (need s.size) (rowOf (escS s) s.size)) 58 ∧ Below w.heap.size w w' := by
  have hnf : ∀ (f : Fn) (a b : Array Value) (w : World), Sem.run Tryd.prog (binOp BinOp.eql 55 (.func f a b) .nilFunc) w = .ok (.bool false) w := fun _ _ _ _ => by rfl
  obtain ⟨K, hK⟩ : ∃ K, Hid (need s.size = K) := ⟨_, rfl⟩
  have hKb : Hid (blocksOf s = K) := hK
  have hKs : (s.size + 63) / 64 = K := hK.out
  have hKi : (((s.size : Int) + 63) / 64) = (K : Int) := by omega
  have hK44 : K ≤ 17592186044416 := by omega
  have hKs' := hid hKs
  have hmake : ∀ u : World, (Instr.makeSlice 23 (.int .i64 (K : Int)) (.int .i64 (K : Int))).run Tryd.prog u = .ok (.slice (some ⟨u.heap.size, 0, none⟩) K K) (u.alloc (.cells (rowCells K (fun _ => 0)) 58)) := make_row K hK44
  clear hKs
  rw [hK.out]
  refine callsIn_of_wp_marks Tryd.func26 rfl trivial ?_ rfl
  simp only [Tryd.ntmps26, List.size_toArray, List.length_cons, List.length_nil, Nat.reduceAdd, Nat.reduceSub, Array.replicate_succ, Array.replicate_zero, List.push_toArray, List.append_toArray, List.nil_append, List.cons_append]
  refine wpIn_wide.2 ?_
  go_wp2
  go_step3
  go_wp2
  go_step3
  go_wp2_with fail
  obtain ⟨X1, hX1⟩ : ∃ X1, X1 = w.alloc (.cells #[.string s] 9) := ⟨_, rfl⟩
  obtain ⟨X2, hX2⟩ : ∃ X2, X2 = X1.alloc (.cells #[.int .i64 0, .slice none 0 0] 25) := ⟨_, rfl⟩
  obtain ⟨X3, hX3⟩ : ∃ X3, X3 = X2.alloc (.cells (rowCells K fun _ => 0) 58) := ⟨_, rfl⟩
  obtain ⟨X4, hX4⟩ : ∃ X4, X4 = X3.alloc (.cells #[.slice (some ⟨w.heap.size + 1 + 1, 0, none⟩) K K] 23) := ⟨_, rfl⟩
  obtain ⟨X5, hX5⟩ : ∃ X5, X5 = X4.alloc (.cells #[.bool false] 4) := ⟨_, rfl⟩
  rw [← hX1, ← hX2, ← hX3, ← hX4, ← hX5]
  have z1 : X1.heap.size = w.heap.size + 1 := by rw [hX1]; simp
  have z2 : X2.heap.size = w.heap.size + 1 + 1 := by rw [hX2, World.size_alloc, z1]
  have z3 : X3.heap.size = w.heap.size + 1 + 1 + 1 := by rw [hX3, World.size_alloc, z2]
  have z4 : X4.heap.size = w.heap.size + 1 + 1 + 1 + 1 := by rw [hX4, World.size_alloc, z3]
  have z5 : X5.heap.size = w.heap.size + 1 + 1 + 1 + 1 + 1 := by rw [hX5, World.size_alloc, z4]
  refine (blocks_calls s 0 _).mono ?_
  rintro e W0 ⟨rfl, hW0⟩
  rw [z5]
  have q5 : Below w.heap.size w X5 := by rw [hX5, hX4, hX3, hX2, hX1]; repeat (first | with_reducible exact Below.refl _ _ | with_reducible refine Below.setCell ?_ (by first | (simp; done) | (simp; omega)) _ | with_reducible refine below_drewN ?_ _ | with_reducible refine Below.alloc ?_ (by first | (simp; done) | (simp; omega)) _ | with_reducible refine Below.drew ?_)
  have q6 : Below X5.heap.size X5 W0 := by rw [hW0]; repeat (first | with_reducible exact Below.refl _ _ | with_reducible refine Below.setCell ?_ (by first | (simp; done) | (simp; omega)) _ | with_reducible refine below_drewN ?_ _ | with_reducible refine Below.alloc ?_ (by first | (simp; done) | (simp; omega)) _ | with_reducible refine Below.drew ?_)
  have a0 : At X5 w.heap.size #[.string s] 9 := by
    rw [hX5, hX4, hX3, hX2, hX1]; exact ((((At.new w _ _).alloc _).alloc _).alloc _).alloc _
  have a1 : At X5 (w.heap.size + 1) #[.int .i64 0, .slice none 0 0] 25 := by
    rw [hX5, hX4, hX3, hX2, ← z1]; exact (((At.new X1 _ _).alloc _).alloc _).alloc _
  have a2 : At X5 (w.heap.size + 1 + 1) (rowCells K fun _ => 0) 58 := by
    rw [hX5, hX4, hX3, ← z2]; exact ((At.new X2 _ _).alloc _).alloc _
  have a3 : At X5 (w.heap.size + 1 + 1 + 1) #[.slice (some ⟨w.heap.size + 1 + 1, 0, none⟩) K K] 23 := by
    rw [hX5, hX4, ← z3]; exact (At.new X3 _ _).alloc _
  have a4 : At X5 (w.heap.size + 1 + 1 + 1 + 1) #[.bool false] 4 := by
    rw [hX5, ← z4]; exact At.new X4 _ _
  have a5 : At W0 (w.heap.size + 1 + 1 + 1 + 1 + 1) #[.string s] 9 := by
    rw [hW0, ← z5]; exact (At.new X5 _ _).alloc _
  have a6 : At W0 (w.heap.size + 1 + 1 + 1 + 1 + 1 + 1) #[.int .u8 ((0 : Nat) : Int)] 5 := by
    have h := At.new (X5.alloc (.cells #[.string s] 9)) #[.int .u8 ((0 : Nat) : Int)] 5
    rw [hW0, ← z5]; simpa using h
  have z0 : W0.heap.size = w.heap.size + 7 := by rw [hW0]; simp only [World.size_alloc, z5]
  have hB0 : Below w.heap.size w W0 := q5.trans (q6.mono q5.size)
  have hI0 : EsI w s K [] W0 := ⟨fun _ => 0, false, fun _ => ⟨rfl, fun j => by unfold escTo; rw [if_neg (by simp)]⟩, ⟨a0.keptAll q6, a1.keptAll q6, a2.keptAll q6, a3.keptAll q6, a4.keptAll q6, by omega⟩, hB0⟩
  clear a0 a1 a2 a3 a4 z1 z2 z3 z4 z5 q5 q6 hW0 hX1 hX2 hX3 hX4 hX5 hmake
  clear X1 X2 X3 X4 X5
  go_wp2_with fail
  refine (wpIn_wide (n := 3)).1 ?_
  refine wpIn_rangeFunc_ownH rfl (n := 3) (by decide) (gf := 44) (lb := #[.pointer (some ⟨w.heap.size + 1 + 1 + 1 + 1 + 1, 0, none⟩), .pointer (some ⟨w.heap.size + 1 + 1 + 1 + 1 + 1 + 1, 0, none⟩)]) rfl trivial (enters_of Tryd.func44 (by kernel_rfl) rfl)
    (blocks_stops_g (3 - 1) (w.heap.size + 1 + 1 + 1 + 1 + 1) (w.heap.size + 1 + 1 + 1 + 1 + 1 + 1) s (by omega) 0 (encL s 0) (fun r h => encL_eq s 0 r h) W0 a5 a6) KeepB.trans (keepB_b (w := W0)) (Below.refl _ _) (fun _ => rfl)
    (EsI w s K) (fun _ _ _ => False) (esI_own hB0.size) (fun _ _ _ _ _ h _ _ => h) hI0 (EsA w s K) (fun x a' => esA_own x a') ?assign ?body ?done ?stop
  case assign =>
    intro l pre x W KK hI hKK
    obtain ⟨A, hA⟩ : ∃ A : Nat, Hid (A = 64 * min x (blocksOf s - 1)) := ⟨_, rfl⟩
    obtain ⟨L, hLt, hLl⟩ := arr64_list (cutF s (A : Int) 0)
    have hL1 := arr64_one _ hLt
    have hiL' : (Tryd.prog.info? 57).map (·.size) = some L.toArray.size := by rw [List.size_toArray, hLl]; exact info64
    have he : encL s 0 x = #[.int .i64 (A : Int), .agg L.toArray] := by rw [hLt, encL, encB, show min (min x (blocksOf s - 1)) (blocksOf s) = min x (blocksOf s - 1) by omega, hA.out]
    rw [he]
    obtain ⟨hth, W2, hW2, hA2, hB2⟩ := laid64 W L hLl
    have hK2 := fun a' => hKK a' W2 ((keeps_below hB2).from _) (KeepB.of_below hB2) (esI_kept hI hB2)
    have hgt : w.heap.size + 6 < W.heap.size := by obtain ⟨_, _, _, ⟨_, _, _, _, _, h6⟩, _⟩ := hI; omega
    have hLH : Hid (L.toArray = arr64 (cutF s (A : Int) 0)) := hLt
    clear hKK hI hLt he
    gi_wp2_with (first | (refine wpListIn_store_want 57 _ _ (W.heap.size) 0 L.toArray hth hiL' (all_oneCell_toArray hL1) rfl rfl rfl (by rfl) ?_))
    exact ⟨W.heap.size, A, L, hA, hLH, hLl, hgt, hA2, rfl⟩
  case body =>
    rintro l pre x a' W hll ⟨rec, hrec⟩ hI ⟨g, A, L, hA, hL, hLl, hg, hAt, rfl⟩ hlt
    obtain ⟨Y, c, hYc, ⟨h0, h1, h2, h3, h4, hzW⟩, hB⟩ := hI
    rw [hKb.out] at hA hlt
    obtain ⟨j, hj⟩ : ∃ j, Hid (min x (K - 1) = j) := ⟨_, rfl⟩
    have hjK : j < K := by have := hj.out; omega
    have hAj : Hid (A = 64 * j) := by show _ = _; rw [← hj.out]; exact hA.out
    have hAlt : A < s.size := by have := hAj.out; have := hKs'.out; omega
    have hL1 := arr64_one _ hL.out
    have hiL : (Tryd.prog.info? 57).map (·.size) = some L.length := by rw [hLl.out]; exact info64
    have r1 := hAt.range rfl
    obtain ⟨M, hM⟩ : ∃ M, Hid (slashW s j = M) := ⟨_, rfl⟩
    have hMl : M < 18446744073709551616 := hM.out ▸ slashW_lt s j
    have hEq : Hid (∀ w, Calls Tryd.prog 28 #[.agg L.toArray, .int .u8 92] w fun e w' => e = .returned (.int .u64 (M : Int)) ∧ Below w.heap.size w w') := fun w => by
      rw [hL.out]
      exact equal_nat (cutF s (A : Int) 0) (fun i => cutF_lt s _ 0 (by decide) i) 92 (by decide) M (by show _ = _; rw [← hM.out, slashW, hAj.out]) w
    have hdone : Hid ((∀ Y' c', Hid (pre ++ [x] = List.range (pre ++ [x]).length → c' = escS s (64 * (pre ++ [x]).length) ∧ ∀ i, Y' i = escTo s (pre ++ [x]).length i) → ∀ W', (At W' w.heap.size #[.string s] 9 ∧ At W' (w.heap.size + 1) #[.int .i64 0, .slice none 0 0] 25 ∧ At W' (w.heap.size + 1 + 1) (rowCells K Y') 58 ∧
    At W' (w.heap.size + 1 + 1 + 1) #[.slice (some ⟨w.heap.size + 1 + 1, 0, none⟩) K K] 23 ∧ At W' (w.heap.size + 1 + 1 + 1 + 1) #[.bool c'] 4 ∧ w.heap.size + 7 ≤ W'.heap.size) ∧ Below w.heap.size w W' → EsI w s K (pre ++ [x]) W')) := fun Y' c' h1 W' h2 => ⟨Y', c', h1, h2.1, h2.2⟩
    have hmath : Hid (pre ++ [x] = List.range (pre ++ [x]).length → (pre ++ [x]).length = j + 1 ∧ c = escS s (64 * j) ∧ ∀ i, Y i = escTo s j i) := by
      intro h
      obtain ⟨e1, e2⟩ := snoc_range h
      obtain ⟨e3, e4⟩ := hYc.out e1
      have e5 : j = pre.length := by have := hj.out; omega
      rw [e5]
      exact ⟨by simp, e3, e4⟩
    clear hYc hA hL hlt hj
    gi_wp2_with (first | (refine wpListIn_load_want 57 _ (g) 0 L _ r1 Tryd.underlying57 hiL rfl rfl rfl (by rfl) ?_))
    refine ⟨trivial, ?_⟩
    refine (CallsIn.inRound l (callsIn_wide.2 (hEq.out _))).mono ?_
    rintro e w1 ⟨rfl, hb1⟩
    replace h0 := h0.keptAll hb1
    replace h1 := h1.keptAll hb1
    replace h2 := h2.keptAll hb1
    replace h3 := h3.keptAll hb1
    replace h4 := h4.keptAll hb1
    have hBW := hB.trans (hb1.mono hB.size)
    have hz1 : w.heap.size + 7 ≤ w1.heap.size := Nat.le_trans hzW hb1.size
    have hKW := keeps_below hb1
    have hKn : KeepB (w.heap.size + 1 + 1 + 1 + 1 + 1) (w.heap.size + 1 + 1 + 1 + 1 + 1 + 1) W w1 := KeepB.of_below hb1
    have k4 := h4.cell 0
    have f4 := h4.frozen 0
    simp only [List.getElem?_toArray, List.getElem?_cons_zero] at k4
    clear hEq r1 hiL hL1 hb1 hAt
    by_cases hskip : M = 0 ∧ c = false
    · obtain ⟨rfl, rfl⟩ := hskip
      have t0 := hid h0
      have t1 := hid h1
      have t2 := hid h2
      have t3 := hid h3
      have t4 := hid h4
      clear h0 h1 h2 h3 h4
      gi_wp2
      refine ⟨hKW.from _, hKn, hdone.out Y false (fun h => ?_) w1 ⟨⟨t0.out, t1.out, t2.out, t3.out, t4.out, hz1⟩, hBW⟩⟩
      obtain ⟨e1, e2, e3⟩ := hmath.out h
      obtain ⟨e4, e5⟩ := esc_skip s j hM.out e2.symm
      rw [e1]
      exact ⟨e5.symm, fun i => (e3 i).trans (escTo_skip s j i e4)⟩
    · have hgd : (((M : Int) == 0) && !c) = false := by
        cases c
        · have : ((M : Int) == 0) = false := by simp at hskip ⊢; exact hskip
          rw [this]; rfl
        · simp
      obtain ⟨S, C, hSC⟩ : ∃ S C, Hid (escW M c = S ∧ escC M c 64 = C) := ⟨_, _, rfl, rfl⟩
      have hSl : S < 18446744073709551616 := hSC.out.1 ▸ escW_lt M c
      obtain ⟨I, hI⟩ : ∃ I, Hid (s.size - A = I) := ⟨_, rfl⟩
      have hIi : (s.size : Int) - (A : Int) = (I : Int) := by have := hI.out; omega
      have hwI : IntKind.i64.wrap (I : Int) = (I : Int) := by rw [IntKind.wrap_i64]; have := hI.out; omega
      obtain ⟨R, hR⟩ : ∃ R, Hid (lowm (I : Int) = R) := ⟨_, rfl⟩
      have hRl : R < 18446744073709551616 := hR.out ▸ lowm_lt _
      have hbe : Hid (∀ w, Calls Tryd.prog 43 #[.int .i64 (I : Int)] w fun e w' => e = .returned (.int .u64 (R : Int)) ∧ w' = w) := fun w => belowE_calls I R hR w
      have hTw : Hid (Tab w1) := hT.below hBW hw0
      have hw1 : Hid (0 < w1.heap.size) := by show 0 < _; omega
      obtain ⟨V, hV⟩ : ∃ V, Hid (S &&& R = V) := ⟨_, rfl⟩
      have hand : bits BinOp.and IntKind.u64 (S : Int) (R : Int) = (V : Int) := by rw [bits_and_u64_nat S R hSl hRl, hV.out]
      have hidx : (A : Int) / 64 = (j : Int) := by have := hAj.out; omega
      have hjKi : (j : Int) < (K : Int) := by omega
      have hwJ : IntKind.i64.wrap (j : Int) = (j : Int) := by rw [IntKind.wrap_i64]; omega
      have hjc : (0 ≤ (j : Int) ∧ (j : Int) < (K : Int)) = True := by simp; omega
      have hfin : Hid (pre ++ [x] = List.range (pre ++ [x]).length → C = escS s (64 * (pre ++ [x]).length) ∧ ∀ i, (if i = j then V else Y i) = escTo s (pre ++ [x]).length i) := by
        intro h
        obtain ⟨e1, e2, e3⟩ := hmath.out h
        obtain ⟨e4, e5⟩ := hSC.out
        rw [e1]
        refine ⟨?_, fun i => ?_⟩
        · rw [← e5, ← hM.out, e2, esc_next]
        · rw [← escTo_set, e3, ← hV.out, ← e4, ← hR.out, ← hM.out, e2]
          have := escW_row s j
          rw [show (s.size : Int) - 64 * (j : Int) = (I : Int) by have := hAj.out; omega] at this
          rw [this]
      clear hmath hI hM hV hR hAj
      have hcs : (((M : Int) == 0) = false) ∨ (M = 0 ∧ c = true) := by
        cases c
        · left; simp at hskip ⊢; exact hskip
        · by_cases h : M = 0
          · exact .inr ⟨h, rfl⟩
          · left; simp; exact h
      clear hskip hgd
      have hcall : Hid (Calls Tryd.prog 42 #[.int .u64 (M : Int), .bool c] w1 fun e w' => e = .returned (.tuple #[.int .u64 (S : Int), .bool C]) ∧ Below w1.heap.size w1 w') := escaped_calls M S c C hMl hSC w1 hTw.out hw1.out
      clear hSC hTw hw1
      rcases hcs with hM0 | ⟨rfl, rfl⟩
      all_goals
        gi_wp2_with fail
        refine ⟨trivial, ?_⟩
        refine (CallsIn.inRound l (callsIn_wide.2 hcall.out)).mono ?_
        rintro e w2 ⟨rfl, hb2⟩
        have g0 := (h0.keptAll hb2).other (p := ⟨w.heap.size + 1 + 1 + 1 + 1, 0, none⟩) (by show w.heap.size ≠ w.heap.size + 1 + 1 + 1 + 1; omega) (.bool C)
        have g1 := (h1.keptAll hb2).other (p := ⟨w.heap.size + 1 + 1 + 1 + 1, 0, none⟩) (by show w.heap.size + 1 ≠ w.heap.size + 1 + 1 + 1 + 1; omega) (.bool C)
        have g2 := (h2.keptAll hb2).other (p := ⟨w.heap.size + 1 + 1 + 1 + 1, 0, none⟩) (by show w.heap.size + 1 + 1 ≠ w.heap.size + 1 + 1 + 1 + 1; omega) (.bool C)
        have g3 := (h3.keptAll hb2).other (p := ⟨w.heap.size + 1 + 1 + 1 + 1, 0, none⟩) (by show w.heap.size + 1 + 1 + 1 ≠ w.heap.size + 1 + 1 + 1 + 1; omega) (.bool C)
        have g4 := (h4.keptAll hb2).set 0 (.bool C)
        have f4' := (h4.keptAll hb2).frozen 0
        have c4' := (h4.keptAll hb2).cell 0
        have hBt := (hBW.trans (hb2.mono hBW.size)).setCell (p := ⟨w.heap.size + 1 + 1 + 1 + 1, 0, none⟩) (by show w.heap.size ≤ w.heap.size + 1 + 1 + 1 + 1; omega) (.bool C)
        have hKt := (hKW.trans (keeps_below hb2)).trans (KeepsOthers.setCell w2 ⟨w.heap.size + 1 + 1 + 1 + 1, 0, none⟩ (.bool C))
        have hKk : KeepB (w.heap.size + 1 + 1 + 1 + 1 + 1) (w.heap.size + 1 + 1 + 1 + 1 + 1 + 1) W (w2.setCell ⟨w.heap.size + 1 + 1 + 1 + 1, 0, none⟩ (.bool C)) :=
          (hKn.trans (KeepB.of_below hb2)).trans ⟨(KeepsOthers.setCell w2 ⟨w.heap.size + 1 + 1 + 1 + 1, 0, none⟩ (.bool C)).1, fun _ _ q => q.other (p := ⟨w.heap.size + 1 + 1 + 1 + 1, 0, none⟩) (by show w.heap.size + 1 + 1 + 1 + 1 + 1 ≠ w.heap.size + 1 + 1 + 1 + 1; omega) _, fun _ _ q => q.other (p := ⟨w.heap.size + 1 + 1 + 1 + 1, 0, none⟩) (by show w.heap.size + 1 + 1 + 1 + 1 + 1 + 1 ≠ w.heap.size + 1 + 1 + 1 + 1; omega) _⟩
        have hzt : w.heap.size + 7 ≤ (w2.setCell ⟨w.heap.size + 1 + 1 + 1 + 1, 0, none⟩ (.bool C)).heap.size := Nat.le_trans hz1 (Nat.le_trans hb2.size (KeepsOthers.setCell w2 ⟨w.heap.size + 1 + 1 + 1 + 1, 0, none⟩ (.bool C)).1)
        simp only [List.setIfInBounds_toArray, List.set_cons_zero] at g4
        simp only [List.getElem?_toArray, List.getElem?_cons_zero] at c4'
        clear h0 h1 h2 h3 h4 hBW hKW hKn hz1 hb2 hcall k4 f4
        obtain ⟨W3, hW3⟩ : ∃ W3, w2.setCell ⟨w.heap.size + 1 + 1 + 1 + 1, 0, none⟩ (.bool C) = W3 := ⟨_, rfl⟩
        rw [hW3] at g0 g1 g2 g3 g4 hBt hKt hKk hzt
        gi_wp2_with fail
        clear f4' c4' hW3
        have s3 := g3.cell 0
        have s0 := g0.cell 0
        simp only [List.getElem?_toArray, List.getElem?_cons_zero] at s0 s3
        have cj := g2.cell j
        have fj := g2.frozen j
        rw [rowCells_get Y hjK] at cj
        refine wpIn_region_round (S := fun w' => w'.cell? ⟨w.heap.size, 0, none⟩ = some (.string s) ∧ w'.cell? ⟨w.heap.size + 1 + 1 + 1, 0, none⟩ = some (.slice (some ⟨w.heap.size + 1 + 1, 0, none⟩) K K)) (by kernel_rfl) (by kernel_rfl) (fun _ _ h => h) ⟨s0, s3⟩ (fun hHeld => ?_)
        (refine' wpAnyH_take (i := 0) rfl (by kernel_rfl) (by kernel_rfl) (by kernel_rfl) (fun _ _ _ h => h) (Or.inl ⟨by rfl, ?_⟩) (by assumption) ?_; rotate_left; (· (intro wq hq; (try dsimp only at hq); go_simp; first | done | with_reducible rfl)); simp only [Act.put, List.getElem_toArray, List.getElem_cons_zero, List.setIfInBounds_toArray, List.set_cons_zero, List.set_cons_succ])
        (refine' wpAnyH_take (i := 1) rfl (by kernel_rfl) (by kernel_rfl) (by kernel_rfl) (fun _ _ _ h => h) (Or.inl ⟨by rfl, ?_⟩) (by assumption) ?_; rotate_left; (· (intro wq hq; (try dsimp only at hq); go_simp; first | done | with_reducible rfl)); simp only [Act.put, List.getElem_toArray, List.getElem_cons_zero, List.getElem_cons_succ, List.setIfInBounds_toArray, List.set_cons_zero, List.set_cons_succ])
        (refine' wpAnyH_take (i := 2) rfl (by kernel_rfl) (by kernel_rfl) (by kernel_rfl) (fun _ _ _ h => h) (Or.inl ⟨by rfl, ?_⟩) (by assumption) ?_; rotate_left; (· (intro wq hq; (try dsimp only at hq); go_simp; first | done | with_reducible rfl)); simp only [Act.put, List.getElem_toArray, List.getElem_cons_zero, List.getElem_cons_succ, List.setIfInBounds_toArray, List.set_cons_zero, List.set_cons_succ])
        (refine' wpAnyH_take (i := 3) rfl (by kernel_rfl) (by kernel_rfl) (by kernel_rfl) (fun _ _ _ h => h) (Or.inl ⟨by rfl, ?_⟩) (by assumption) ?_; rotate_left; (· (intro wq hq; (try dsimp only at hq); go_simp; first | done | with_reducible rfl)); simp only [Act.put, List.getElem_toArray, List.getElem_cons_zero, List.getElem_cons_succ, List.setIfInBounds_toArray, List.set_cons_zero, List.set_cons_succ])
        (refine' wpAnyH_take (i := 4) rfl (by kernel_rfl) (by kernel_rfl) (by kernel_rfl) (fun _ _ _ h => h) (Or.inl ⟨by rfl, ?_⟩) (by assumption) ?_; rotate_left; (· (intro wq hq; (try dsimp only at hq); go_simp; first | done | with_reducible rfl)); simp only [Act.put, List.getElem_toArray, List.getElem_cons_zero, List.getElem_cons_succ, List.setIfInBounds_toArray, List.set_cons_zero, List.set_cons_succ])
        (refine' wpAnyH_take (i := 5) rfl (by kernel_rfl) (by kernel_rfl) (by kernel_rfl) (fun _ _ _ h => h) (Or.inl ⟨by rfl, ?_⟩) (by assumption) ?_; rotate_left; (· (intro wq hq; (try dsimp only at hq); go_simp; first | done | with_reducible rfl)); simp only [Act.put, List.getElem_toArray, List.getElem_cons_zero, List.getElem_cons_succ, List.setIfInBounds_toArray, List.set_cons_zero, List.set_cons_succ])
        (refine' wpAnyH_take (i := 6) rfl (by kernel_rfl) (by kernel_rfl) (by kernel_rfl) (fun _ _ _ h => h) (Or.inl ⟨by rfl, ?_⟩) (by assumption) ?_; rotate_left; (· (intro wq hq; (try dsimp only at hq); go_simp; first | done | with_reducible rfl)); simp only [Act.put, List.getElem_toArray, List.getElem_cons_zero, List.getElem_cons_succ, List.setIfInBounds_toArray, List.set_cons_zero, List.set_cons_succ])
        (refine' wpAnyH_take (i := 7) rfl (by kernel_rfl) (by kernel_rfl) (by kernel_rfl) (fun _ _ _ h => h) (Or.inl ⟨by rfl, ?_⟩) (by assumption) ?_; rotate_left; (· (intro wq hq; (try dsimp only at hq); go_simp; first | done | with_reducible rfl)); simp only [Act.put, List.getElem_toArray, List.getElem_cons_zero, List.getElem_cons_succ, List.setIfInBounds_toArray, List.set_cons_zero, List.set_cons_succ])
        refine wpAnyH_ready (rs := [8]) (by kernel_rfl) (by simp) ?_
        refine AllReadyH.cons rfl (fun K hK => ?_) ?_
        · rw [if_pos (by rfl)]
          go_simp
          refine (hbe.out _).mono ?_
          rintro e wq ⟨rfl, hwq⟩
          rw [hwq]
          clear hwq
          refine hK.out _ _ hHeld (fun hH => ?_)
          clear hK K
          (refine' wpAnyH_take (i := 9) rfl (by kernel_rfl) (by kernel_rfl) (by kernel_rfl) (fun _ _ _ h => h) (Or.inl ⟨by rfl, ?_⟩) (by assumption) ?_; rotate_left; (· (intro wq hq; (try dsimp only at hq); go_simp; first | done | with_reducible rfl)); simp only [Act.put, List.getElem_toArray, List.getElem_cons_zero, List.getElem_cons_succ, List.setIfInBounds_toArray, List.set_cons_zero, List.set_cons_succ])
          (refine' wpAnyH_take (i := 10) rfl (by kernel_rfl) (by kernel_rfl) (by kernel_rfl) (fun _ _ _ h => h) (Or.inl ⟨by rfl, ?_⟩) (by assumption) ?_; rotate_left; (· (intro wq hq; (try dsimp only at hq); go_simp; first | done | with_reducible rfl)); simp only [Act.put, List.getElem_toArray, List.getElem_cons_zero, List.getElem_cons_succ, List.setIfInBounds_toArray, List.set_cons_zero, List.set_cons_succ])
          refine wpAnyH_ready (rs := [11]) (by kernel_rfl) (by simp) ?_
          refine AllReadyH.cons rfl (fun K hK => ?_) ?_
          · go_simp
            have p0 := g0.other (p := ⟨w.heap.size + 1 + 1, j, none⟩) (by show w.heap.size ≠ w.heap.size + 1 + 1; omega) (.int .u64 (V : Int))
            have p1 := g1.other (p := ⟨w.heap.size + 1 + 1, j, none⟩) (by show w.heap.size + 1 ≠ w.heap.size + 1 + 1; omega) (.int .u64 (V : Int))
            have p2 := g2.set j (.int .u64 (V : Int))
            have p3 := g3.other (p := ⟨w.heap.size + 1 + 1, j, none⟩) (by show w.heap.size + 1 + 1 + 1 ≠ w.heap.size + 1 + 1; omega) (.int .u64 (V : Int))
            have p4 := g4.other (p := ⟨w.heap.size + 1 + 1, j, none⟩) (by show w.heap.size + 1 + 1 + 1 + 1 ≠ w.heap.size + 1 + 1; omega) (.int .u64 (V : Int))
            rw [rowCells_set] at p2
            have c0 := p0.cell 0
            have c3 := p3.cell 0
            simp only [List.getElem?_toArray, List.getElem?_cons_zero] at c0 c3
            refine hK.out _ _ ⟨c0, c3⟩ (fun hH2 => ?_)
            clear hK K
            refine wpAnyH_done (by kernel_rfl) ?_ _
            change Exit.inBlock 1 _ Exit.normal _ _
            have hKs2 := (KeepsOthers.setCell W3 ⟨w.heap.size + 1 + 1, j, none⟩ (.int .u64 (V : Int))).trans (KeepsOthers.drew _)
            refine ⟨(hKt.trans hKs2).from _, hKk.trans ⟨hKs2.1, fun _ _ q => q.other (p := ⟨w.heap.size + 1 + 1, j, none⟩) (by show w.heap.size + 1 + 1 + 1 + 1 + 1 ≠ w.heap.size + 1 + 1; omega) _, fun _ _ q => q.other (p := ⟨w.heap.size + 1 + 1, j, none⟩) (by show w.heap.size + 1 + 1 + 1 + 1 + 1 + 1 ≠ w.heap.size + 1 + 1; omega) _⟩, hdone.out _ C hfin _ ⟨⟨p0.drew, p1.drew, p2.drew, p3.drew, p4.drew, Nat.le_trans hzt hKs2.1⟩, (hBt.setCell (p := ⟨w.heap.size + 1 + 1, j, none⟩) (by show w.heap.size ≤ w.heap.size + 1 + 1; omega) _).drew⟩⟩
          · exact AllReadyH.nil
        · exact AllReadyH.nil
  case done =>
    rintro D xs W hD rfl ⟨Y, c, hYc, ⟨h0, h1, h2, h3, h4, hzW⟩, hB⟩ hKD
    rw [hKb.out] at hYc
    have hY := (hYc.out (by simp)).2
    have hrow : rowCells K Y = rowCells K (rowOf (escS s) s.size) := rowCells_congr fun i hi => by
      rw [hY i]
      unfold escTo
      rw [List.length_range, if_pos hi]
    rw [hrow] at h2
    have k0 := h0.cell 0
    have k3 := h3.cell 0
    obtain ⟨d0, d1, f0, f1⟩ := h1.facts
    simp only [List.getElem?_toArray, List.getElem?_cons_zero] at k0 k3
    rename_i Kz hKz
    clear hYc h0 h3 h4 hI0 hnf
    refine hKz _ _ ?_
    go_wp2
    rw [Exit.noGoto_ret]
    obtain ⟨X, hX⟩ : ∃ X, (W.setCell ⟨w.heap.size + 1, 0, none⟩ (.int .i64 (s.size : Int))).setCell ⟨w.heap.size + 1, 1, none⟩ (.slice (some ⟨w.heap.size + 1 + 1, 0, none⟩) K K) = X := ⟨_, rfl⟩
    have x1 : At X (w.heap.size + 1) #[.int .i64 (s.size : Int), .slice (some ⟨w.heap.size + 1 + 1, 0, none⟩) K K] 25 := by rw [← hX]; exact h1.two
    have x2 : At X (w.heap.size + 1 + 1) (rowCells K (rowOf (escS s) s.size)) 58 := by
      rw [← hX]
      exact (h2.other (p := ⟨w.heap.size + 1, 0, none⟩) (by show w.heap.size + 1 + 1 ≠ w.heap.size + 1; omega) _).other (p := ⟨w.heap.size + 1, 1, none⟩) (by show w.heap.size + 1 + 1 ≠ w.heap.size + 1; omega) _
    have x3 : X.heap[D]? = some (.deferred (some [])) := by
      rw [← hX]
      exact (Below.heap_setCell _ _ _ D (by show D ≠ w.heap.size + 1; omega)).trans ((Below.heap_setCell _ _ _ D (by show D ≠ w.heap.size + 1; omega)).trans hKD)
    have x4 : Below w.heap.size w X := by
      rw [← hX]
      exact (hB.setCell (p := ⟨w.heap.size + 1, 0, none⟩) (by show w.heap.size ≤ w.heap.size + 1; omega) _).setCell (p := ⟨w.heap.size + 1, 1, none⟩) (by show w.heap.size ≤ w.heap.size + 1; omega) _
    rw [hX]
    refine ⟨by simp, .inl ⟨_, _, rfl, run_takeDeferred (w := X) x3, ?_⟩⟩
    have y1 := x1.own (grownBy_putObj' X D (.deferred none)) (fun r e => by cases e; exact ⟨_, x3, rfl⟩)
    have y2 := x2.own (grownBy_putObj' X D (.deferred none)) (fun r e => by cases e; exact ⟨_, x3, rfl⟩)
    have y4 : Below w.heap.size w (X.putObj D (.deferred none)) := x4.trans (belowK_b (w := w) (Nat.le_refl _) X D _ _ (by omega) x3 rfl rfl)
    exact ⟨_, results_cell_row (P := Tryd.prog) (p := 2) rfl _ _ (w.heap.size + 1) 25 #[.int .i64 (s.size : Int), .slice (some ⟨w.heap.size + 1 + 1, 0, none⟩) K K] (0, 0) _ rfl y1 Tryd.underlying25 rfl sizeBits, ⟨_, by omega, rfl, y2, y4⟩⟩
  case stop =>
    rintro D c pre W _ _ h _
    exact h.elim
theorem escapedS_calls (s : ByteArray) (hs : s.size ≤ 562949953421312) (w : World) (hT : Tab w) (hw0 : 0 < w.heap.size) :
    Calls Tryd.prog 26 #[.string s] w fun e w' => ∃ g, w.heap.size ≤ g ∧ e = .returned (.agg #[.int .i64 (s.size : Int), .slice (some ⟨g, 0, none⟩) (need s.size) (need s.size)]) ∧ At w' g (rowCells (need s.size) (rowOf (escS s) s.size)) 58 ∧ Below w.heap.size w w' := callsIn_wide.1 (escapedS_in s hs w hT hw0)
end Go.Proofs.YthakingpeegagaaDoor

/-
  What quarryref06.Escaped answers.
-/
namespace Go.Proofs.YthakingpeegagaaDoor
open Go.RowKit

/-- A row of truths that append has made. -/
theorem row6_open {w : World} {B n : Nat} {v : Value} {G : Nat → Bool} (h : w.ownsRow B 4 1 v (n + 1) (bl6 G (n + 1))) : ∃ g cap, v = .slice (some ⟨g, 0, none⟩) (n + 1) cap ∧ n ≤ cap ∧ B ≤ g ∧ Bls w (some ⟨g, 0, none⟩) n G := by
  rcases h.2 with ⟨_, h0⟩ | ⟨g, cap, cur, rfl, hb, hgb, h3, h4, h5, h6⟩
  · omega
  · refine ⟨g, cap, rfl, by omega, hb, fun j hj => ?_⟩
    obtain ⟨g', cap', e1, e2⟩ := row6_cell h (i := j) (by omega)
    cases e1
    exact ⟨g, 0, rfl, by rw [Nat.zero_add]; exact e2⟩

end Go.Proofs.YthakingpeegagaaDoor

/-
  What the walks through the laws of escape share.
-/
namespace Go.Proofs.YthakingpeegagaaDoor
open Go.RowKit

theorem At.row6 {w : World} {g N : Nat} {G : Nat → Bool} (h : At w g (rowCells (need N) (rowOf G N)) 58) : Wds w (some ⟨g, 0, none⟩) (need N) (rowOf G N) := h.wds (fun _ _ => rowOf_lt _ _ _) (Nat.le_refl _)
theorem wds_own {w : World} {B N cap : Nat} {ao : Option Addr} {G : Nat → Bool} (h : w.ownsRow B 58 1 (.slice ao (need N) cap) (need N) (wl (rowOf G N) (need N))) : Wds w ao (need N) (rowOf G N) := by
  obtain ⟨ao', cap', e, h1⟩ := wds_of_row h (fun _ _ => rowOf_lt _ _ _)
  cases e
  exact h1
theorem wf_size {n : Nat} (h : n ≤ 562949953421312) : (Lit.int .i64 (n : Int)).wf = true := by
  simp [Lit.wf, IntKind.min, IntKind.max, IntKind.bits, IntKind.signed]
  omega
theorem need_le {n : Nat} (h : n ≤ 562949953421312) : need n ≤ 17592186044416 := by unfold need; omega
theorem same6 {N : Nat} {G : Nat → Bool} (hN : N ≤ 562949953421312) (ao bo : Option Addr) (cap cap' : Nat) (w : World) (hW : Wds w ao (need N) (rowOf G N)) (hV : Wds w bo (need N) (rowOf G N)) :
    Calls Tryd.prog 21 #[.agg #[.int .i64 (N : Int), .slice ao (need N) cap], .agg #[.int .i64 (N : Int), .slice bo (need N) cap']] w fun e w' => e = .returned (.bool true) ∧ Below w.heap.size w w' :=
  same_calls N N ao bo (need N) (need N) cap cap' (rowOf G N) (rowOf G N) true (wf_size hN) (wf_size hN) (need_le hN) (need_le hN) ⟨fun _ => rfl, fun _ => ⟨rfl, rfl, fun _ _ => rfl⟩⟩ w hW hV
end Go.Proofs.YthakingpeegagaaDoor
