/-
  A pattern: formed, New.
-/
import Derived.Test.YtiggfigjibggaaaHpJ
namespace Go.Proofs.Ytiggfigjibggaaa
open Go.RowKit Go.Shelf Go.Maps

/-- A learnt place. -/
structure Lr where
  r : ByteArray
  n : ByteArray
  p : Int
  h : Int
abbrev lrV (x : Lr) : Value := lrA x.r x.n x.p x.h
def lrL (x : Lr) : List Value := [.string x.r, .string x.n, .int .i64 x.p, .int .i64 x.h]
def LrOk (x : Lr) : Prop := KyOk x.r x.n ∧ -9223372036854775808 ≤ x.p ∧ x.p ≤ 9223372036854775807 ∧ -9223372036854775808 ≤ x.h ∧ x.h ≤ 9223372036854775807
/-- A list of learnt places in memory. -/
def LnsAt (w : World) (ao : Option Addr) (l : List Lr) : Prop := ∀ (j : Nat) (x : Lr), l[j]? = some x → LrOk x ∧ ∃ b off, ao = some ⟨b, off, none⟩ ∧ b < w.heap.size ∧ w.rangeAt b (off + j * 4) (lrL x)
theorem LnsAt.kept {w w' : World} {ao : Option Addr} {l : List Lr} (h : LnsAt w ao l) (hb : Below w.heap.size w w') : LnsAt w' ao l := fun j x hj => by
  obtain ⟨h0, b, off, h1, h2, h3⟩ := h j x hj
  exact ⟨h0, b, off, h1, Nat.lt_of_lt_of_le h2 hb.size, range_kept h3 hb⟩
/-- May an entry be told like that? -/
def frm (x : Lr) : Bool := decide (0 ≤ x.p ∧ 0 ≤ x.h ∧ x.h ≤ 4611686018427387904)
set_option maxRecDepth 10000 in
set_option maxHeartbeats 4000000 in
theorem formed25_calls (x : Lr) (w : World) : Calls Try.prog 24 #[lrV x] w fun e w' => e = .returned (.bool (frm x)) ∧ Below w.heap.size w w' := by
  obtain ⟨r, n, p, h⟩ := x
  obtain ⟨X, hX⟩ : ∃ X, w.heap.size = X := ⟨_, rfl⟩
  obtain ⟨W0, hW0⟩ : ∃ W, w.alloc (.cells #[.string r, .string n, .int .i64 p, .int .i64 h] 25) = W := ⟨_, rfl⟩
  have A0 : At W0 X #[.string r, .string n, .int .i64 p, .int .i64 h] 25 := by rw [← hW0, ← hX]; exact At.new _ _ _
  have B0 := hid (show Below w.heap.size w W0 by rw [← hW0]; exact (Below.refl _ w).alloc (Nat.le_refl _) _)
  have x2 : W0.cell? ⟨X, 2, none⟩ = some (.int .i64 p) := A0.cell 2
  have x3 : W0.cell? ⟨X, 3, none⟩ = some (.int .i64 h) := A0.cell 3
  clear A0
  by_cases h1 : 0 ≤ p
  · have e1 : decide (0 ≤ p) = true := by simpa using h1
    by_cases h2 : 0 ≤ h
    · have e2 : decide (0 ≤ h) = true := by simpa using h2
      by_cases h3 : h ≤ 4611686018427387904
      · have e3 : decide (h ≤ 4611686018427387904) = true := by simpa using h3
        have ef : frm ⟨r, n, p, h⟩ = true := by simp [frm, h1, h2, h3]
        rw [ef]
        go_enter Try.func24, Try.ntmps24
        go_wp2
        go_ret
        exact ⟨rfl, by first | exact B0.out | (rw [← hX]; exact B0.out)⟩
      · have e3 : decide (h ≤ 4611686018427387904) = false := by simpa using h3
        have ef : frm ⟨r, n, p, h⟩ = false := by simp [frm, h3]
        rw [ef]
        go_enter Try.func24, Try.ntmps24
        go_wp2
        go_ret
        exact ⟨rfl, by first | exact B0.out | (rw [← hX]; exact B0.out)⟩
    · have e2 : decide (0 ≤ h) = false := by simpa using h2
      have ef : frm ⟨r, n, p, h⟩ = false := by simp [frm, h2]
      rw [ef]
      go_enter Try.func24, Try.ntmps24
      go_wp2
      go_ret
      exact ⟨rfl, by first | exact B0.out | (rw [← hX]; exact B0.out)⟩
  · have e1 : decide (0 ≤ p) = false := by simpa using h1
    have ef : frm ⟨r, n, p, h⟩ = false := by simp [frm, h1]
    rw [ef]
    go_enter Try.func24, Try.ntmps24
    go_wp2
    go_ret
    exact ⟨rfl, by first | exact B0.out | (rw [← hX]; exact B0.out)⟩
/-- The entries that a list of learnt places gives. -/
def entO (x : Lr) (i : Nat) : Ent := ⟨x.r, x.n, x.p.toNat, x.h.toNat, i⟩
def entsL (l : List Lr) : List Ent := l.mapIdx fun i x => entO x i
/-- May a pattern begin so? -/
def okL (l : List Lr) : Prop := (∀ x ∈ l, frm x = true) ∧ l.Pairwise fun x y => ¬ (x.r = y.r ∧ x.n = y.n)
theorem entsL_snoc (l : List Lr) (x : Lr) : entsL (l ++ [x]) = entsL l ++ [entO x l.length] := by simp [entsL, List.mapIdx_append]
theorem entsL_mem {l : List Lr} {e : Ent} (h : e ∈ entsL l) : ∃ x ∈ l, e.r = x.r ∧ e.n = x.n := by
  obtain ⟨i, hi, rfl⟩ := List.mem_iff_getElem.1 h
  have hi' : i < l.length := by simpa [entsL] using hi
  exact ⟨l[i], List.getElem_mem _, by simp [entsL, entO], by simp [entsL, entO]⟩
theorem mem_entsL {l : List Lr} {x : Lr} (h : x ∈ l) : ∃ e ∈ entsL l, e.r = x.r ∧ e.n = x.n := by
  obtain ⟨i, hi, rfl⟩ := List.mem_iff_getElem.1 h
  exact ⟨entO l[i] i, List.mem_iff_getElem.2 ⟨i, by simpa [entsL] using hi, by simp [entsL]⟩, rfl, rfl⟩
theorem new_out (room : Int) (hr : room < 0 ∨ 4096 < room) (ao : Option Addr) (n c : Nat) (w : World) :
    Calls Try.prog 8 #[.int .i64 room, .slice ao n c] w fun e w' => e = .returned (.tuple #[.pointer none, .int .i64 2]) ∧ w' = w := by
  by_cases h : room < 0
  · have e1 : decide (room < 0) = true := by simpa using h
    go_enter Try.func8, Try.ntmps8
    go_wp2
    go_ret2
    exact ⟨rfl, rfl⟩
  · have e1 : decide (room < 0) = false := by simpa using h
    have h2 : 4096 < room := by omega
    go_enter Try.func8, Try.ntmps8
    go_wp2
    go_ret2
    exact ⟨rfl, rfl⟩
theorem new_many (room n : Nat) (hr : room ≤ 4096) (hn : room < n) (ao : Option Addr) (c : Nat) (w : World) :
    Calls Try.prog 8 #[.int .i64 (room : Int), .slice ao n c] w fun e w' => e = .returned (.tuple #[.pointer none, .int .i64 1]) ∧ w' = w := by
  have e1 : decide ((room : Int) < 0) = false := by simp
  have h2 : ¬ (4096 : Int) < (room : Int) := by omega
  have h3 : (room : Int) < (n : Int) := by omega
  go_enter Try.func8, Try.ntmps8
  go_wp2
  go_ret2
  exact ⟨rfl, rfl⟩
end Go.Proofs.Ytiggfigjibggaaa
