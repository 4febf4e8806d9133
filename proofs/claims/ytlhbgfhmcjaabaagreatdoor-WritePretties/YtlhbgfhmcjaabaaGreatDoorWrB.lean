/-
 strings.Builder within write's writer: copyCheck, WriteString, WriteByte, String (by gen_wrb.py, after Bld and BldB).
-/
import Derived.Test.YtlhbgfhmcjaabaaGreatDoorPack1
namespace Go.Proofs.YtlhbgfhmcjaabaaGreatDoor
open Go.RowKit Go.Shelf
theorem liesWr : liesAt Tryz.prog Tryz.prog.depth 51 (5 / Tryz.prog.cellsOf 51) 0 49 1 = true := by kernel_rfl
theorem shapeWr {w : World} {m : Nat} {p v : Value} {cl ln : ByteArray} {ix : Int} (h : At w m #[p, v, .string cl, .string ln, .int .i64 ix] 51) : w.shape? m = some (51, 5) := by
 have h' : w.heap[m]? = some (.cells #[p, v, .string cl, .string ln, .int .i64 ix] 51) := h
 simp [World.shape?, h']
set_option maxRecDepth 100000 in
set_option maxHeartbeats 2000000 in
theorem wcheck_used (m : Nat) (v : Value) (cl ln : ByteArray) (ix : Int) (w : World) (h : At w m #[.pointer (some ⟨m, 0, none⟩), v, .string cl, .string ln, .int .i64 ix] 51) :
  Calls Tryz.prog 71 #[.pointer (some ⟨m, 0, none⟩)] w fun e w' => e = .returned (.tuple #[]) ∧ w' = w := by
 obtain ⟨j, hj, -⟩ := Option.map_eq_some_iff.1 sizeBd
 have c0 := h.cell 0
 simp only [List.getElem?_toArray, List.getElem?_cons_zero] at c0
 go_enter Tryz.func71, Tryz.ntmps71
 go_wp2
 rw [Lib.run_neq_ptr_same w _ Tryz.underlying46 hj]
 go_wp2
 go_end0
 exact ⟨rfl, rfl⟩
set_option maxRecDepth 100000 in
set_option maxHeartbeats 2000000 in
theorem wcheck_fresh (m : Nat) (v : Value) (cl ln : ByteArray) (ix : Int) (w : World) (h : At w m #[.pointer none, v, .string cl, .string ln, .int .i64 ix] 51) :
  Calls Tryz.prog 71 #[.pointer (some ⟨m, 0, none⟩)] w fun e w' => e = .returned (.tuple #[]) ∧ w' = w.setCell ⟨m, 0, none⟩ (.pointer (some ⟨m, 0, none⟩)) := by
 obtain ⟨j, hj, hjs⟩ := Option.map_eq_some_iff.1 sizeBd
 have hsh := shapeWr h
 have c0 := h.cell 0
 have f0 := h.frozen 0
 simp only [List.getElem?_toArray, List.getElem?_cons_zero] at c0
 go_enter Tryz.func71, Tryz.ntmps71
 go_wp2
 rw [Lib.run_to_unsafe w ⟨m, 0, none⟩ Tryz.underlying46 Tryz.underlying119 hj (by rw [hjs]; decide) hsh (Nat.zero_lt_succ 4)]
 simp only [Result.andThen]
 rw [Oper.upon_value]
 go_wp2
 rw [run_callFunc_extern Tryz.func92 (by kernel_rfl) (by kernel_rfl) (by kernel_rfl) (e := Extern.AbiNoEscape.same) (by kernel_rfl)]
 rw [Lib.run_noEscape]
 simp only [Result.andThen]
 rw [Oper.upon_value]
 go_wp2
 rw [Lib.run_from_unsafe w ⟨m, 0, none⟩ Tryz.underlying119 Tryz.underlying46 hj hsh liesWr]
 simp only [Result.andThen]
 rw [Oper.upon_value]
 go_wp2
 go_end0
 exact ⟨rfl, rfl⟩
/-- The writer in block m has written these bytes; their row lies from B on. -/
def WdI (W : World) (m B : Nat) (cl ln : ByteArray) (ix : Int) (l : List UInt8) : Prop := ∃ p v, At W m #[p, v, .string cl, .string ln, .int .i64 ix] 51 ∧ (p = .pointer none ∨ p = .pointer (some ⟨m, 0, none⟩)) ∧ W.ownsRow B 5 1 v l.length (Lib.byteCells l)
/-- What a writer's call keeps: all below it, and beyond it all that are no bytes. -/
structure WrF (m : Nat) (w w' : World) : Prop where
 low : Below m w w'
 at_ : ∀ b cs t, b ≠ m → t ≠ 5 → At w b cs t → At w' b cs t
theorem WrF.refl (m : Nat) (w : World) : WrF m w w := ⟨Below.refl _ _, fun _ _ _ _ _ h => h⟩
theorem WrF.trans {m : Nat} {x y z : World} (h : WrF m x y) (k : WrF m y z) : WrF m x z := ⟨h.low.trans k.low, fun b cs t h1 h2 h3 => k.at_ b cs t h1 h2 (h.at_ b cs t h1 h2 h3)⟩
theorem WrF.of_below {m : Nat} {w w' : World} (hb : Below w.heap.size w w') (hm : m ≤ w.heap.size) : WrF m w w' := ⟨hb.mono hm, fun _ _ _ _ _ h => h.keptAll hb⟩
theorem WrF.set {m : Nat} {w : World} (k : Nat) (v : Value) : WrF m w (w.setCell ⟨m, k, none⟩ v) := ⟨(Below.refl _ _).setCell (p := ⟨m, k, none⟩) (Nat.le_refl _) _, fun _ _ _ h1 _ h3 => h3.other (p := ⟨m, k, none⟩) h1 v⟩
section
variable {W W' : World} {m B : Nat} {cl ln : ByteArray} {ix : Int} {l : List UInt8}
theorem WdI.kept (h : WdI W m B cl ln ix l) (hb : Below W.heap.size W W') : WdI W' m B cl ln ix l := by
 obtain ⟨p, v, h1, hp, h2⟩ := h
 refine ⟨p, v, h1.keptAll hb, hp, h2.kept (grown_of_below hb) ?_⟩
 rcases rowY_block h2 with e | ⟨g, cur, e, _⟩
 ·exact .inl e
 ·exact .inr (by rw [e]; simp)
end
theorem wrow_ne {W : World} {B n z b : Nat} {v : Value} {xs : List Value} {cs : Array Value} {t : TypeId} (h : W.ownsRow B 5 z v n xs) (ha : At W b cs t) (hne : t ≠ 5) : some b ≠ v.ownBlock := by
 rcases h.2 with ⟨rfl, -⟩ | ⟨g, cap, cur, rfl, -, hg, -⟩
 ·intro h; cases h
 ·intro h
  obtain rfl : b = g := by simpa [Value.ownBlock] using h
  have h4 : W.heap[b]? = some (.cells cs t) := ha
  rw [h4] at hg
  simp at hg
  exact hne hg.2
/-- What a write does. -/
theorem wwrite_core {W w2 : World} {m B : Nat} {cl ln : ByteArray} {ix : Int} {v v' : Value} {n k : Nat} {xs ys : List Value} (hv : At W m #[.pointer (some ⟨m, 0, none⟩), v, .string cl, .string ln, .int .i64 ix] 51) (hrow : W.ownsRow B 5 1 v n xs) (hm : m < B)
  (hown' : w2.ownsRow B 5 1 v' k ys) (hg : W.grownBy w2 v.ownBlock) :
  At w2 m #[.pointer (some ⟨m, 0, none⟩), v, .string cl, .string ln, .int .i64 ix] 51 ∧ At (w2.setCell ⟨m, 1, none⟩ v') m #[.pointer (some ⟨m, 0, none⟩), v', .string cl, .string ln, .int .i64 ix] 51 ∧ (w2.setCell ⟨m, 1, none⟩ v').ownsRow B 5 1 v' k ys ∧ WrF m W (w2.setCell ⟨m, 1, none⟩ v') := by
 have hmv : v.ownBlock ≠ some m := fun e => by have := (hrow.lt m e).1; omega
 have a1 : At w2 m #[.pointer (some ⟨m, 0, none⟩), v, .string cl, .string ln, .int .i64 ix] 51 := (hg.block m hv.lt (fun e => hmv e.symm)).trans hv
 have a2 : At (w2.setCell ⟨m, 1, none⟩ v') m #[.pointer (some ⟨m, 0, none⟩), v', .string cl, .string ln, .int .i64 ix] 51 := by have := a1.set 1 v'; simpa using this
 refine ⟨a1, a2, ownsRow_setCell_below hown' (a := ⟨m, 1, none⟩) hm v', ?_, fun b cs t hb ht ha => ?_⟩
 ·exact ((Below.refl m W).grown hg (by have := hv.lt; omega) (fun b e => by have := (hrow.lt b e).1; omega)).setCell (p := ⟨m, 1, none⟩) (Nat.le_refl _) _
 ·exact (Below.heap_setCell w2 ⟨m, 1, none⟩ v' b hb).trans ((hg.block b ha.lt (wrow_ne hrow ha ht)).trans ha)
set_option maxRecDepth 100000 in
set_option maxHeartbeats 2000000 in
theorem wstr_used (m B : Nat) (v : Value) (cl ln : ByteArray) (ix : Int) (l : List UInt8) (s : ByteArray) (hm : m < B) (hn : l.length + s.size ≤ 140737488355328) (w : World) (w0 : World) (h : At w m #[.pointer (some ⟨m, 0, none⟩), v, .string cl, .string ln, .int .i64 ix] 51) (hrow : w.ownsRow B 5 1 v l.length (Lib.byteCells l)) (hB : B ≤ w.heap.size)
  (hck : Calls Tryz.prog 71 #[.pointer (some ⟨m, 0, none⟩)] w0 fun e w' => e = .returned (.tuple #[]) ∧ w' = w) (hh : WrF m w0 w) :
  Calls Tryz.prog 47 #[.pointer (some ⟨m, 0, none⟩), .string s] w0 fun e w' => e = .returned (.tuple #[.int .i64 (s.size : Int), .nilIface]) ∧ WdI w' m B cl ln ix (l ++ s.data.toList) ∧ WrF m w0 w' := by
 have hck' := hid hck
 have hh' := hid hh
 have c0 : w.cell? ⟨m, 0, none⟩ = some (.pointer (some ⟨m, 0, none⟩)) := h.cell 0
 have c1 : w.cell? ⟨m, 1, none⟩ = some v := h.cell 1
 have h' := hid h
 have hrow' := hid hrow
 clear hck h hrow hh
 go_enter Tryz.func47, Tryz.ntmps47
 go_wp2_with fail
 refine Calls.mono hck'.out ?_
 rintro e w1 ⟨rfl, hw1⟩
 obtain rfl := hw1.symm
 go_wp2_with (at_builtin; refine wpList_append_str rfl _ _ rfl B v _ _ rfl hrow'.out s rfl hn hB ?_; intro v' w2 hown2 hg _; obtain ⟨a1, a2, a3, a4⟩ := wwrite_core h'.out hrow'.out hm hown2 hg; have d1 : w2.cell? ⟨m, 1, none⟩ = some v := a1.cell 1; have g1 := a1.frozen 1; have b2 := hid a2; have b3 := hid a3; have b4 := hid a4; obtain ⟨so', c', rfl⟩ := rowY_slice hown2; clear a1 a2 a3 a4 hg hown2 c0 c1)
 refine bodyPost_ret (v := .tuple #[.int .i64 (s.size : Int), .nilIface]) (by simp [results, Tryz.results47, go_sem]) rfl ?_
 refine ⟨rfl, ⟨_, _, b2.out, .inr rfl, ?_⟩, hh'.out.trans b4.out⟩
 have h3 := b3.out
 rw [Lib.strCells_eq, ← Lib.byteCells_append] at h3
 rw [show (l ++ s.data.toList).length = l.length + s.size by rw [List.length_append, Array.length_toList]; rfl]
 exact h3
theorem wstr_calls (m B : Nat) (cl ln : ByteArray) (ix : Int) (l : List UInt8) (s : ByteArray) (hm : m < B) (hn : l.length + s.size ≤ 140737488355328) (w : World) (h : WdI w m B cl ln ix l) (hB : B ≤ w.heap.size) :
  Calls Tryz.prog 47 #[.pointer (some ⟨m, 0, none⟩), .string s] w fun e w' => e = .returned (.tuple #[.int .i64 (s.size : Int), .nilIface]) ∧ WdI w' m B cl ln ix (l ++ s.data.toList) ∧ WrF m w w' := by
 obtain ⟨p, v, h1, rfl | rfl, h2⟩ := h
 ·have a1 : At (w.setCell ⟨m, 0, none⟩ (.pointer (some ⟨m, 0, none⟩))) m #[.pointer (some ⟨m, 0, none⟩), v, .string cl, .string ln, .int .i64 ix] 51 := by have := h1.set 0 (.pointer (some ⟨m, 0, none⟩)); simpa using this
  exact wstr_used m B v cl ln ix l s hm hn _ w a1 (ownsRow_setCell_below h2 (a := ⟨m, 0, none⟩) hm _) (Nat.le_trans hB (KeepsOthers.setCell w ⟨m, 0, none⟩ (.pointer (some ⟨m, 0, none⟩))).1) (wcheck_fresh m v cl ln ix w h1) (WrF.set 0 _)
 ·exact wstr_used m B v cl ln ix l s hm hn w w h1 h2 hB (wcheck_used m v cl ln ix w h1) (WrF.refl _ _)
set_option maxRecDepth 100000 in
set_option maxHeartbeats 2000000 in
theorem wbyte_used (m B : Nat) (v : Value) (cl ln : ByteArray) (ix : Int) (l : List UInt8) (k : UInt8) (C : Int) (hC : C = (k.toNat : Int)) (hm : m < B) (hn : l.length + 1 ≤ 140737488355328) (w : World) (w0 : World) (h : At w m #[.pointer (some ⟨m, 0, none⟩), v, .string cl, .string ln, .int .i64 ix] 51) (hrow : w.ownsRow B 5 1 v l.length (Lib.byteCells l)) (hB : B ≤ w.heap.size)
  (hck : Calls Tryz.prog 71 #[.pointer (some ⟨m, 0, none⟩)] w0 fun e w' => e = .returned (.tuple #[]) ∧ w' = w) (hh : WrF m w0 w) :
  Calls Tryz.prog 76 #[.pointer (some ⟨m, 0, none⟩), .int .u8 C] w0 fun e w' => e = .returned .nilIface ∧ WdI w' m B cl ln ix (l ++ [k]) ∧ WrF m w0 w' := by
 have hck' := hid hck
 have hh' := hid hh
 have hC' := hid hC
 clear hC
 have h2 := hid (h.alloc (.cells #[.int .u8 C] 5))
 have hrow2 := hid (World.ownsRow.alloc hrow (.cells #[.int .u8 C] 5))
 have c0 : w.cell? ⟨m, 0, none⟩ = some (.pointer (some ⟨m, 0, none⟩)) := h.cell 0
 have c1 : w.cell? ⟨m, 1, none⟩ = some v := h.cell 1
 have hw2 := hid (show WrF m w (w.alloc (.cells #[.int .u8 C] 5)) from WrF.of_below ((Below.refl _ _).alloc (Nat.le_refl _) _) (Nat.le_trans (Nat.le_of_lt hm) hB))
 have hcell := hid (show (w.alloc (.cells #[.int .u8 C] 5)).cell? ⟨w.heap.size, 0, none⟩ = some (.int .u8 C) from (At.new w #[.int .u8 C] 5).cell 0)
 clear hck h hrow hh
 go_enter Tryz.func76, Tryz.ntmps76
 go_wp2_with fail
 refine Calls.mono hck'.out ?_
 rintro e w1 ⟨rfl, hw1⟩
 obtain rfl := hw1.symm
 go_wp2_with (at_builtin; refine wpList_append_byte rfl _ _ rfl B v _ _ rfl hrow2.out _ C rfl hcell.out hn (by rw [World.size_alloc]; omega) ?_; intro v' w3 hown3 hg; obtain ⟨a1, a2, a3, a4⟩ := wwrite_core h2.out hrow2.out hm hown3 hg; have d1 : w3.cell? ⟨m, 1, none⟩ = some v := a1.cell 1; have f1 := a1.frozen 1; have b2 := hid a2; have b3 := hid a3; have b4 := hid a4; obtain ⟨so, cc, rfl⟩ := rowY_slice hown3; clear a1 a2 a3 a4 hown3 hg)
 go_ret
 refine ⟨rfl, ⟨_, _, b2.out, .inr rfl, ?_⟩, hh'.out.trans (hw2.out.trans b4.out)⟩
 rw [show (l ++ [k]).length = l.length + 1 by simp, show Lib.byteCells (l ++ [k]) = Lib.byteCells l ++ [.int .u8 C] by rw [hC'.out, Lib.byteCells_append]; rfl]
 exact b3.out
theorem wbyte_calls (m B : Nat) (cl ln : ByteArray) (ix : Int) (l : List UInt8) (k : UInt8) (C : Int) (hC : C = (k.toNat : Int)) (hm : m < B) (hn : l.length + 1 ≤ 140737488355328) (w : World) (h : WdI w m B cl ln ix l) (hB : B ≤ w.heap.size) :
  Calls Tryz.prog 76 #[.pointer (some ⟨m, 0, none⟩), .int .u8 C] w fun e w' => e = .returned .nilIface ∧ WdI w' m B cl ln ix (l ++ [k]) ∧ WrF m w w' := by
 obtain ⟨p, v, h1, rfl | rfl, h2⟩ := h
 ·have a1 : At (w.setCell ⟨m, 0, none⟩ (.pointer (some ⟨m, 0, none⟩))) m #[.pointer (some ⟨m, 0, none⟩), v, .string cl, .string ln, .int .i64 ix] 51 := by have := h1.set 0 (.pointer (some ⟨m, 0, none⟩)); simpa using this
  exact wbyte_used m B v cl ln ix l k C hC hm hn _ w a1 (ownsRow_setCell_below h2 (a := ⟨m, 0, none⟩) hm _) (Nat.le_trans hB (KeepsOthers.setCell w ⟨m, 0, none⟩ (.pointer (some ⟨m, 0, none⟩))).1) (wcheck_fresh m v cl ln ix w h1) (WrF.set 0 _)
 ·exact wbyte_used m B v cl ln ix l k C hC hm hn w w h1 h2 hB (wcheck_used m v cl ln ix w h1) (WrF.refl _ _)
set_option maxRecDepth 100000 in
set_option maxHeartbeats 2000000 in
theorem wstring_nil (cl ln : ByteArray) (ix : Int) (m n0 : Nat) (p : Value) (w : World) (h : At w m #[p, .slice none 0 0, .string cl, .string ln, .int .i64 ix] 51) :
  Calls Tryz.prog 33 #[.pointer (some ⟨m, 0, none⟩)] w fun e w' => e = .returned (.string ⟨#[]⟩) ∧ Below n0 w w' ∧ ∀ (D : Nat) (o : Obj), o.isCells = false → w.heap[D]? = some o → w'.heap[D]? = some o := by
 have hUS := fun (W : World) (q : Option Addr) => Lib.run_unsafeString_none (P := Tryz.prog) W 82 3 9 q
 have c1 : w.cell? ⟨m, 1, none⟩ = some (.slice none 0 0) := h.cell 1
 have c1' : w.drew.cell? ⟨m, 1, none⟩ = some (.slice none 0 0) := c1
 have hSD : (Builtin.unsafeSliceData_ #[47] 82 #[.slice none 0 0]).run Tryz.prog w.drew = .ok (.pointer none) w.drew := rfl
 go_enter Tryz.func33, Tryz.ntmps33
 go_wp2
 go_region
 all_goals (go_wp2; go_ret; exact ⟨rfl, Below.drew (Below.refl n0 w), fun _ _ _ h => h⟩)
set_option maxRecDepth 100000 in
set_option maxHeartbeats 2000000 in
theorem wstring_room (cl ln : ByteArray) (ix : Int) (m n0 g cap : Nat) (p : Value) (hc0 : cap ≠ 0) (w : World) (h : At w m #[p, .slice (some ⟨g, 0, none⟩) 0 cap, .string cl, .string ln, .int .i64 ix] 51) :
  Calls Tryz.prog 33 #[.pointer (some ⟨m, 0, none⟩)] w fun e w' => e = .returned (.string ⟨#[]⟩) ∧ Below n0 w w' ∧ ∀ (D : Nat) (o : Obj), o.isCells = false → w.heap[D]? = some o → w'.heap[D]? = some o := by
 have hUS := fun (W : World) (q : Option Addr) => Lib.run_unsafeString_none (P := Tryz.prog) W 82 3 9 q
 have c1 : w.cell? ⟨m, 1, none⟩ = some (.slice (some ⟨g, 0, none⟩) 0 cap) := h.cell 1
 have c1' : w.drew.cell? ⟨m, 1, none⟩ = some (.slice (some ⟨g, 0, none⟩) 0 cap) := c1
 have hSD : (Builtin.unsafeSliceData_ #[47] 82 #[.slice (some ⟨g, 0, none⟩) 0 cap]).run Tryz.prog w.drew = .ok (.pointer (some ⟨g, 0, none⟩)) w.drew := Lib.run_unsafeSliceData_row _ _ _ _ _ _ hc0
 clear hc0
 go_enter Tryz.func33, Tryz.ntmps33
 go_wp2
 go_region
 all_goals (go_wp2; go_ret; exact ⟨rfl, Below.drew (Below.refl n0 w), fun _ _ _ h => h⟩)
set_option maxRecDepth 100000 in
set_option maxHeartbeats 2000000 in
theorem wstring_noroom (cl ln : ByteArray) (ix : Int) (m n0 g : Nat) (p : Value) (cur : Array Value) (w : World) (hB : n0 ≤ w.heap.size) (h : At w m #[p, .slice (some ⟨g, 0, none⟩) 0 0, .string cl, .string ln, .int .i64 ix] 51) (hg : w.heap[g]? = some (.cells cur 5 (0, 0))) :
  Calls Tryz.prog 33 #[.pointer (some ⟨m, 0, none⟩)] w fun e w' => e = .returned (.string ⟨#[]⟩) ∧ Below n0 w w' ∧ ∀ (D : Nat) (o : Obj), o.isCells = false → w.heap[D]? = some o → w'.heap[D]? = some o := by
 have hUS := fun (W : World) (q : Option Addr) => Lib.run_unsafeString_none (P := Tryz.prog) W 82 3 9 q
 have hlt := h.lt
 have c1 : w.cell? ⟨m, 1, none⟩ = some (.slice (some ⟨g, 0, none⟩) 0 0) := h.cell 1
 have c1' : w.drew.cell? ⟨m, 1, none⟩ = some (.slice (some ⟨g, 0, none⟩) 0 0) := c1
 have hSD : (Builtin.unsafeSliceData_ #[47] 82 #[.slice (some ⟨g, 0, none⟩) 0 0]).run Tryz.prog w.drew = .ok (.pointer (some ⟨w.drew.heap.size, 0, none⟩)) (w.drew.alloc (.view ⟨g, 0, none⟩ 5)) :=
  Lib.run_unsafeSliceData_zero w.drew _ _ 5 Tryz.underlying82 ⟨g, 0, none⟩ 0 (5, cur.size) (by have hg' : w.drew.heap[g]? = some (.cells cur 5 (0, 0)) := hg; simp [World.shape?, hg'])
 have c2 : (w.drew.alloc (.view ⟨g, 0, none⟩ 5)).cell? ⟨m, 1, none⟩ = some (.slice (some ⟨g, 0, none⟩) 0 0) := (h.drew.alloc (.view ⟨g, 0, none⟩ 5)).cell 1
 have c3 : (w.alloc (.view ⟨g, 0, none⟩ 5)).drew.cell? ⟨m, 1, none⟩ = some (.slice (some ⟨g, 0, none⟩) 0 0) := c2
 clear h hg
 go_enter Tryz.func33, Tryz.ntmps33
 go_wp2
 go_region
 all_goals (go_wp2; go_ret; exact ⟨rfl, (Below.drew (Below.refl n0 w)).alloc hB _, fun D o _ h => (Below.heap_alloc w.drew _ D (Array.getElem?_eq_some_iff.1 h).1).trans h⟩)
set_option maxRecDepth 100000 in
set_option maxHeartbeats 2000000 in
theorem wstring_some (cl ln : ByteArray) (ix : Int) (m B n0 : Nat) (p v : Value) (l : List UInt8) (h0 : l ≠ []) (w : World) (h : At w m #[p, v, .string cl, .string ln, .int .i64 ix] 51) (hown : w.ownsRow B 5 1 v l.length (Lib.byteCells l)) (hn0 : n0 ≤ B) :
  Calls Tryz.prog 33 #[.pointer (some ⟨m, 0, none⟩)] w fun e w' => e = .returned (.string ⟨l.toArray⟩) ∧ Below n0 w w' ∧ ∀ (D : Nat) (o : Obj), o.isCells = false → w.heap[D]? = some o → w'.heap[D]? = some o := by
 have hl0 : l.length ≠ 0 := by simpa using h0
 obtain ⟨g, cap, cur, rfl, hbg, hg, hnc, hcm, hcs, htake⟩ : ∃ g cap cur, v = .slice (some ⟨g, 0, none⟩) l.length cap ∧ B ≤ g ∧ w.heap[g]? = some (.cells cur 5 (0, 0)) ∧ l.length ≤ cap ∧ cap ≤ maxLen ∧ cur.size = cap * 1 ∧ cur.toList.take (l.length * 1) = Lib.byteCells l := by
  rcases hown.2 with ⟨_, hz⟩ | ⟨g, cap, cur, hv, r⟩
  ·exact absurd hz hl0
  ·exact ⟨g, cap, cur, hv, r⟩
 have c1 : w.cell? ⟨m, 1, none⟩ = some (.slice (some ⟨g, 0, none⟩) l.length cap) := h.cell 1
 have c1' : w.drew.cell? ⟨m, 1, none⟩ = some (.slice (some ⟨g, 0, none⟩) l.length cap) := c1
 have hSD : (Builtin.unsafeSliceData_ #[47] 82 #[.slice (some ⟨g, 0, none⟩) l.length cap]).run Tryz.prog w.drew = .ok (.pointer (some ⟨g, 0, none⟩)) w.drew := Lib.run_unsafeSliceData_row _ _ _ _ _ _ (by omega)
 have hUS : (Builtin.unsafeString_ #[82, 3] 9 #[.pointer (some ⟨g, 0, none⟩), .int .i64 l.length]).run Tryz.prog w.drew = .ok (.string ⟨l.toArray⟩) (w.drew.freeze ⟨g, 0, none⟩ l.length) := by
  refine Lib.run_unsafeString_row w.drew 82 3 9 5 Tryz.underlying82 cellsBy g cur.size (by have hg' : w.drew.heap[g]? = some (.cells cur 5 (0, 0)) := hg; simp [World.shape?, hg']) l h0 (by omega) (by unfold maxLen at hcm; omega) ?_
  intro j x hx
  exact hown.cells (g := g) rfl j (.int .u8 x.toNat) (by simp [Lib.byteCells, hx])
 have hgn : n0 ≤ g := Nat.le_trans hn0 hbg
 have hg' := hg
 clear h hown hg hcs htake h0 hl0
 go_enter Tryz.func33, Tryz.ntmps33
 go_wp2
 go_region
 all_goals (go_wp2; go_ret; exact ⟨rfl, Lib.below_freeze (Below.drew (Below.refl n0 w)) (p := ⟨g, 0, none⟩) hgn _, fun D o hc h => (freeze_other w.drew ⟨g, 0, none⟩ _ D (fun e => by rw [show D = g from e] at h; rw [h] at hg'; cases hg'; cases hc)).trans h⟩)
theorem wstring_calls (cl ln : ByteArray) (ix : Int) (m B n0 : Nat) (l : List UInt8) (w : World) (h : WdI w m B cl ln ix l) (hn0 : n0 ≤ B) (hB : B ≤ w.heap.size) :
  Calls Tryz.prog 33 #[.pointer (some ⟨m, 0, none⟩)] w fun e w' => e = .returned (.string ⟨l.toArray⟩) ∧ Below n0 w w' ∧ ∀ (D : Nat) (o : Obj), o.isCells = false → w.heap[D]? = some o → w'.heap[D]? = some o := by
 obtain ⟨p, v, h1, -, hown⟩ := h
 cases l with
 | nil =>
  rcases hown.2 with ⟨rfl, _⟩ | ⟨g, cap, cur, rfl, hbg, hg, _, _, _, _⟩
  ·exact wstring_nil cl ln ix m n0 p w h1
  ·by_cases hc0 : cap = 0
   ·subst hc0
    exact wstring_noroom cl ln ix m n0 g p cur w (by omega) h1 hg
   ·exact wstring_room cl ln ix m n0 g cap p hc0 w h1
 | cons x r => exact wstring_some cl ln ix m B n0 p v (x :: r) (by simp) w h1 hown hn0
end Go.Proofs.YtlhbgfhmcjaabaaGreatDoor
