/-
  Texts of mine that others lean on, one behind the other.
-/
import Derived.Test.YtgpagaielnemmaaDoorPack2
import Derived.Laws.AppendOwn
import Derived.Shelf.Strings.Search2
import Derived.Test.YtgpagaielnemmaaDoorProg
import Derived.KernelRfl
/-
 strings.Builder's WriteByte; what a write keeps.
-/
namespace Go.Proofs.YtgpagaielnemmaaDoor
open Go.RowKit Go.Shelf
theorem wpList_append_byte {ops : Array Oper} {rest : List Oper} {o : Oper} {a : Act} {w : World} {Q : Exit → Act → World → Prop} (hgd : o.guard = none) (sl x : Operand)
  (ho : o.op = .call { callee := .builtin .append, args := #[sl, x], argTypes := #[58, 58] }) (base : Nat) (v : Value) (n : Nat) (xs : List Value) (hs : a.eval sl = v) (hown : w.ownsRow base 5 1 v n xs) (b : Nat) (C : Int) (hx : a.eval x = .slice (some ⟨b, 0, none⟩) 1 1) (hc : w.cell? ⟨b, 0, none⟩ = some (.int .u8 C))
  (hn : n + 1 ≤ 140737488355328) (hbase : base ≤ w.heap.size)
  (h : ∀ v' w', w'.ownsRow base 5 1 v' (n + 1) (xs ++ [.int .u8 C]) → w.grownBy w' v.ownBlock → wpList Tryd.prog ops Q rest (a.put o.dst v') w') : wpList Tryd.prog ops Q (o :: rest) a w := by
 obtain ⟨i0, hi, hz0, hz1, hz2⟩ := info_parts infoBy
 exact wpList_append_own w hgd sl x 58 ho base 5 i0 (.int .u8 0) 1 1 Tryd.underlying58 hi hz0 hz1 hz2 rfl (by decide) v n xs hs hown ⟨b, 0, none⟩ 1 1 [.int .u8 C] hx rfl (fun j u hj => by
  match j, hj with
  | 0, hj => simp at hj; subst hj; simpa [Addr.add] using hc) (fun u hu => by simp at hu; subst hu; rfl) (by unfold maxLen; omega) (by omega) hbase (fun v' w' h1 h2 _ => h v' w' h1 h2)
set_option maxRecDepth 100000 in
set_option maxHeartbeats 2000000 in
theorem bbyte_used (m B : Nat) (v : Value) (l : List UInt8) (k : UInt8) (C : Int) (hC : C = (k.toNat : Int)) (hm : m < B) (hn : l.length + 1 ≤ 140737488355328) (w : World) (w0 : World) (h : At w m #[.pointer (some ⟨m, 0, none⟩), v] 60) (hrow : w.ownsRow B 5 1 v l.length (Lib.byteCells l)) (hB : B ≤ w.heap.size)
  (hck : Calls Tryd.prog 52 #[.pointer (some ⟨m, 0, none⟩)] w0 fun e w' => e = .returned (.tuple #[]) ∧ w' = w) (hh : Below m w0 w) :
  Calls Tryd.prog 34 #[.pointer (some ⟨m, 0, none⟩), .int .u8 C] w0 fun e w' => e = .returned .nilIface ∧ BdI w' m B (l ++ [k]) ∧ Below m w0 w' := by
 have hck' := hid hck
 have hh' := hid hh
 have hC' := hid hC
 clear hC
 have h2 := hid (h.alloc (.cells #[.int .u8 C] 5))
 have hrow2 := hid (World.ownsRow.alloc hrow (.cells #[.int .u8 C] 5))
 have c0 : w.cell? ⟨m, 0, none⟩ = some (.pointer (some ⟨m, 0, none⟩)) := h.cell 0
 have c1 : w.cell? ⟨m, 1, none⟩ = some v := h.cell 1
 have hw2 := hid (show Below m w (w.alloc (.cells #[.int .u8 C] 5)) from (Below.refl _ _).alloc (Nat.le_trans (Nat.le_of_lt hm) hB) _)
 have hcell := hid (show (w.alloc (.cells #[.int .u8 C] 5)).cell? ⟨w.heap.size, 0, none⟩ = some (.int .u8 C) from (At.new w #[.int .u8 C] 5).cell 0)
 clear hck h hrow hh
 go_enter Tryd.func34, Tryd.ntmps34
 go_wp2_with fail
 refine Calls.mono hck'.out ?_
 rintro e w1 ⟨rfl, hw1⟩
 obtain rfl := hw1.symm
 go_wp2_with (at_builtin; refine wpList_append_byte rfl _ _ rfl B v _ _ rfl hrow2.out _ C rfl hcell.out hn (by rw [World.size_alloc]; omega) ?_; intro v' w3 hown3 hg; obtain ⟨so, cc, rfl⟩ := rowY_slice hown3; have a1 : At w3 m #[.pointer (some ⟨m, 0, none⟩), v] 60 := (hg.block m h2.out.lt (fun e => by have := (hrow2.out.lt m e.symm).1; omega)).trans h2.out; have f1 : w3.frozen? ⟨m, 1, none⟩ = false := a1.frozen 1; have d1 : w3.cell? ⟨m, 1, none⟩ = some v := a1.cell 1; have a1' := hid a1; have hown3' := hid hown3; have hg' := hid hg; clear a1 hown3 hg)
 go_ret
 have a2 : At (w3.setCell ⟨m, 1, none⟩ (.slice so (l.length + 1) cc)) m #[.pointer (some ⟨m, 0, none⟩), .slice so (l.length + 1) cc] 60 := by have := a1'.out.set 1 (.slice so (l.length + 1) cc); simpa using this
 refine ⟨rfl, ⟨_, _, a2, .inr rfl, ?_⟩, ?_⟩
 ·have h3 := ownsRow_setCell_below hown3'.out (a := ⟨m, 1, none⟩) hm (.slice so (l.length + 1) cc)
  rw [show (l ++ [k]).length = l.length + 1 by simp, show Lib.byteCells (l ++ [k]) = Lib.byteCells l ++ [.int .u8 C] by rw [hC'.out, Lib.byteCells_append]; rfl]
  exact h3
 ·have h4 : Below m (w.alloc (.cells #[.int .u8 C] 5)) (w3.setCell ⟨m, 1, none⟩ (.slice so (l.length + 1) cc)) := ((Below.refl m _).grown hg'.out (by have := h2.out.lt; omega) (fun b e => by have := (hrow2.out.lt b e).1; omega)).setCell (p := ⟨m, 1, none⟩) (Nat.le_refl _) _
  exact hh'.out.trans (hw2.out.trans h4)
theorem bbyte_calls (m B : Nat) (l : List UInt8) (k : UInt8) (C : Int) (hC : C = (k.toNat : Int)) (hm : m < B) (hn : l.length + 1 ≤ 140737488355328) (w : World) (h : BdI w m B l) (hB : B ≤ w.heap.size) :
  Calls Tryd.prog 34 #[.pointer (some ⟨m, 0, none⟩), .int .u8 C] w fun e w' => e = .returned .nilIface ∧ BdI w' m B (l ++ [k]) ∧ Below m w w' := by
 obtain ⟨p, v, h1, rfl | rfl, h2⟩ := h
 ·have a1 : At (w.setCell ⟨m, 0, none⟩ (.pointer (some ⟨m, 0, none⟩))) m #[.pointer (some ⟨m, 0, none⟩), v] 60 := by have := h1.set 0 (.pointer (some ⟨m, 0, none⟩)); simpa using this
  exact bbyte_used m B v l k C hC hm hn _ w a1 (ownsRow_setCell_below h2 (a := ⟨m, 0, none⟩) hm _) (Nat.le_trans hB (KeepsOthers.setCell w ⟨m, 0, none⟩ (.pointer (some ⟨m, 0, none⟩))).1) (bcheck_fresh m v w h1) ((Below.refl m w).setCell (p := ⟨m, 0, none⟩) (Nat.le_refl _) _)
 ·exact bbyte_used m B v l k C hC hm hn w w h1 h2 hB (bcheck_used m v w h1) (Below.refl _ _)
/-- WriteString, with what it keeps. -/
theorem bstr_calls (m B : Nat) (l : List UInt8) (s : ByteArray) (hm : m < B) (hn : l.length + s.size ≤ 140737488355328) (w : World) (h : BdI w m B l) (hB : B ≤ w.heap.size) :
  Calls Tryd.prog 35 #[.pointer (some ⟨m, 0, none⟩), .string s] w fun e w' => e = .returned (.tuple #[.int .i64 (s.size : Int), .nilIface]) ∧ BdI w' m B (l ++ s.data.toList) ∧ Below m w w' := by
 refine (bwrite_calls m B l s hm hn w h hB).mono ?_
 rintro e w' ⟨rfl, h1, h2⟩
 exact ⟨rfl, h1, (h2 m (m + 1) (m + 1) (Nat.le_refl _) (Nat.lt_succ_self _) (Nat.succ_ne_self _)).1⟩
end Go.Proofs.YtgpagaielnemmaaDoor

/-
  The library's contract of internal/stringslite.Index at one byte is laid at this program.
-/
namespace Go.Proofs
open Go.Shelf
def Tryd.lays219_ren : Go.Shelf.Ren := ⟨fun | 219 => 70 | 217 => 82 | 225 => 83 | 224 => 84 | 267 => 85 | 266 => 98 | 314 => 99 | n => n, fun | 9 => 9 | 3 => 3 | 4 => 4 | 5 => 5 | 46 => 86 | 146 => 137 | 51 => 136 | n => n, fun | 1 => 2 | n => n⟩
theorem Tryd.lays219 : Go.Proofs.Lays.n219 Tryd.prog Tryd.lays219_ren := {
  mixed := by kernel_rfl
  f217 := Tryd.func82.trans (congrArg some (by kernel_rfl))
  f219 := Tryd.func70.trans (congrArg some (by kernel_rfl))
  f224 := Tryd.func84.trans (congrArg some (by kernel_rfl))
  f225 := Tryd.func83.trans (congrArg some (by kernel_rfl))
  f266 := Tryd.func98.trans (congrArg some (by kernel_rfl))
  f267 := Tryd.func85.trans (congrArg some (by kernel_rfl))
  f314 := Tryd.func99.trans (congrArg some (by kernel_rfl))
  t3 := Tryd.underlying3
  a3 := Tryd.isAgg3
  z3 := Tryd.sizeOf3
  v3 := Tryd.zeroValue3
  t4 := Tryd.underlying4
  a4 := Tryd.isAgg4
  z4 := Tryd.sizeOf4
  v4 := Tryd.zeroValue4
  t5 := Tryd.underlying5
  a5 := Tryd.isAgg5
  z5 := Tryd.sizeOf5
  v5 := Tryd.zeroValue5
  t9 := Tryd.underlying9
  a9 := Tryd.isAgg9
  z9 := Tryd.sizeOf9
  v9 := Tryd.zeroValue9
  t46 := Tryd.underlying86
  a46 := Tryd.isAgg86
  z46 := Tryd.sizeOf86
  v46 := Tryd.zeroValue86
  t51 := Tryd.underlying136
  a51 := Tryd.isAgg136
  z51 := Tryd.sizeOf136
  v51 := Tryd.zeroValue136
  t146 := Tryd.underlying137
  a146 := Tryd.isAgg137
  z146 := Tryd.sizeOf137
  v146 := Tryd.zeroValue137
  g1 := by kernel_rfl }
end Go.Proofs
