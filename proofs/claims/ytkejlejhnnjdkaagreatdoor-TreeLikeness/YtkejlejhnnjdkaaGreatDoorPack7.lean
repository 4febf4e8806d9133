/-
  Texts of mine that others lean on, one behind the other.
-/
import Derived.Test.YtkejlejhnnjdkaaGreatDoorPack1
import Derived.Shelf.Strings.Trim
import Derived.Shelf.LaysM
import Derived.Shelf.Strconv.Clone
import Derived.Test.YtkejlejhnnjdkaaGreatDoorProg
import Derived.KernelRfl
import Derived.Deep.Upon
/-
 TrD, TrD2, one behind the other.
-/
/- quarryref17.Count and Depth: how many parts a value has, how deep it is. -/
namespace Go.Proofs.YtkejlejhnnjdkaaGreatDoor
open Go.RowKit Go.Shelf
mutual
/-- How many parts a value has. -/
def cntV : Vt → Nat
 | .mk _ _ _ _ _ vs => cntL vs + 1
def cntL : List Vt → Nat
 | [] => 0
 | v :: vs => cntV v + cntL vs
end
mutual
/-- How deep it is. -/
def depV : Vt → Nat
 | .mk k _ _ _ _ vs => if k = 5 ∨ k = 6 then depL vs + 1 else 0
def depL : List Vt → Nat
 | [] => 0
 | v :: vs => max (depV v) (depL vs)
end
end Go.Proofs.YtkejlejhnnjdkaaGreatDoor
/- quarryref17.Depth: how deep a value is. -/
namespace Go.Proofs.YtkejlejhnnjdkaaGreatDoor
open Go.RowKit Go.Shelf
end Go.Proofs.YtkejlejhnnjdkaaGreatDoor

/-
 tree.Depth and tree.Count.
-/
namespace Go.Proofs.YtkejlejhnnjdkaaGreatDoor
open Go.RowKit Go.Shelf
theorem ValAt.six {w : World} {u : Vt} {L : List Value} (h : ValAt w u (.agg L.toArray)) : ∃ k b r t ko N kc vo M vc, L = [.int .i64 k, .bool b, .string r, .string t, .slice ko N kc, .slice vo M vc] := by
 obtain ⟨ko, kc, vo, vc, h⟩ := h.cells
 exact ⟨_, _, _, _, _, _, _, _, _, _, by simpa using congrArg Array.toList h⟩
end Go.Proofs.YtkejlejhnnjdkaaGreatDoor

/-
 quarryref17.First: the place of the first member of a name.
-/
namespace Go.Proofs.YtkejlejhnnjdkaaGreatDoor
open Go.RowKit Go.Shelf
/-- The first place of a name among names; -1: there is none. -/
def IsFst (ks : List ByteArray) (nm : ByteArray) (f : Int) : Prop := (f = -1 ∧ ∀ j : Nat, ks[j]? ≠ some nm) ∨ ∃ i : Nat, f = (i : Int) ∧ ks[i]? = some nm ∧ ∀ j, j < i → ks[j]? ≠ some nm
theorem IsFst.uniq {ks : List ByteArray} {nm : ByteArray} {f g : Int} (h : IsFst ks nm f) (h' : IsFst ks nm g) : f = g := by
 rcases h with ⟨rfl, h⟩ | ⟨i, rfl, h1, h2⟩ <;> rcases h' with ⟨rfl, h'⟩ | ⟨i', rfl, h1', h2'⟩
 ·rfl
 ·exact absurd h1' (h i')
 ·exact absurd h1 (h' i)
 ·by_cases hlt : i < i'
  ·exact absurd h1 (h2' i hlt)
  ·by_cases hgt : i' < i
   ·exact absurd h1' (h2 i' hgt)
   ·have : i = i' := by omega
    rw [this]
end Go.Proofs.YtkejlejhnnjdkaaGreatDoor

/-
  The library's contracts of strings.TrimLeft, strings.TrimRight (one byte) and stringslite.Clone are laid at this program.
-/
namespace Go.Proofs
open Go.Shelf
def Tryz.lays161_ren : Go.Shelf.Ren := ⟨fun | 161 => 103 | 231 => 128 | 227 => 129 | 233 => 130 | 235 => 131 | 228 => 146 | 197 => 147 | 151 => 148 | 260 => 158 | 152 => 159 | 137 => 163 | 119 => 164 | 224 => 165 | 225 => 166 | 217 => 168 | 266 => 170 | n => n, fun | 9 => 9 | 4 => 4 | 3 => 3 | 5 => 5 | 117 => 151 | 116 => 150 | 0 => 0 | 124 => 154 | 105 => 137 | 21 => 21 | 119 => 96 | 46 => 100 | 139 => 99 | 138 => 98 | n => n, fun | 3 => 0 | 4 => 1 | n => n⟩
theorem Tryz.lays161 : Go.Proofs.Lays.n161 Tryz.prog Tryz.lays161_ren := {
  mixed := by kernel_rfl
  f119 := Tryz.func164.trans (congrArg some (by kernel_rfl))
  f137 := Tryz.func163.trans (congrArg some (by kernel_rfl))
  f151 := Tryz.func148.trans (congrArg some (by kernel_rfl))
  f152 := Tryz.func159.trans (congrArg some (by kernel_rfl))
  f161 := Tryz.func103.trans (congrArg some (by kernel_rfl))
  f197 := Tryz.func147.trans (congrArg some (by kernel_rfl))
  f217 := Tryz.func168.trans (congrArg some (by kernel_rfl))
  f224 := Tryz.func165.trans (congrArg some (by kernel_rfl))
  f225 := Tryz.func166.trans (congrArg some (by kernel_rfl))
  f227 := Tryz.func129.trans (congrArg some (by kernel_rfl))
  f228 := Tryz.func146.trans (congrArg some (by kernel_rfl))
  f231 := Tryz.func128.trans (congrArg some (by kernel_rfl))
  f233 := Tryz.func130.trans (congrArg some (by kernel_rfl))
  f235 := Tryz.func131.trans (congrArg some (by kernel_rfl))
  f260 := Tryz.func158.trans (congrArg some (by kernel_rfl))
  f266 := Tryz.func170.trans (congrArg some (by kernel_rfl))
  t0 := Tryz.underlying0
  a0 := Tryz.isAgg0
  z0 := Tryz.sizeOf0
  v0 := Tryz.zeroValue0
  t3 := Tryz.underlying3
  a3 := Tryz.isAgg3
  z3 := Tryz.sizeOf3
  v3 := Tryz.zeroValue3
  t4 := Tryz.underlying4
  a4 := Tryz.isAgg4
  z4 := Tryz.sizeOf4
  v4 := Tryz.zeroValue4
  t5 := Tryz.underlying5
  a5 := Tryz.isAgg5
  z5 := Tryz.sizeOf5
  v5 := Tryz.zeroValue5
  t9 := Tryz.underlying9
  a9 := Tryz.isAgg9
  z9 := Tryz.sizeOf9
  v9 := Tryz.zeroValue9
  t21 := Tryz.underlying21
  a21 := Tryz.isAgg21
  z21 := Tryz.sizeOf21
  v21 := Tryz.zeroValue21
  t46 := Tryz.underlying100
  a46 := Tryz.isAgg100
  z46 := Tryz.sizeOf100
  v46 := Tryz.zeroValue100
  t105 := Tryz.underlying137
  a105 := Tryz.isAgg137
  z105 := Tryz.sizeOf137
  v105 := Tryz.zeroValue137
  t116 := Tryz.underlying150
  a116 := Tryz.isAgg150
  z116 := Tryz.sizeOf150
  t117 := Tryz.underlying151
  a117 := Tryz.isAgg151
  z117 := Tryz.sizeOf151
  v117 := Tryz.zeroValue151
  t119 := Tryz.underlying96
  a119 := Tryz.isAgg96
  z119 := Tryz.sizeOf96
  t124 := Tryz.underlying154
  a124 := Tryz.isAgg154
  z124 := Tryz.sizeOf154
  v124 := Tryz.zeroValue154
  t138 := Tryz.underlying98
  a138 := Tryz.isAgg98
  z138 := Tryz.sizeOf98
  v138 := Tryz.zeroValue98
  t139 := Tryz.underlying99
  a139 := Tryz.isAgg99
  z139 := Tryz.sizeOf99
  v139 := Tryz.zeroValue99
  g3 := by kernel_rfl
  g4 := by kernel_rfl }
def Tryz.lays162_ren : Go.Shelf.Ren := ⟨fun | 162 => 104 | 232 => 132 | 227 => 129 | 234 => 133 | 236 => 134 | 228 => 146 | 271 => 149 | 151 => 148 | 120 => 160 | 197 => 147 | 152 => 159 | 260 => 158 | 137 => 163 | 119 => 164 | 224 => 165 | 225 => 166 | 217 => 168 | 266 => 170 | n => n, fun | 9 => 9 | 4 => 4 | 3 => 3 | 5 => 5 | 117 => 151 | 116 => 150 | 0 => 0 | 124 => 154 | 21 => 21 | 105 => 137 | 46 => 100 | 119 => 96 | 139 => 99 | 138 => 98 | n => n, fun | 3 => 0 | 4 => 1 | n => n⟩
theorem Tryz.lays162 : Go.Proofs.Lays.n162 Tryz.prog Tryz.lays162_ren := {
  mixed := by kernel_rfl
  f119 := Tryz.func164.trans (congrArg some (by kernel_rfl))
  f120 := Tryz.func160.trans (congrArg some (by kernel_rfl))
  f137 := Tryz.func163.trans (congrArg some (by kernel_rfl))
  f151 := Tryz.func148.trans (congrArg some (by kernel_rfl))
  f152 := Tryz.func159.trans (congrArg some (by kernel_rfl))
  f162 := Tryz.func104.trans (congrArg some (by kernel_rfl))
  f197 := Tryz.func147.trans (congrArg some (by kernel_rfl))
  f217 := Tryz.func168.trans (congrArg some (by kernel_rfl))
  f224 := Tryz.func165.trans (congrArg some (by kernel_rfl))
  f225 := Tryz.func166.trans (congrArg some (by kernel_rfl))
  f227 := Tryz.func129.trans (congrArg some (by kernel_rfl))
  f228 := Tryz.func146.trans (congrArg some (by kernel_rfl))
  f232 := Tryz.func132.trans (congrArg some (by kernel_rfl))
  f234 := Tryz.func133.trans (congrArg some (by kernel_rfl))
  f236 := Tryz.func134.trans (congrArg some (by kernel_rfl))
  f260 := Tryz.func158.trans (congrArg some (by kernel_rfl))
  f266 := Tryz.func170.trans (congrArg some (by kernel_rfl))
  f271 := Tryz.func149.trans (congrArg some (by kernel_rfl))
  t0 := Tryz.underlying0
  a0 := Tryz.isAgg0
  z0 := Tryz.sizeOf0
  v0 := Tryz.zeroValue0
  t3 := Tryz.underlying3
  a3 := Tryz.isAgg3
  z3 := Tryz.sizeOf3
  v3 := Tryz.zeroValue3
  t4 := Tryz.underlying4
  a4 := Tryz.isAgg4
  z4 := Tryz.sizeOf4
  v4 := Tryz.zeroValue4
  t5 := Tryz.underlying5
  a5 := Tryz.isAgg5
  z5 := Tryz.sizeOf5
  v5 := Tryz.zeroValue5
  t9 := Tryz.underlying9
  a9 := Tryz.isAgg9
  z9 := Tryz.sizeOf9
  v9 := Tryz.zeroValue9
  t21 := Tryz.underlying21
  a21 := Tryz.isAgg21
  z21 := Tryz.sizeOf21
  v21 := Tryz.zeroValue21
  t46 := Tryz.underlying100
  a46 := Tryz.isAgg100
  z46 := Tryz.sizeOf100
  v46 := Tryz.zeroValue100
  t105 := Tryz.underlying137
  a105 := Tryz.isAgg137
  z105 := Tryz.sizeOf137
  v105 := Tryz.zeroValue137
  t116 := Tryz.underlying150
  a116 := Tryz.isAgg150
  z116 := Tryz.sizeOf150
  t117 := Tryz.underlying151
  a117 := Tryz.isAgg151
  z117 := Tryz.sizeOf151
  v117 := Tryz.zeroValue151
  t119 := Tryz.underlying96
  a119 := Tryz.isAgg96
  z119 := Tryz.sizeOf96
  t124 := Tryz.underlying154
  a124 := Tryz.isAgg154
  z124 := Tryz.sizeOf154
  v124 := Tryz.zeroValue154
  t138 := Tryz.underlying98
  a138 := Tryz.isAgg98
  z138 := Tryz.sizeOf98
  v138 := Tryz.zeroValue98
  t139 := Tryz.underlying99
  a139 := Tryz.isAgg99
  z139 := Tryz.sizeOf99
  v139 := Tryz.zeroValue99
  g3 := by kernel_rfl
  g4 := by kernel_rfl }
def Tryz.laysM316_ren : Go.Shelf.Ren := ⟨fun | 316 => 72 | n => n, fun | 9 => 9 | 3 => 3 | 4 => 4 | 37 => 52 | 0 => 0 | 127 => 128 | 5 => 5 | n => n, fun | n => n⟩
theorem Tryz.laysM316 : Go.Proofs.LaysM.n316 Tryz.prog Tryz.laysM316_ren := {
  mixed := by kernel_rfl
  f316 := Tryz.func72.trans (congrArg some (by kernel_rfl))
  t0 := Tryz.underlying0
  a0 := Tryz.isAgg0
  z0 := Tryz.sizeOf0
  v0 := Tryz.zeroValue0
  t3 := Tryz.underlying3
  a3 := Tryz.isAgg3
  z3 := Tryz.sizeOf3
  v3 := Tryz.zeroValue3
  t4 := Tryz.underlying4
  a4 := Tryz.isAgg4
  z4 := Tryz.sizeOf4
  v4 := Tryz.zeroValue4
  t9 := Tryz.underlying9
  a9 := Tryz.isAgg9
  z9 := Tryz.sizeOf9
  v9 := Tryz.zeroValue9
  t37 := Tryz.underlying52
  a37 := Tryz.isAgg52
  z37 := Tryz.sizeOf52
  v37 := Tryz.zeroValue52
  t127 := Tryz.underlying128
  a127 := Tryz.isAgg128
  z127 := Tryz.sizeOf128
  v127 := Tryz.zeroValue128
  t5 := Tryz.underlying5
  a5 := Tryz.isAgg5
  z5 := Tryz.sizeOf5
  v5 := Tryz.zeroValue5
  i0 := by kernel_rfl
  i3 := by kernel_rfl
  i4 := by kernel_rfl
  i5 := by kernel_rfl
  i9 := by kernel_rfl
  i37 := by kernel_rfl
  i127 := by kernel_rfl }
end Go.Proofs

/-
 Values in memory of their own; a row's copy by append.
-/
namespace Go.Proofs.YtkejlejhnnjdkaaGreatDoor
open Go.RowKit Go.Shelf
/-- A list of texts in memory, in a block of which S holds. -/
def KeysOn (S : Nat → Prop) (w : World) (ao : Option Addr) (ks : List ByteArray) : Prop := ∀ (i : Nat) (s : ByteArray), ks[i]? = some s → s.size ≤ capT ∧ ∃ b off, ao = some ⟨b, off, none⟩ ∧ S b ∧ b < w.heap.size ∧ w.cell? ⟨b, off + i, none⟩ = some (.string s)
def RowOn (S : Nat → Prop) (w : World) (ao : Option Addr) (n : Nat) (X : Nat → Array Value) : Prop := ∀ i, i < n → (X i).size = 6 ∧ ∃ b off, ao = some ⟨b, off, none⟩ ∧ S b ∧ b < w.heap.size ∧ ∀ j, j < 6 → w.cell? ⟨b, off + i * 6 + j, none⟩ = (X i)[j]?
/-- A value in memory, all its lists in blocks of which S holds. -/
inductive ValOn (S : Nat → Prop) (w : World) : Vt → Value → Prop
 | mk (k : Int) (b : Bool) (r t : ByteArray) (ks : List ByteArray) (vs : List Vt) (ko : Option Addr) (kc : Nat) (vo : Option Addr) (vc : Nat) (X : Nat → Array Value)
   (hw : (Lit.int .i64 k).wf = true) (hz : r.size ≤ capT ∧ t.size ≤ capT ∧ ks.length ≤ capT ∧ vs.length ≤ capT) (hk : KeysOn S w ko ks) (hr : RowOn S w vo vs.length X) (hv : ∀ (i : Nat) (u : Vt), vs[i]? = some u → ValOn S w u (.agg (X i))) :
   ValOn S w (.mk k b r t ks vs) (.agg #[.int .i64 k, .bool b, .string r, .string t, .slice ko ks.length kc, .slice vo vs.length vc])
theorem KeysOn.at {S : Nat → Prop} {w : World} {ao : Option Addr} {ks : List ByteArray} (h : KeysOn S w ao ks) : KeysAt w ao ks := fun i s hi => by
 obtain ⟨h0, b, off, h1, -, h2, h3⟩ := h i s hi
 exact ⟨h0, b, off, h1, h2, h3⟩
theorem RowOn.at {S : Nat → Prop} {w : World} {ao : Option Addr} {n : Nat} {X : Nat → Array Value} (h : RowOn S w ao n X) : RowAt w ao n X := fun i hi => by
 obtain ⟨h0, b, off, h1, -, h2, h3⟩ := h i hi
 exact ⟨h0, b, off, h1, h2, h3⟩
theorem ValOn.at {S : Nat → Prop} {w : World} {t : Vt} {v : Value} (h : ValOn S w t v) : ValAt w t v := by
 induction h with
 | mk k b r t ks vs ko kc vo vc X hw hz hk hr hv ih => exact .mk k b r t ks vs ko kc vo vc X hw hz hk.at hr.at ih
/-- Another world, in which these blocks are as they were. -/
def SameOn (S : Nat → Prop) (w w' : World) : Prop := w.heap.size ≤ w'.heap.size ∧ ∀ b, S b → b < w.heap.size → w'.heap[b]? = w.heap[b]?
theorem cell_same {w w' : World} {b o : Nat} (h : w'.heap[b]? = w.heap[b]?) : w'.cell? ⟨b, o, none⟩ = w.cell? ⟨b, o, none⟩ := World.cell?_of_block (w := w) h
theorem KeysOn.kept {S S' : Nat → Prop} {w w' : World} {ao : Option Addr} {ks : List ByteArray} (h : KeysOn S w ao ks) (hS : ∀ b, b < w.heap.size → S b → S' b) (hb : SameOn S w w') : KeysOn S' w' ao ks := fun i s hi => by
 obtain ⟨h0, b, off, h1, h4, h2, h3⟩ := h i s hi
 exact ⟨h0, b, off, h1, hS b h2 h4, Nat.lt_of_lt_of_le h2 hb.1, (cell_same (hb.2 b h4 h2)).trans h3⟩
theorem RowOn.kept {S S' : Nat → Prop} {w w' : World} {ao : Option Addr} {n : Nat} {X : Nat → Array Value} (h : RowOn S w ao n X) (hS : ∀ b, b < w.heap.size → S b → S' b) (hb : SameOn S w w') : RowOn S' w' ao n X := fun i hi => by
 obtain ⟨h0, b, off, h1, h4, h2, h3⟩ := h i hi
 exact ⟨h0, b, off, h1, hS b h2 h4, Nat.lt_of_lt_of_le h2 hb.1, fun j hj => (cell_same (hb.2 b h4 h2)).trans (h3 j hj)⟩
theorem ValOn.kept {S S' : Nat → Prop} {w w' : World} {t : Vt} {v : Value} (h : ValOn S w t v) (hS : ∀ b, b < w.heap.size → S b → S' b) (hb : SameOn S w w') : ValOn S' w' t v := by
 induction h with
 | mk k b r t ks vs ko kc vo vc X hw hz hk hr hv ih => exact .mk k b r t ks vs ko kc vo vc X hw hz (hk.kept hS hb) (hr.kept hS hb) ih
theorem SameOn.below {S : Nat → Prop} {w w' : World} (hb : Below w.heap.size w w') : SameOn S w w' := ⟨hb.size, fun b _ h => hb.block b h⟩
theorem ValOn.keptB {S : Nat → Prop} {w w' : World} {t : Vt} {v : Value} (h : ValOn S w t v) (hb : Below w.heap.size w w') : ValOn S w' t v := h.kept (fun _ _ h => h) (SameOn.below hb)
theorem ValOn.mono {S S' : Nat → Prop} {w : World} {t : Vt} {v : Value} (h : ValOn S w t v) (hS : ∀ b, b < w.heap.size → S b → S' b) : ValOn S' w t v := h.kept hS ⟨Nat.le_refl _, fun _ _ _ => rfl⟩
theorem ValOn.six {S : Nat → Prop} {w : World} {u : Vt} {v : Value} (h : ValOn S w u v) : ∃ ko kc vo vc, v = .agg #[.int .i64 u.kind, .bool u.b, .string u.raw, .string u.text, .slice ko u.keys.length kc, .slice vo u.kids.length vc] := by
 cases h with
 | mk k b r t ks vs ko kc vo vc X hw hz hk hr hv => exact ⟨ko, kc, vo, vc, rfl⟩
theorem cloneT_calls (s : ByteArray) (hs : s.size ≤ 281474976710656) (w : World) :
  Calls Tryz.prog 51 #[.string s] w fun e w' => e = .returned (.string s) ∧ Below w.heap.size w w' := by
 have hc := hid (show Calls Tryz.prog 72 #[.string s] w fun e w' => e = .returned (.string s) ∧ Below w.heap.size w w' from Any.stringslite_Clone Tryz.laysM316 s w hs)
 go_enter Tryz.func51, Tryz.ntmps51
 go_wp2_with fail
 refine Calls.mono hc.out ?_
 rintro e w1 ⟨rfl, hb⟩
 clear hc
 go_wp2
 go_ret
 exact ⟨rfl, hb⟩
end Go.Proofs.YtkejlejhnnjdkaaGreatDoor

/-
 quarryref17.Member: the first member of a name.
-/
namespace Go.Proofs.YtkejlejhnnjdkaaGreatDoor
open Go.RowKit Go.Shelf
def vt0 : Vt := .mk 0 false ⟨#[]⟩ ⟨#[]⟩ [] []
theorem At.six {w : World} {b : Nat} {x0 x1 x2 x3 x4 x5 y0 y1 y2 y3 y4 y5 : Value} (h : At w b #[x0, x1, x2, x3, x4, x5] 25) :
  At ((((((w.setCell ⟨b, 0, none⟩ y0).setCell ⟨b, 1, none⟩ y1).setCell ⟨b, 2, none⟩ y2).setCell ⟨b, 3, none⟩ y3).setCell ⟨b, 4, none⟩ y4).setCell ⟨b, 5, none⟩ y5) b #[y0, y1, y2, y3, y4, y5] 25 := by
 have := (((((h.set 0 y0).set 1 y1).set 2 y2).set 3 y3).set 4 y4).set 5 y5
 simpa using this
theorem below_six {w w' : World} {n b : Nat} (h : Below n w w') (hb : n ≤ b) (y0 y1 y2 y3 y4 y5 : Value) : Below n w ((((((w'.setCell ⟨b, 0, none⟩ y0).setCell ⟨b, 1, none⟩ y1).setCell ⟨b, 2, none⟩ y2).setCell ⟨b, 3, none⟩ y3).setCell ⟨b, 4, none⟩ y4).setCell ⟨b, 5, none⟩ y5) :=
 (((((h.setCell hb _).setCell hb _).setCell hb _).setCell hb _).setCell hb _).setCell hb _
end Go.Proofs.YtkejlejhnnjdkaaGreatDoor
