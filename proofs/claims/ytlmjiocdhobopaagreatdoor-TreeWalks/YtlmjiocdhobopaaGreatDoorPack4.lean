/-
  Texts of mine that others lean on, one behind the other.
-/
import Derived.Test.YtlmjiocdhobopaaGreatDoorPack1
import Derived.Shelf.Strings.Trim
import Derived.Shelf.LaysM
import Derived.Shelf.Strconv.Clone
import Derived.Test.YtlmjiocdhobopaaGreatDoorProg
import Derived.KernelRfl
import Derived.Deep.Upon
import Derived.Laws.OwnMore
import Derived.Deep.DeepAppendRoom
import Derived.Deep.Onto
import Derived.Deep.DeepCutAuto
/-
 tree.Depth and tree.Count.
-/
namespace Go.Proofs.YtlmjiocdhobopaaGreatDoor
open Go.RowKit Go.Shelf
theorem ValAt.six {w : World} {u : Vt} {L : List Value} (h : ValAt w u (.agg L.toArray)) : ∃ k b r t ko N kc vo M vc, L = [.int .i64 k, .bool b, .string r, .string t, .slice ko N kc, .slice vo M vc] := by
 obtain ⟨ko, kc, vo, vc, h⟩ := h.cells
 exact ⟨_, _, _, _, _, _, _, _, _, _, by simpa using congrArg Array.toList h⟩
end Go.Proofs.YtlmjiocdhobopaaGreatDoor

/-
 quarryref17.First: the place of the first member of a name.
-/
namespace Go.Proofs.YtlmjiocdhobopaaGreatDoor
open Go.RowKit Go.Shelf
/-- The first place of a name among names; -1: there is none. -/
def IsFst (ks : List ByteArray) (nm : ByteArray) (f : Int) : Prop := (f = -1 ∧ ∀ j : Nat, ks[j]? ≠ some nm) ∨ ∃ i : Nat, f = (i : Int) ∧ ks[i]? = some nm ∧ ∀ j, j < i → ks[j]? ≠ some nm
end Go.Proofs.YtlmjiocdhobopaaGreatDoor

/-
  The library's contracts of strings.TrimLeft, strings.TrimRight (one byte) and stringslite.Clone are laid at this program.
-/
namespace Go.Proofs
open Go.Shelf
def Tryz.lays161_ren : Go.Shelf.Ren := ⟨fun | 161 => 61 | 231 => 80 | 227 => 81 | 233 => 82 | 235 => 83 | 228 => 100 | 197 => 51 | 151 => 101 | 260 => 70 | 152 => 105 | 137 => 107 | 119 => 108 | 224 => 91 | 225 => 90 | 217 => 89 | 266 => 103 | n => n, fun | 9 => 9 | 4 => 4 | 3 => 3 | 5 => 5 | 117 => 122 | 116 => 121 | 0 => 0 | 124 => 125 | 105 => 85 | 21 => 21 | 119 => 60 | 46 => 64 | 139 => 63 | 138 => 62 | n => n, fun | 3 => 0 | 4 => 1 | n => n⟩
theorem Tryz.lays161 : Go.Proofs.Lays.n161 Tryz.prog Tryz.lays161_ren := {
  mixed := by kernel_rfl
  f119 := Tryz.func108.trans (congrArg some (by kernel_rfl))
  f137 := Tryz.func107.trans (congrArg some (by kernel_rfl))
  f151 := Tryz.func101.trans (congrArg some (by kernel_rfl))
  f152 := Tryz.func105.trans (congrArg some (by kernel_rfl))
  f161 := Tryz.func61.trans (congrArg some (by kernel_rfl))
  f197 := Tryz.func51.trans (congrArg some (by kernel_rfl))
  f217 := Tryz.func89.trans (congrArg some (by kernel_rfl))
  f224 := Tryz.func91.trans (congrArg some (by kernel_rfl))
  f225 := Tryz.func90.trans (congrArg some (by kernel_rfl))
  f227 := Tryz.func81.trans (congrArg some (by kernel_rfl))
  f228 := Tryz.func100.trans (congrArg some (by kernel_rfl))
  f231 := Tryz.func80.trans (congrArg some (by kernel_rfl))
  f233 := Tryz.func82.trans (congrArg some (by kernel_rfl))
  f235 := Tryz.func83.trans (congrArg some (by kernel_rfl))
  f260 := Tryz.func70.trans (congrArg some (by kernel_rfl))
  f266 := Tryz.func103.trans (congrArg some (by kernel_rfl))
  t0 := Tryz.underlying0
  a0 := Tryz.isAgg0
  z0 := Tryz.sizeOf0
  v0 := Tryz.zeroValue0
  t3 := Tryz.underlying3
  a3 := Tryz.isAgg3
  z3 := Tryz.sizeOf3
  v3 := Tryz.zeroValue3
  t4 := Tryz.underlying4
  a4 := Tryz.isAgg4
  z4 := Tryz.sizeOf4
  v4 := Tryz.zeroValue4
  t5 := Tryz.underlying5
  a5 := Tryz.isAgg5
  z5 := Tryz.sizeOf5
  v5 := Tryz.zeroValue5
  t9 := Tryz.underlying9
  a9 := Tryz.isAgg9
  z9 := Tryz.sizeOf9
  v9 := Tryz.zeroValue9
  t21 := Tryz.underlying21
  a21 := Tryz.isAgg21
  z21 := Tryz.sizeOf21
  v21 := Tryz.zeroValue21
  t46 := Tryz.underlying64
  a46 := Tryz.isAgg64
  z46 := Tryz.sizeOf64
  v46 := Tryz.zeroValue64
  t105 := Tryz.underlying85
  a105 := Tryz.isAgg85
  z105 := Tryz.sizeOf85
  v105 := Tryz.zeroValue85
  t116 := Tryz.underlying121
  a116 := Tryz.isAgg121
  z116 := Tryz.sizeOf121
  t117 := Tryz.underlying122
  a117 := Tryz.isAgg122
  z117 := Tryz.sizeOf122
  v117 := Tryz.zeroValue122
  t119 := Tryz.underlying60
  a119 := Tryz.isAgg60
  z119 := Tryz.sizeOf60
  t124 := Tryz.underlying125
  a124 := Tryz.isAgg125
  z124 := Tryz.sizeOf125
  v124 := Tryz.zeroValue125
  t138 := Tryz.underlying62
  a138 := Tryz.isAgg62
  z138 := Tryz.sizeOf62
  v138 := Tryz.zeroValue62
  t139 := Tryz.underlying63
  a139 := Tryz.isAgg63
  z139 := Tryz.sizeOf63
  v139 := Tryz.zeroValue63
  g3 := by kernel_rfl
  g4 := by kernel_rfl }
def Tryz.lays162_ren : Go.Shelf.Ren := ⟨fun | 162 => 62 | 232 => 84 | 227 => 81 | 234 => 85 | 236 => 86 | 228 => 100 | 271 => 102 | 151 => 101 | 120 => 106 | 197 => 51 | 152 => 105 | 260 => 70 | 137 => 107 | 119 => 108 | 224 => 91 | 225 => 90 | 217 => 89 | 266 => 103 | n => n, fun | 9 => 9 | 4 => 4 | 3 => 3 | 5 => 5 | 117 => 122 | 116 => 121 | 0 => 0 | 124 => 125 | 21 => 21 | 105 => 85 | 46 => 64 | 119 => 60 | 139 => 63 | 138 => 62 | n => n, fun | 3 => 0 | 4 => 1 | n => n⟩
theorem Tryz.lays162 : Go.Proofs.Lays.n162 Tryz.prog Tryz.lays162_ren := {
  mixed := by kernel_rfl
  f119 := Tryz.func108.trans (congrArg some (by kernel_rfl))
  f120 := Tryz.func106.trans (congrArg some (by kernel_rfl))
  f137 := Tryz.func107.trans (congrArg some (by kernel_rfl))
  f151 := Tryz.func101.trans (congrArg some (by kernel_rfl))
  f152 := Tryz.func105.trans (congrArg some (by kernel_rfl))
  f162 := Tryz.func62.trans (congrArg some (by kernel_rfl))
  f197 := Tryz.func51.trans (congrArg some (by kernel_rfl))
  f217 := Tryz.func89.trans (congrArg some (by kernel_rfl))
  f224 := Tryz.func91.trans (congrArg some (by kernel_rfl))
  f225 := Tryz.func90.trans (congrArg some (by kernel_rfl))
  f227 := Tryz.func81.trans (congrArg some (by kernel_rfl))
  f228 := Tryz.func100.trans (congrArg some (by kernel_rfl))
  f232 := Tryz.func84.trans (congrArg some (by kernel_rfl))
  f234 := Tryz.func85.trans (congrArg some (by kernel_rfl))
  f236 := Tryz.func86.trans (congrArg some (by kernel_rfl))
  f260 := Tryz.func70.trans (congrArg some (by kernel_rfl))
  f266 := Tryz.func103.trans (congrArg some (by kernel_rfl))
  f271 := Tryz.func102.trans (congrArg some (by kernel_rfl))
  t0 := Tryz.underlying0
  a0 := Tryz.isAgg0
  z0 := Tryz.sizeOf0
  v0 := Tryz.zeroValue0
  t3 := Tryz.underlying3
  a3 := Tryz.isAgg3
  z3 := Tryz.sizeOf3
  v3 := Tryz.zeroValue3
  t4 := Tryz.underlying4
  a4 := Tryz.isAgg4
  z4 := Tryz.sizeOf4
  v4 := Tryz.zeroValue4
  t5 := Tryz.underlying5
  a5 := Tryz.isAgg5
  z5 := Tryz.sizeOf5
  v5 := Tryz.zeroValue5
  t9 := Tryz.underlying9
  a9 := Tryz.isAgg9
  z9 := Tryz.sizeOf9
  v9 := Tryz.zeroValue9
  t21 := Tryz.underlying21
  a21 := Tryz.isAgg21
  z21 := Tryz.sizeOf21
  v21 := Tryz.zeroValue21
  t46 := Tryz.underlying64
  a46 := Tryz.isAgg64
  z46 := Tryz.sizeOf64
  v46 := Tryz.zeroValue64
  t105 := Tryz.underlying85
  a105 := Tryz.isAgg85
  z105 := Tryz.sizeOf85
  v105 := Tryz.zeroValue85
  t116 := Tryz.underlying121
  a116 := Tryz.isAgg121
  z116 := Tryz.sizeOf121
  t117 := Tryz.underlying122
  a117 := Tryz.isAgg122
  z117 := Tryz.sizeOf122
  v117 := Tryz.zeroValue122
  t119 := Tryz.underlying60
  a119 := Tryz.isAgg60
  z119 := Tryz.sizeOf60
  t124 := Tryz.underlying125
  a124 := Tryz.isAgg125
  z124 := Tryz.sizeOf125
  v124 := Tryz.zeroValue125
  t138 := Tryz.underlying62
  a138 := Tryz.isAgg62
  z138 := Tryz.sizeOf62
  v138 := Tryz.zeroValue62
  t139 := Tryz.underlying63
  a139 := Tryz.isAgg63
  z139 := Tryz.sizeOf63
  v139 := Tryz.zeroValue63
  g3 := by kernel_rfl
  g4 := by kernel_rfl }
def Tryz.laysM316_ren : Go.Shelf.Ren := ⟨fun | 316 => 35 | n => n, fun | 9 => 9 | 3 => 3 | 4 => 4 | 37 => 65 | 0 => 0 | 127 => 66 | 5 => 5 | n => n, fun | n => n⟩
theorem Tryz.laysM316 : Go.Proofs.LaysM.n316 Tryz.prog Tryz.laysM316_ren := {
  mixed := by kernel_rfl
  f316 := Tryz.func35.trans (congrArg some (by kernel_rfl))
  t0 := Tryz.underlying0
  a0 := Tryz.isAgg0
  z0 := Tryz.sizeOf0
  v0 := Tryz.zeroValue0
  t3 := Tryz.underlying3
  a3 := Tryz.isAgg3
  z3 := Tryz.sizeOf3
  v3 := Tryz.zeroValue3
  t4 := Tryz.underlying4
  a4 := Tryz.isAgg4
  z4 := Tryz.sizeOf4
  v4 := Tryz.zeroValue4
  t9 := Tryz.underlying9
  a9 := Tryz.isAgg9
  z9 := Tryz.sizeOf9
  v9 := Tryz.zeroValue9
  t37 := Tryz.underlying65
  a37 := Tryz.isAgg65
  z37 := Tryz.sizeOf65
  v37 := Tryz.zeroValue65
  t127 := Tryz.underlying66
  a127 := Tryz.isAgg66
  z127 := Tryz.sizeOf66
  v127 := Tryz.zeroValue66
  t5 := Tryz.underlying5
  a5 := Tryz.isAgg5
  z5 := Tryz.sizeOf5
  v5 := Tryz.zeroValue5
  i0 := by kernel_rfl
  i3 := by kernel_rfl
  i4 := by kernel_rfl
  i5 := by kernel_rfl
  i9 := by kernel_rfl
  i37 := by kernel_rfl
  i127 := by kernel_rfl }
end Go.Proofs

/-
 Values in memory of their own; a row's copy by append.
-/
namespace Go.Proofs.YtlmjiocdhobopaaGreatDoor
open Go.RowKit Go.Shelf
/-- A list of texts in memory, in a block of which S holds. -/
def KeysOn (S : Nat → Prop) (w : World) (ao : Option Addr) (ks : List ByteArray) : Prop := ∀ (i : Nat) (s : ByteArray), ks[i]? = some s → s.size ≤ capT ∧ ∃ b off, ao = some ⟨b, off, none⟩ ∧ S b ∧ b < w.heap.size ∧ w.cell? ⟨b, off + i, none⟩ = some (.string s)
def RowOn (S : Nat → Prop) (w : World) (ao : Option Addr) (n : Nat) (X : Nat → Array Value) : Prop := ∀ i, i < n → (X i).size = 6 ∧ ∃ b off, ao = some ⟨b, off, none⟩ ∧ S b ∧ b < w.heap.size ∧ ∀ j, j < 6 → w.cell? ⟨b, off + i * 6 + j, none⟩ = (X i)[j]?
/-- A value in memory, all its lists in blocks of which S holds. -/
inductive ValOn (S : Nat → Prop) (w : World) : Vt → Value → Prop
 | mk (k : Int) (b : Bool) (r t : ByteArray) (ks : List ByteArray) (vs : List Vt) (ko : Option Addr) (kc : Nat) (vo : Option Addr) (vc : Nat) (X : Nat → Array Value)
   (hw : (Lit.int .i64 k).wf = true) (hz : r.size ≤ capT ∧ t.size ≤ capT ∧ ks.length ≤ capT ∧ vs.length ≤ capT) (hk : KeysOn S w ko ks) (hr : RowOn S w vo vs.length X) (hv : ∀ (i : Nat) (u : Vt), vs[i]? = some u → ValOn S w u (.agg (X i))) :
   ValOn S w (.mk k b r t ks vs) (.agg #[.int .i64 k, .bool b, .string r, .string t, .slice ko ks.length kc, .slice vo vs.length vc])
theorem KeysOn.at {S : Nat → Prop} {w : World} {ao : Option Addr} {ks : List ByteArray} (h : KeysOn S w ao ks) : KeysAt w ao ks := fun i s hi => by
 obtain ⟨h0, b, off, h1, -, h2, h3⟩ := h i s hi
 exact ⟨h0, b, off, h1, h2, h3⟩
theorem RowOn.at {S : Nat → Prop} {w : World} {ao : Option Addr} {n : Nat} {X : Nat → Array Value} (h : RowOn S w ao n X) : RowAt w ao n X := fun i hi => by
 obtain ⟨h0, b, off, h1, -, h2, h3⟩ := h i hi
 exact ⟨h0, b, off, h1, h2, h3⟩
theorem ValOn.at {S : Nat → Prop} {w : World} {t : Vt} {v : Value} (h : ValOn S w t v) : ValAt w t v := by
 induction h with
 | mk k b r t ks vs ko kc vo vc X hw hz hk hr hv ih => exact .mk k b r t ks vs ko kc vo vc X hw hz hk.at hr.at ih
/-- Another world, in which these blocks are as they were. -/
def SameOn (S : Nat → Prop) (w w' : World) : Prop := w.heap.size ≤ w'.heap.size ∧ ∀ b, S b → b < w.heap.size → w'.heap[b]? = w.heap[b]?
theorem cell_same {w w' : World} {b o : Nat} (h : w'.heap[b]? = w.heap[b]?) : w'.cell? ⟨b, o, none⟩ = w.cell? ⟨b, o, none⟩ := World.cell?_of_block (w := w) h
theorem KeysOn.kept {S S' : Nat → Prop} {w w' : World} {ao : Option Addr} {ks : List ByteArray} (h : KeysOn S w ao ks) (hS : ∀ b, b < w.heap.size → S b → S' b) (hb : SameOn S w w') : KeysOn S' w' ao ks := fun i s hi => by
 obtain ⟨h0, b, off, h1, h4, h2, h3⟩ := h i s hi
 exact ⟨h0, b, off, h1, hS b h2 h4, Nat.lt_of_lt_of_le h2 hb.1, (cell_same (hb.2 b h4 h2)).trans h3⟩
theorem RowOn.kept {S S' : Nat → Prop} {w w' : World} {ao : Option Addr} {n : Nat} {X : Nat → Array Value} (h : RowOn S w ao n X) (hS : ∀ b, b < w.heap.size → S b → S' b) (hb : SameOn S w w') : RowOn S' w' ao n X := fun i hi => by
 obtain ⟨h0, b, off, h1, h4, h2, h3⟩ := h i hi
 exact ⟨h0, b, off, h1, hS b h2 h4, Nat.lt_of_lt_of_le h2 hb.1, fun j hj => (cell_same (hb.2 b h4 h2)).trans (h3 j hj)⟩
theorem ValOn.kept {S S' : Nat → Prop} {w w' : World} {t : Vt} {v : Value} (h : ValOn S w t v) (hS : ∀ b, b < w.heap.size → S b → S' b) (hb : SameOn S w w') : ValOn S' w' t v := by
 induction h with
 | mk k b r t ks vs ko kc vo vc X hw hz hk hr hv ih => exact .mk k b r t ks vs ko kc vo vc X hw hz (hk.kept hS hb) (hr.kept hS hb) ih
theorem SameOn.below {S : Nat → Prop} {w w' : World} (hb : Below w.heap.size w w') : SameOn S w w' := ⟨hb.size, fun b _ h => hb.block b h⟩
theorem ValOn.keptB {S : Nat → Prop} {w w' : World} {t : Vt} {v : Value} (h : ValOn S w t v) (hb : Below w.heap.size w w') : ValOn S w' t v := h.kept (fun _ _ h => h) (SameOn.below hb)
theorem ValOn.mono {S S' : Nat → Prop} {w : World} {t : Vt} {v : Value} (h : ValOn S w t v) (hS : ∀ b, b < w.heap.size → S b → S' b) : ValOn S' w t v := h.kept hS ⟨Nat.le_refl _, fun _ _ _ => rfl⟩
theorem ValOn.six {S : Nat → Prop} {w : World} {u : Vt} {v : Value} (h : ValOn S w u v) : ∃ ko kc vo vc, v = .agg #[.int .i64 u.kind, .bool u.b, .string u.raw, .string u.text, .slice ko u.keys.length kc, .slice vo u.kids.length vc] := by
 cases h with
 | mk k b r t ks vs ko kc vo vc X hw hz hk hr hv => exact ⟨ko, kc, vo, vc, rfl⟩
mutual
/-- Its lists are no longer than that. -/
def lnV : Vt → Prop
 | .mk _ _ _ _ ks vs => ks.length ≤ 1099511627776 ∧ vs.length ≤ 1099511627776 ∧ lnL vs
def lnL : List Vt → Prop
 | [] => True
 | v :: vs => lnV v ∧ lnL vs
end
theorem lnL_get : ∀ {vs : List Vt} {i : Nat} {u : Vt}, lnL vs → vs[i]? = some u → lnV u
 | [], i, u, _, h => by simp at h
 | v :: vs, i, u, hs, h => by
  unfold lnL at hs
  cases i with
  | zero => simp at h; subst h; exact hs.1
  | succ i => exact lnL_get hs.2 (by simpa using h)
theorem cloneT_calls (s : ByteArray) (hs : s.size ≤ 281474976710656) (w : World) :
  Calls Tryz.prog 23 #[.string s] w fun e w' => e = .returned (.string s) ∧ Below w.heap.size w w' := by
 have hc := hid (show Calls Tryz.prog 35 #[.string s] w fun e w' => e = .returned (.string s) ∧ Below w.heap.size w w' from Any.stringslite_Clone Tryz.laysM316 s w hs)
 go_enter Tryz.func23, Tryz.ntmps23
 go_wp2_with fail
 refine Calls.mono hc.out ?_
 rintro e w1 ⟨rfl, hb⟩
 clear hc
 go_wp2
 go_ret
 exact ⟨rfl, hb⟩
/-- append to nothing, of some: a new row. -/
theorem append_fresh {t e : TypeId} {i : TypeInfo} {z : Value} (ht : Tryz.prog.underlying t = some (.slice e)) (hi : Tryz.prog.info? e = some i) (hz : i.zero = some z) {x : Value} {n : Nat} {news : List Value} (w : World) (hs : Src Tryz.prog i.size t x n news w) (h0 : 0 < n) (hn : n * i.bytes ≤ 281474976710656) (hn2 : n ≤ 1099511627776) :
  ∃ (cap : Nat) (cs : Array Value), (∀ ty, (Builtin.append_ #[t, t] ty #[.slice none 0 0, x]).run Tryz.prog w = .ok (.slice (some ⟨w.heap.size, 0, none⟩) n cap) (w.drew.alloc (.cells cs e))) ∧ ∀ j, j < news.length → cs[j]? = news[j]? := by
 have h := fun ty => run_append_grow_src (P := Tryz.prog) w t t ty e i z ht hi hz none 0 0 [] (run_firstCells_none w.drew i.size 0 0 0) x n news hs (by omega) (by omega) (by rw [Nat.zero_add, nextslicecap_zero h0]; exact hn)
 simp only [Nat.zero_add] at h
 refine ⟨_, _, h, fun j hj => ?_⟩
 simp only [List.nil_append]
 rw [Array.getElem?_append_left (by simpa using hj)]
 simp
theorem append_none {t e : TypeId} {i : TypeInfo} (ht : Tryz.prog.underlying t = some (.slice e)) (hi : Tryz.prog.info? e = some i) {x : Value} (w : World) (hs : Src Tryz.prog i.size t x 0 [] w) (ty : TypeId) :
  (Builtin.append_ #[t, t] ty #[.slice none 0 0, x]).run Tryz.prog w = .ok (.slice none 0 0) w :=
 run_append_nothing w t t ty e i ht hi none 0 0 (Nat.le_refl _) x hs
end Go.Proofs.YtlmjiocdhobopaaGreatDoor

/-
 Lists that grow by append: values, names; those of an object beside one another.
-/
namespace Go.Proofs.YtlmjiocdhobopaaGreatDoor
open Go.RowKit Go.Shelf
theorem appendV {P : Program} {w : World} {base n z bytes : Nat} {t ty e : TypeId} {i : TypeInfo} {z0 v : Value} {xs : List Value} (ht : P.underlying t = some (.slice e)) (hi : P.info? e = some i) (hz : i.zero = some z0) (hsize : i.size = z) (hby : i.bytes = bytes) (hzs : z0.cells.size = z) (hsz : 0 < z)
  (hown : w.ownsRow base e z v n xs) (a : Addr) (m c : Nat) (news : List Value) (hl : news.length = m * z) (hnews : ∀ j u, news[j]? = some u → w.cell? (a.add j) = some u) (h1 : ∀ u ∈ news, u.oneCell' = true) (h63 : n + m ≤ maxLen) (hbytes : (n + m) * bytes ≤ 140737488355328) (hbase : base ≤ w.heap.size) :
  ∃ v' w', (Builtin.append_ #[t, t] ty #[v, .slice (some a) m c]).run P w = .ok v' w' ∧ w'.ownsRow base e z v' (n + m) (xs ++ news) ∧
   ((∃ g cap, v = .slice (some ⟨g, 0, none⟩) n cap ∧ v' = .slice (some ⟨g, 0, none⟩) (n + m) cap ∧ w.grownBy w' (some g)) ∨ ((∀ g, v'.ownBlock = some g → w.heap.size ≤ g) ∧ w.grownBy w' none)) := by
 rcases hown.2 with ⟨rfl, rfl⟩ | ⟨g, cap, cur, rfl, hb, hg, hnc, hcm, hcs, htk⟩
 ·have hx : xs = [] := List.length_eq_zero_iff.1 (by rw [hown.1, Nat.zero_mul])
  subst hx
  obtain ⟨v', w', hr, s1, s2, -⟩ := run_append_own (P := P) w w.heap.size t ty e i z0 z bytes ht hi hz hsize hby hzs hsz (.slice none 0 0) 0 [] (World.ownsRow_nil w _ _ _) a m c news hl hnews h1 h63 hbytes (Nat.le_refl _)
  exact ⟨v', w', hr, s1.mono hbase, .inr ⟨fun g hg => (s1.lt g hg).1, s2⟩⟩
 ·by_cases hgr : cap < n + m
  ·obtain ⟨v', w', hr, s1, s2⟩ := run_append_arg_grows (P := P) w t ty e i z0 z bytes ht hi hz hsize hby hzs hsz ⟨g, 0, none⟩ n cap xs hown.1 (hown.cells (g := g) rfl) a m c news hl hnews hgr h63 hbytes
   exact ⟨v', w', hr, s1.mono hbase, .inr ⟨fun g hg => (s1.lt g hg).1, s2⟩⟩
  ·obtain ⟨w', hr, s1, s2⟩ := run_append_own_spare (P := P) w base t ty e i z ht hi hsize g n cap xs hown a m c news hl hnews h1 (by omega)
   exact ⟨_, w', hr, s1, .inl ⟨g, cap, rfl, rfl, s2⟩⟩
theorem infoVT : (Tryz.prog.info? 25).map (fun i => (i.zero, i.size, i.bytes)) = some (some (.agg #[.int .i64 0, .bool false, .string ⟨#[]⟩, .string ⟨#[]⟩, .slice none 0 0, .slice none 0 0]), 6, 96) := by kernel_rfl
theorem infoST : (Tryz.prog.info? 9).map (fun i => (i.zero, i.size, i.bytes)) = some (some (.string ⟨#[]⟩), 1, 16) := by kernel_rfl
theorem info_partsV {t : TypeId} {z : Value} {n m : Nat} (h : (Tryz.prog.info? t).map (fun i => (i.zero, i.size, i.bytes)) = some (some z, n, m)) : ∃ i, Tryz.prog.info? t = some i ∧ i.zero = some z ∧ i.size = n ∧ i.bytes = m := by
 cases hi : Tryz.prog.info? t with
 | none => rw [hi] at h; cases h
 | some i => rw [hi] at h; simp at h; exact ⟨i, rfl, h.1, h.2.1, h.2.2⟩
/-- The cells of values one behind the other. -/
def flatC (X : Nat → Array Value) : Nat → List Value
 | 0 => []
 | n + 1 => flatC X n ++ (X n).toList
theorem flatC_len {X : Nat → Array Value} : ∀ {n : Nat}, (∀ i, i < n → (X i).size = 6) → (flatC X n).length = n * 6
 | 0, _ => rfl
 | n + 1, h => by
  rw [flatC, List.length_append, flatC_len (fun i hi => h i (by omega))]
  have := h n (by omega)
  simp only [Array.length_toList, this]
  omega
theorem flatC_get {X : Nat → Array Value} : ∀ {n i j : Nat}, (∀ i, i < n → (X i).size = 6) → i < n → j < 6 → (flatC X n)[i * 6 + j]? = (X i)[j]?
 | 0, i, j, _, h, _ => by omega
 | n + 1, i, j, h, hi, hj => by
  have hl := flatC_len (X := X) (n := n) (fun i hi => h i (by omega))
  rw [flatC]
  by_cases e : i = n
  ·subst e
   rw [List.getElem?_append_right (by omega), hl, show i * 6 + j - i * 6 = j by omega]
   simp
  ·rw [List.getElem?_append_left (by omega)]
   exact flatC_get (fun i hi => h i (by omega)) (by omega) hj
theorem flatC_congr {X Y : Nat → Array Value} : ∀ {n : Nat}, (∀ i, i < n → X i = Y i) → flatC X n = flatC Y n
 | 0, _ => rfl
 | n + 1, h => by rw [flatC, flatC, flatC_congr (fun i hi => h i (by omega)), h n (by omega)]
/-- A list of values that grows: its row is owned, its values lie apart from it and from the block k. -/
def KidsG (B : Nat) (k : Option Nat) (w : World) (v : Value) (vs : List Vt) : Prop :=
 ∃ X : Nat → Array Value, w.ownsRow B 25 6 v vs.length (flatC X vs.length) ∧ (∀ i, i < vs.length → (X i).size = 6) ∧ ∀ (i : Nat) (u : Vt), vs[i]? = some u → ValOn (fun c => B ≤ c ∧ v.ownBlock ≠ some c ∧ k ≠ some c) w u (.agg (X i))
/-- A list of names that grows. -/
def KeysG (B : Nat) (w : World) (v : Value) (ks : List ByteArray) : Prop :=
 w.ownsRow B 9 1 v ks.length (ks.map Value.string) ∧ ∀ (i : Nat) (s : ByteArray), ks[i]? = some s → s.size ≤ capT
section
variable {B : Nat} {k : Option Nat} {W W' : World} {v v' : Value} {vs : List Vt} {ks : List ByteArray}
theorem own_on {e : TypeId} {z n : Nat} {xs : List Value} (h : W.ownsRow B e z v n xs) (hs : ∀ g, v.ownBlock = some g → B ≤ g → g < W.heap.size → W'.heap[g]? = W.heap[g]?) : W'.ownsRow B e z v n xs := by
 have hlt := h.lt
 refine ⟨h.1, ?_⟩
 rcases h.2 with h2 | ⟨g, cap, cur, rfl, hb, hg, h3⟩
 ·exact .inl h2
 ·exact .inr ⟨g, cap, cur, rfl, hb, (hs g rfl hb (hlt g rfl).2).trans hg, h3⟩
theorem KidsG.nil (B : Nat) (k : Option Nat) (W : World) : KidsG B k W (.slice none 0 0) [] := ⟨fun _ => #[], by simpa [flatC] using World.ownsRow_nil W B 25 6, fun i h => by simp at h, fun i u h => by simp at h⟩
theorem KeysG.nil (B : Nat) (W : World) : KeysG B W (.slice none 0 0) [] := ⟨by simpa using World.ownsRow_nil W B 9 1, fun i s h => by simp at h⟩
theorem KidsG.kept (h : KidsG B k W v vs) (hs : SameOn (fun c => B ≤ c) W W') : KidsG B k W' v vs := by
 obtain ⟨X, h1, h2, h3⟩ := h
 exact ⟨X, own_on h1 (fun g _ hg hl => hs.2 g hg hl), h2, fun i u hi => (h3 i u hi).kept (fun _ _ h => h) ⟨hs.1, fun c hc hl => hs.2 c hc.1 hl⟩⟩
theorem KeysG.kept (h : KeysG B W v ks) (hs : SameOn (fun c => B ≤ c) W W') : KeysG B W' v ks := ⟨own_on h.1 (fun g _ hg hl => hs.2 g hg hl), h.2⟩
theorem KidsG.blk (h : KidsG B k W v vs) {g : Nat} (hg : v.ownBlock = some g) : B ≤ g ∧ g < W.heap.size := by
 obtain ⟨X, h1, -⟩ := h
 exact h1.lt g hg
theorem KeysG.blk (h : KeysG B W v ks) {g : Nat} (hg : v.ownBlock = some g) : B ≤ g ∧ g < W.heap.size := h.1.lt g hg
theorem own_ne {e t : TypeId} {z n b : Nat} {xs : List Value} {cs : Array Value} (h : W.ownsRow B e z v n xs) (ha : At W b cs t) (hne : t ≠ e) : v.ownBlock ≠ some b := by
 rcases h.2 with ⟨rfl, -⟩ | ⟨g, cap, cur, rfl, -, hg, -⟩
 ·intro h; cases h
 ·intro h
  obtain rfl : g = b := by simpa [Value.ownBlock] using h
  have h4 : W.heap[g]? = some (.cells cs t) := ha
  rw [h4] at hg
  simp at hg
  exact hne hg.2
theorem own_shape {e : TypeId} {z n : Nat} {xs : List Value} (h : W.ownsRow B e z v n xs) : ∃ so cap, v = .slice so n cap := by
 rcases h.2 with ⟨rfl, rfl⟩ | ⟨g, cap, cur, rfl, -⟩
 ·exact ⟨_, _, rfl⟩
 ·exact ⟨_, _, rfl⟩
theorem KidsG.shape (h : KidsG B k W v vs) : ∃ so cap, v = .slice so vs.length cap := by
 obtain ⟨X, h1, -⟩ := h
 exact own_shape h1
theorem KeysG.shape (h : KeysG B W v ks) : ∃ so cap, v = .slice so ks.length cap := own_shape h.1
/-- What is left at the end: a row of values. -/
theorem KidsG.row {vo : Option Addr} {n vc : Nat} (h : KidsG B k W (.slice vo n vc) vs) : ∃ X : Nat → Array Value, n = vs.length ∧ RowOn (fun c => B ≤ c) W vo vs.length X ∧ ∀ (i : Nat) (u : Vt), vs[i]? = some u → ValOn (fun c => B ≤ c) W u (.agg (X i)) := by
 obtain ⟨X, h1, h2, h3⟩ := h
 obtain ⟨so, cap, e⟩ := own_shape h1
 cases e
 refine ⟨X, rfl, fun i hi => ⟨h2 i hi, ?_⟩, fun i u hi => (h3 i u hi).mono (fun _ _ h => h.1)⟩
 rcases h1.2 with ⟨e, h0⟩ | ⟨g, cap, cur, e, hb, hg, -⟩
 ·omega
 ·cases e
  refine ⟨g, 0, rfl, hb, (h1.lt g rfl).2, fun j hj => ?_⟩
  rw [show 0 + i * 6 + j = i * 6 + j by omega, h1.cellAt (i * 6 + j) (by omega), flatC_get h2 hi hj]
theorem KeysG.row {vo : Option Addr} {n vc : Nat} (h : KeysG B W (.slice vo n vc) ks) : n = ks.length ∧ KeysOn (fun c => B ≤ c) W vo ks := by
 obtain ⟨h1, h2⟩ := h
 obtain ⟨so, cap, e⟩ := own_shape h1
 cases e
 refine ⟨rfl, fun i s hi => ⟨h2 i s hi, ?_⟩⟩
 have hl := (List.getElem?_eq_some_iff.1 hi).1
 rcases h1.2 with ⟨e, h0⟩ | ⟨g, cap, cur, e, hb, hg, -⟩
 ·omega
 ·cases e
  refine ⟨g, 0, rfl, hb, (h1.lt g rfl).2, ?_⟩
  rw [show 0 + i = i by omega, h1.cellAt i (by omega)]
  simp [hi]
theorem grown_weaken {row : Option Nat} (h : W.grownBy W' none) : W.grownBy W' row := ⟨h.os, h.tape, h.output, h.size, fun c hc _ => h.block c hc (by simp)⟩
/-- One value more. -/
theorem KidsG.app {u : Vt} {C : Array Value} {ty : TypeId} (h : KidsG B k W v vs) (hu : ValOn (fun c => B ≤ c ∧ v.ownBlock ≠ some c ∧ k ≠ some c) W u (.agg C)) (ad : Addr) (c : Nat) (hC : ∀ (j : Nat) (y : Value), C[j]? = some y → W.cell? (ad.add j) = some y) (hn : vs.length < 1099511627776) (hB : B ≤ W.heap.size) :
  ∃ v' W', (Builtin.append_ #[23, 23] ty #[v, .slice (some ad) 1 c]).run Tryz.prog W = .ok v' W' ∧ KidsG B k W' v' (vs ++ [u]) ∧ W.grownBy W' v.ownBlock ∧ (v'.ownBlock = v.ownBlock ∨ ∃ g, v'.ownBlock = some g ∧ W.heap.size ≤ g) := by
 obtain ⟨X, h1, h2, h3⟩ := h
 obtain ⟨ko, kc, vo, vc, e⟩ := hu.six
 have hsz : C.size = 6 := by cases e; rfl
 have ho : ∀ y ∈ C.toList, y.oneCell' = true := by
  cases e
  intro y hy
  simp at hy
  rcases hy with rfl | rfl | rfl | rfl | rfl | rfl <;> rfl
 obtain ⟨i0, hi, hz0, hz1, hz2⟩ := info_partsV infoVT
 obtain ⟨v', W', hr, r1, r2⟩ := appendV (P := Tryz.prog) (ty := ty) Tryz.underlying23 hi hz0 hz1 hz2 rfl (by decide) h1 ad 1 c C.toList (by simp [hsz]) (fun j y hj => hC j y (by simpa using hj)) ho (by unfold maxLen; omega) (by omega) hB
 have hg : W.grownBy W' v.ownBlock := by
  rcases r2 with ⟨g, cap, rfl, rfl, hg⟩ | ⟨-, hg⟩
  ·exact hg
  ·exact grown_weaken hg
 have hb : v'.ownBlock = v.ownBlock ∨ ∃ g, v'.ownBlock = some g ∧ W.heap.size ≤ g := by
  rcases r2 with ⟨g, cap, rfl, rfl, -⟩ | ⟨hf, -⟩
  ·exact .inl rfl
  ·rcases r1.2 with ⟨-, h0⟩ | ⟨g, cap, cur, rfl, -⟩
   ·omega
   ·exact .inr ⟨g, rfl, hf g rfl⟩
 have hS : ∀ b, b < W.heap.size → (B ≤ b ∧ v.ownBlock ≠ some b ∧ k ≠ some b) → (B ≤ b ∧ v'.ownBlock ≠ some b ∧ k ≠ some b) := fun b hl hc => by
  refine ⟨hc.1, ?_, hc.2.2⟩
  rcases hb with e | ⟨g, e, hgl⟩
  ·rw [e]; exact hc.2.1
  ·rw [e]; intro hx; injection hx with hx; omega
 have hO : SameOn (fun c => B ≤ c ∧ v.ownBlock ≠ some c ∧ k ≠ some c) W W' := ⟨hg.size, fun b hc hl => hg.block b hl (fun e => hc.2.1 e.symm)⟩
 refine ⟨v', W', hr, ⟨fun i => if i = vs.length then C else X i, ?_, ?_, ?_⟩, hg, hb⟩
 ·have e1 : flatC (fun i => if i = vs.length then C else X i) (vs ++ [u]).length = flatC X vs.length ++ C.toList := by
   rw [List.length_append, List.length_singleton, flatC]
   simp only [if_true]
   rw [flatC_congr (Y := X) (fun i hi => if_neg (by omega))]
  rw [e1, List.length_append, List.length_singleton]
  exact r1
 ·intro i hi
  rw [List.length_append, List.length_singleton] at hi
  by_cases e : i = vs.length
  ·simp only [if_pos e]; exact hsz
  ·simp only [if_neg e]; exact h2 i (by omega)
 ·intro i y hy
  by_cases e : i = vs.length
  ·subst e
   rw [List.getElem?_append_right (Nat.le_refl _)] at hy
   simp at hy
   subst hy
   simp only [if_true]
   exact hu.kept hS hO
  ·have hl := (List.getElem?_eq_some_iff.1 hy).1
   rw [List.length_append, List.length_singleton] at hl
   rw [List.getElem?_append_left (by omega)] at hy
   simp only [if_neg e]
   exact (h3 i y hy).kept hS hO
/-- One name more. -/
theorem KeysG.app {u : ByteArray} {ty : TypeId} (h : KeysG B W v ks) (hu : u.size ≤ capT) (ad : Addr) (c : Nat) (hC : W.cell? (ad.add 0) = some (.string u)) (hn : ks.length < 1099511627776) (hB : B ≤ W.heap.size) :
  ∃ v' W', (Builtin.append_ #[22, 22] ty #[v, .slice (some ad) 1 c]).run Tryz.prog W = .ok v' W' ∧ KeysG B W' v' (ks ++ [u]) ∧ W.grownBy W' v.ownBlock ∧ (v'.ownBlock = v.ownBlock ∨ ∃ g, v'.ownBlock = some g ∧ W.heap.size ≤ g) := by
 obtain ⟨h1, h2⟩ := h
 obtain ⟨i0, hi, hz0, hz1, hz2⟩ := info_partsV infoST
 obtain ⟨v', W', hr, r1, r2⟩ := appendV (P := Tryz.prog) (ty := ty) Tryz.underlying22 hi hz0 hz1 hz2 rfl (by decide) h1 ad 1 c [.string u] (by simp) (fun j y hj => by
  match j, hj with
  | 0, hj => simp at hj; subst hj; exact hC) (by simp; rfl) (by unfold maxLen; omega) (by omega) hB
 refine ⟨v', W', hr, ⟨?_, ?_⟩, ?_, ?_⟩
 ·rw [List.length_append, List.length_singleton, List.map_append, List.map_cons, List.map_nil]
  exact r1
 ·intro i s hs
  by_cases e : i = ks.length
  ·subst e
   rw [List.getElem?_append_right (Nat.le_refl _)] at hs
   simp at hs
   subst hs
   exact hu
  ·have hl := (List.getElem?_eq_some_iff.1 hs).1
   rw [List.length_append, List.length_singleton] at hl
   rw [List.getElem?_append_left (by omega)] at hs
   exact h2 i s hs
 ·rcases r2 with ⟨g, cap, rfl, rfl, hg⟩ | ⟨-, hg⟩
  ·exact hg
  ·exact grown_weaken hg
 ·rcases r2 with ⟨g, cap, rfl, rfl, -⟩ | ⟨hf, -⟩
  ·exact .inl rfl
  ·rcases r1.2 with ⟨-, h0⟩ | ⟨g, cap, cur, rfl, -⟩
   ·omega
   ·exact .inr ⟨g, rfl, hf g rfl⟩
end
/-- An object's two lists, each beside the other. -/
def ObjG (B : Nat) (w : World) (kv vv : Value) (ks : List ByteArray) (vs : List Vt) : Prop := KeysG B w kv ks ∧ KidsG B kv.ownBlock w vv vs ∧ ∀ g, kv.ownBlock = some g → vv.ownBlock ≠ some g
section
variable {B : Nat} {W W' : World} {kv vv kv' vv' : Value} {vs vs' : List Vt} {ks ks' : List ByteArray}
theorem ObjG.nil (B : Nat) (W : World) : ObjG B W (.slice none 0 0) (.slice none 0 0) [] [] := ⟨KeysG.nil B W, KidsG.nil B _ W, fun g h => by cases h⟩
theorem ObjG.kept (h : ObjG B W kv vv ks vs) (hs : SameOn (fun c => B ≤ c) W W') : ObjG B W' kv vv ks vs := ⟨h.1.kept hs, h.2.1.kept hs, h.2.2⟩
theorem ObjG.key (h : ObjG B W kv vv ks vs) (hk : KeysG B W' kv' ks') (hg : W.grownBy W' kv.ownBlock) (ha : kv'.ownBlock = kv.ownBlock ∨ ∃ g, kv'.ownBlock = some g ∧ W.heap.size ≤ g) : ObjG B W' kv' vv ks' vs := by
 obtain ⟨X, h1, h2, h3⟩ := h.2.1
 refine ⟨hk, ⟨X, own_on h1 (fun g hv hb hl => hg.block g hl (fun e => h.2.2 g e.symm hv)), h2, fun i u hi => (h3 i u hi).kept (fun b hl hc => ⟨hc.1, hc.2.1, ?_⟩) ⟨hg.size, fun c hc hl => hg.block c hl (fun e => hc.2.2 e.symm)⟩⟩, ?_⟩
 ·rcases ha with e | ⟨g, e, hgl⟩
  ·rw [e]; exact hc.2.2
  ·rw [e]; intro hx; injection hx with hx; omega
 ·intro g hg' hv
  rcases ha with e | ⟨g2, e, hgl⟩
  ·exact h.2.2 g (e ▸ hg') hv
  ·rw [hg'] at e; injection e with e; have := (h1.lt g hv).2; omega
theorem ObjG.kid (h : ObjG B W kv vv ks vs) (hk : KidsG B kv.ownBlock W' vv' vs') (hg : W.grownBy W' vv.ownBlock) (ha : vv'.ownBlock = vv.ownBlock ∨ ∃ g, vv'.ownBlock = some g ∧ W.heap.size ≤ g) : ObjG B W' kv vv' ks vs' := by
 refine ⟨⟨own_on h.1.1 (fun g hv hb hl => hg.block g hl (fun e => h.2.2 g hv e.symm)), h.1.2⟩, hk, ?_⟩
 intro g hk2 hv
 rcases ha with e | ⟨g2, e, hgl⟩
 ·exact h.2.2 g hk2 (e ▸ hv)
 ·rw [hv] at e; injection e with e; have := (h.1.blk hk2).2; omega
end
end Go.Proofs.YtlmjiocdhobopaaGreatDoor

/-
 quarryref00.CopyTexts: the names in new memory.
-/
namespace Go.Proofs.YtlmjiocdhobopaaGreatDoor
open Go.RowKit Go.Shelf
theorem wpList_keysR {ops : Array Oper} {rest : List Oper} {o : Oper} {a : Act} {Q : Exit → Act → World → Prop} {W : World} {x y : Operand} {B : Nat} {v : Value} {ks : List ByteArray} {u : ByteArray} (hgd : o.guard = none) (ho : o.op = .call { callee := .builtin .append, args := #[x, y], argTypes := #[22, 22] })
  (hx : a.eval x = v) (h : KeysG B W v ks) (hu : u.size ≤ capT) (ad : Addr) (c : Nat) (hy : a.eval y = .slice (some ad) 1 c) (hC : W.cell? (ad.add 0) = some (.string u)) (hn : ks.length < 1099511627776) (hB : B ≤ W.heap.size)
  (hr : ∀ v' W', KeysG B W' v' (ks ++ [u]) → W.grownBy W' v.ownBlock → wpList Tryz.prog ops Q rest (a.put o.dst v') W') : wpList Tryz.prog ops Q (o :: rest) a W := by
 refine wpList_plain hgd fun _ hK => ?_
 obtain ⟨v', W', hrun, h1, h2, -⟩ := h.app (ty := o.type) hu ad c hC hn hB
 unfold Oper.wp execOp
 simp only [ho, resolve, invoke, builtin, Sem.run_bind, Sem.run_pure, Result.andThen_ok, List.map_toArray, List.map_cons, List.map_nil, hx, hy, hrun]
 exact hK _ _ (hr v' W' h1 h2)
set_option maxRecDepth 10000 in
set_option maxHeartbeats 4000000 in
theorem copyT_calls (ks : List ByteArray) (ko : Option Addr) (kc : Nat) (hl : ks.length ≤ 1099511627776) (w : World) (hk : Hid (KeysAt w ko ks)) :
  Calls Tryz.prog 21 #[.slice ko ks.length kc] w fun e w' => ∃ v, e = .returned v ∧ KeysG w.heap.size w' v ks ∧ Below w.heap.size w w' := by
 obtain ⟨N, hN⟩ : ∃ N, Hid (ks.length = N) := ⟨_, rfl⟩
 have hNi : (N : Int) ≤ 1099511627776 := by rw [hN.out] at hl; omega
 rw [hN.out]
 go_enter Tryz.func21, Tryz.ntmps21
 go_wp2
 go_loopw [3, 4] (fun vv ii wr => ∃ q : Nat, q ≤ N ∧ ii = .int .i64 (q : Int) ∧ Hid (KeysG w.heap.size wr vv (ks.take q)) ∧ Hid (Below w.heap.size w wr)) (fun _ ii _ => N - (intOf ii).toNat)
 case atStart => exact ⟨0, Nat.zero_le _, rfl, hid (KeysG.nil _ _), hid (Below.refl _ _)⟩
 case round =>
  obtain ⟨q, hqN, rfl, hK, hB⟩ := hrel
  obtain ⟨so, cap, rfl⟩ := hK.out.shape
  have hlen : (ks.take q).length = q := by rw [List.length_take, hN.out]; omega
  rw [hlen] at hK
  by_cases hq : q < N
  ·have hqi : (q : Int) < (N : Int) := by omega
   obtain ⟨s, hs⟩ : ∃ s, ks[q]? = some s := ⟨_, List.getElem?_eq_getElem (by rw [hN.out]; exact hq)⟩
   obtain ⟨hsz, kb, koff, rfl, -, hkc⟩ := (hk.out.kept hB.out) q s hs
   have qz : Below wr.heap.size wr (wr.alloc (.cells #[.string s] 9)) := (Below.refl _ _).alloc (Nat.le_refl _) _
   have K2 := hid (hK.out.kept (SameOn.below qz))
   have B2 := hid (hB.out.trans (qz.mono hB.out.size))
   have hts : ks.take (q + 1) = ks.take q ++ [s] := by rw [List.take_add_one, hs]; rfl
   have hts' := hid hts
   clear hts qz hs
   rw [hlen]
   go_wp2_with (at_builtin; refine wpList_keysR rfl rfl rfl K2.out hsz ⟨wr.heap.size, 0, none⟩ 1 rfl (by simp [Addr.add]) (by rw [hlen]; omega) B2.out.size ?_; intro v' w' hk1 hg1; have K3 := hid hk1; have B3 := hid (B2.out.grown hg1 B2.out.size (fun b e => (K2.out.blk e).1)); clear hk1 hg1)
   go_roundw
   case rel => exact ⟨q + 1, by omega, by simp, by rw [hts'.out]; exact K3, B3⟩
   case measure => simp [intOf]; omega
  ·obtain rfl : q = N := by omega
   have htk : ks.take q = ks := by rw [← hN.out]; exact List.take_length
   rw [htk] at hK
   rw [hlen]
   go_wp2
   go_ret
   exact ⟨_, rfl, hK.out, hB.out⟩
end Go.Proofs.YtlmjiocdhobopaaGreatDoor
