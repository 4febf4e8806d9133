/-
  Texts of mine that others lean on, one behind the other.
-/
import Derived.Test.YtlmjiocdhobopaaGreatDoorPack2
import Derived.Shelf.Strings.Replace
import Derived.Shelf.LaysM
import Derived.Test.YtlmjiocdhobopaaGreatDoorProg
import Derived.KernelRfl
import Derived.Test.YtlmjiocdhobopaaGreatDoorPack1
import Derived.Lib.CountLaws
import Derived.Lib.Replace
import Derived.Shelf.Strconv.Itoa3
import Derived.Test.YtlmjiocdhobopaaGreatDoorRows
import Derived.Lib.LaidTab
import Derived.Lib.AppendIntMem
/-
 What a raw name means, by the program: meant.
-/
namespace Go.Proofs.YtlmjiocdhobopaaGreatDoor
open Go.RowKit Go.Shelf
/-- What is known while a name is read: what stands in the builder, what is left. -/
def MnS (l acc r : List UInt8) (more : Bool) : Prop := (more = true → mnL l = (mnL (126 :: r)).map (acc ++ ·)) ∧ (more = false → mnL l = some acc) ∧ acc.length + r.length ≤ l.length
theorem MnS.bad {l acc r : List UInt8} (h : MnS l acc r true) (hr : (tlC r).2 = false) : mnL l = none := by
 rw [h.1 rfl]
 cases r with
 | nil => rw [mnL_none]; rfl
 | cons d t =>
  rw [mnL_til]
  have h1 : d ≠ 49 := fun e => by subst e; simp [tlC] at hr
  have h2 : d ≠ 48 := fun e => by subst e; simp [tlC] at hr
  rw [if_neg h2, if_neg h1]
  rfl
theorem MnS.next {l acc r : List UInt8} (h : MnS l acc r true) (hr : (tlC r).2 = true) : ∃ d t, r = d :: t ∧ (tlC r).1 < 256 ∧ mnL l = (mnL t).map ((acc ++ [UInt8.ofNat (tlC r).1]) ++ ·) := by
 cases r with
 | nil => cases hr
 | cons d t =>
  by_cases h1 : d = 49
  ·subst h1
   refine ⟨49, t, rfl, show (47 : Nat) < 256 by decide, ?_⟩
   rw [h.1 rfl, mnL_til, if_neg (by decide), if_pos rfl]
   show _ = Option.map (fun x => acc ++ [47] ++ x) (mnL t)
   cases mnL t <;> simp
  ·by_cases h2 : d = 48
   ·subst h2
    refine ⟨48, t, rfl, show (126 : Nat) < 256 by decide, ?_⟩
    rw [h.1 rfl, mnL_til, if_pos rfl]
    show _ = Option.map (fun x => acc ++ [126] ++ x) (mnL t)
    cases mnL t <;> simp
   ·exfalso
    simp [tlC, h1, h2] at hr
end Go.Proofs.YtlmjiocdhobopaaGreatDoor

/-
  The library's contract of strings.ReplaceAll is laid at this program.
-/
namespace Go.Proofs
open Go.Shelf
def Tryz.lays155_ren : Go.Shelf.Ren := ⟨fun | 155 => 36 | 154 => 41 | 138 => 47 | 165 => 48 | 143 => 49 | 166 => 50 | 197 => 51 | 169 => 52 | 195 => 65 | 218 => 66 | 240 => 67 | 241 => 68 | 219 => 69 | 260 => 70 | 276 => 87 | 277 => 88 | 217 => 89 | 225 => 90 | 224 => 91 | 267 => 92 | 266 => 103 | 314 => 104 | n => n, fun | 9 => 9 | 3 => 3 | 4 => 4 | 72 => 79 | 0 => 0 | 76 => 83 | 105 => 85 | 21 => 21 | 5 => 5 | 70 => 77 | 20 => 20 | 37 => 65 | 75 => 82 | 127 => 66 | 164 => 126 | 46 => 64 | 119 => 60 | 139 => 63 | 138 => 62 | 146 => 136 | 51 => 115 | 80 => 87 | n => n, fun | 1 => 3 | 3 => 0 | 4 => 1 | n => n⟩
theorem Tryz.lays155 : Go.Proofs.Lays.n155 Tryz.prog Tryz.lays155_ren := {
  mixed := by kernel_rfl
  f138 := Tryz.func47.trans (congrArg some (by kernel_rfl))
  f143 := Tryz.func49.trans (congrArg some (by kernel_rfl))
  f154 := Tryz.func41.trans (congrArg some (by kernel_rfl))
  f155 := Tryz.func36.trans (congrArg some (by kernel_rfl))
  f165 := Tryz.func48.trans (congrArg some (by kernel_rfl))
  f166 := Tryz.func50.trans (congrArg some (by kernel_rfl))
  f169 := Tryz.func52.trans (congrArg some (by kernel_rfl))
  f195 := Tryz.func65.trans (congrArg some (by kernel_rfl))
  f197 := Tryz.func51.trans (congrArg some (by kernel_rfl))
  f217 := Tryz.func89.trans (congrArg some (by kernel_rfl))
  f218 := Tryz.func66.trans (congrArg some (by kernel_rfl))
  f219 := Tryz.func69.trans (congrArg some (by kernel_rfl))
  f224 := Tryz.func91.trans (congrArg some (by kernel_rfl))
  f225 := Tryz.func90.trans (congrArg some (by kernel_rfl))
  f240 := Tryz.func67.trans (congrArg some (by kernel_rfl))
  f241 := Tryz.func68.trans (congrArg some (by kernel_rfl))
  f260 := Tryz.func70.trans (congrArg some (by kernel_rfl))
  f266 := Tryz.func103.trans (congrArg some (by kernel_rfl))
  f267 := Tryz.func92.trans (congrArg some (by kernel_rfl))
  f276 := Tryz.func87.trans (congrArg some (by kernel_rfl))
  f277 := Tryz.func88.trans (congrArg some (by kernel_rfl))
  f314 := Tryz.func104.trans (congrArg some (by kernel_rfl))
  t0 := Tryz.underlying0
  a0 := Tryz.isAgg0
  z0 := Tryz.sizeOf0
  v0 := Tryz.zeroValue0
  t3 := Tryz.underlying3
  a3 := Tryz.isAgg3
  z3 := Tryz.sizeOf3
  v3 := Tryz.zeroValue3
  t4 := Tryz.underlying4
  a4 := Tryz.isAgg4
  z4 := Tryz.sizeOf4
  v4 := Tryz.zeroValue4
  t5 := Tryz.underlying5
  a5 := Tryz.isAgg5
  z5 := Tryz.sizeOf5
  v5 := Tryz.zeroValue5
  t9 := Tryz.underlying9
  a9 := Tryz.isAgg9
  z9 := Tryz.sizeOf9
  v9 := Tryz.zeroValue9
  t20 := Tryz.underlying20
  a20 := Tryz.isAgg20
  z20 := Tryz.sizeOf20
  v20 := Tryz.zeroValue20
  t21 := Tryz.underlying21
  a21 := Tryz.isAgg21
  z21 := Tryz.sizeOf21
  v21 := Tryz.zeroValue21
  t37 := Tryz.underlying65
  a37 := Tryz.isAgg65
  z37 := Tryz.sizeOf65
  v37 := Tryz.zeroValue65
  t46 := Tryz.underlying64
  a46 := Tryz.isAgg64
  z46 := Tryz.sizeOf64
  v46 := Tryz.zeroValue64
  t51 := Tryz.underlying115
  a51 := Tryz.isAgg115
  z51 := Tryz.sizeOf115
  v51 := Tryz.zeroValue115
  t70 := Tryz.underlying77
  a70 := Tryz.isAgg77
  z70 := Tryz.sizeOf77
  v70 := Tryz.zeroValue77
  t72 := Tryz.underlying79
  a72 := Tryz.isAgg79
  z72 := Tryz.sizeOf79
  v72 := Tryz.zeroValue79
  t75 := Tryz.underlying82
  a75 := Tryz.isAgg82
  z75 := Tryz.sizeOf82
  v75 := Tryz.zeroValue82
  t76 := Tryz.underlying83
  a76 := Tryz.isAgg83
  z76 := Tryz.sizeOf83
  v76 := Tryz.zeroValue83
  t105 := Tryz.underlying85
  a105 := Tryz.isAgg85
  z105 := Tryz.sizeOf85
  v105 := Tryz.zeroValue85
  t119 := Tryz.underlying60
  a119 := Tryz.isAgg60
  z119 := Tryz.sizeOf60
  t127 := Tryz.underlying66
  a127 := Tryz.isAgg66
  z127 := Tryz.sizeOf66
  v127 := Tryz.zeroValue66
  t138 := Tryz.underlying62
  a138 := Tryz.isAgg62
  z138 := Tryz.sizeOf62
  v138 := Tryz.zeroValue62
  t139 := Tryz.underlying63
  a139 := Tryz.isAgg63
  z139 := Tryz.sizeOf63
  v139 := Tryz.zeroValue63
  t146 := Tryz.underlying136
  a146 := Tryz.isAgg136
  z146 := Tryz.sizeOf136
  v146 := Tryz.zeroValue136
  t164 := Tryz.underlying126
  a164 := Tryz.isAgg126
  z164 := Tryz.sizeOf126
  v164 := Tryz.zeroValue126
  g1 := by kernel_rfl
  g3 := by kernel_rfl
  g4 := by kernel_rfl }
def Tryz.laysM155_ren : Go.Shelf.Ren := ⟨fun | 155 => 36 | 154 => 41 | 138 => 47 | 165 => 48 | 143 => 49 | 166 => 50 | 197 => 51 | 169 => 52 | 195 => 65 | 218 => 66 | 240 => 67 | 241 => 68 | 219 => 69 | 260 => 70 | 276 => 87 | 277 => 88 | 217 => 89 | 225 => 90 | 224 => 91 | 267 => 92 | 266 => 103 | 314 => 104 | n => n, fun | 9 => 9 | 3 => 3 | 4 => 4 | 72 => 79 | 0 => 0 | 76 => 83 | 105 => 85 | 21 => 21 | 5 => 5 | 70 => 77 | 20 => 20 | 37 => 65 | 75 => 82 | 127 => 66 | 164 => 126 | 46 => 64 | 119 => 60 | 139 => 63 | 138 => 62 | 146 => 136 | 51 => 115 | 80 => 87 | n => n, fun | 1 => 3 | 3 => 0 | 4 => 1 | n => n⟩
theorem Tryz.laysM155 : Go.Proofs.LaysM.n155 Tryz.prog Tryz.laysM155_ren := {
  mixed := by kernel_rfl
  f138 := Tryz.func47.trans (congrArg some (by kernel_rfl))
  f143 := Tryz.func49.trans (congrArg some (by kernel_rfl))
  f154 := Tryz.func41.trans (congrArg some (by kernel_rfl))
  f155 := Tryz.func36.trans (congrArg some (by kernel_rfl))
  f165 := Tryz.func48.trans (congrArg some (by kernel_rfl))
  f166 := Tryz.func50.trans (congrArg some (by kernel_rfl))
  f169 := Tryz.func52.trans (congrArg some (by kernel_rfl))
  f195 := Tryz.func65.trans (congrArg some (by kernel_rfl))
  f197 := Tryz.func51.trans (congrArg some (by kernel_rfl))
  f217 := Tryz.func89.trans (congrArg some (by kernel_rfl))
  f218 := Tryz.func66.trans (congrArg some (by kernel_rfl))
  f219 := Tryz.func69.trans (congrArg some (by kernel_rfl))
  f224 := Tryz.func91.trans (congrArg some (by kernel_rfl))
  f225 := Tryz.func90.trans (congrArg some (by kernel_rfl))
  f240 := Tryz.func67.trans (congrArg some (by kernel_rfl))
  f241 := Tryz.func68.trans (congrArg some (by kernel_rfl))
  f260 := Tryz.func70.trans (congrArg some (by kernel_rfl))
  f266 := Tryz.func103.trans (congrArg some (by kernel_rfl))
  f267 := Tryz.func92.trans (congrArg some (by kernel_rfl))
  f276 := Tryz.func87.trans (congrArg some (by kernel_rfl))
  f277 := Tryz.func88.trans (congrArg some (by kernel_rfl))
  f314 := Tryz.func104.trans (congrArg some (by kernel_rfl))
  t0 := Tryz.underlying0
  a0 := Tryz.isAgg0
  z0 := Tryz.sizeOf0
  v0 := Tryz.zeroValue0
  t3 := Tryz.underlying3
  a3 := Tryz.isAgg3
  z3 := Tryz.sizeOf3
  v3 := Tryz.zeroValue3
  t4 := Tryz.underlying4
  a4 := Tryz.isAgg4
  z4 := Tryz.sizeOf4
  v4 := Tryz.zeroValue4
  t5 := Tryz.underlying5
  a5 := Tryz.isAgg5
  z5 := Tryz.sizeOf5
  v5 := Tryz.zeroValue5
  t9 := Tryz.underlying9
  a9 := Tryz.isAgg9
  z9 := Tryz.sizeOf9
  v9 := Tryz.zeroValue9
  t20 := Tryz.underlying20
  a20 := Tryz.isAgg20
  z20 := Tryz.sizeOf20
  v20 := Tryz.zeroValue20
  t21 := Tryz.underlying21
  a21 := Tryz.isAgg21
  z21 := Tryz.sizeOf21
  v21 := Tryz.zeroValue21
  t37 := Tryz.underlying65
  a37 := Tryz.isAgg65
  z37 := Tryz.sizeOf65
  v37 := Tryz.zeroValue65
  t46 := Tryz.underlying64
  a46 := Tryz.isAgg64
  z46 := Tryz.sizeOf64
  v46 := Tryz.zeroValue64
  t51 := Tryz.underlying115
  a51 := Tryz.isAgg115
  z51 := Tryz.sizeOf115
  v51 := Tryz.zeroValue115
  t70 := Tryz.underlying77
  a70 := Tryz.isAgg77
  z70 := Tryz.sizeOf77
  v70 := Tryz.zeroValue77
  t72 := Tryz.underlying79
  a72 := Tryz.isAgg79
  z72 := Tryz.sizeOf79
  v72 := Tryz.zeroValue79
  t75 := Tryz.underlying82
  a75 := Tryz.isAgg82
  z75 := Tryz.sizeOf82
  v75 := Tryz.zeroValue82
  t76 := Tryz.underlying83
  a76 := Tryz.isAgg83
  z76 := Tryz.sizeOf83
  v76 := Tryz.zeroValue83
  t105 := Tryz.underlying85
  a105 := Tryz.isAgg85
  z105 := Tryz.sizeOf85
  v105 := Tryz.zeroValue85
  t119 := Tryz.underlying60
  a119 := Tryz.isAgg60
  z119 := Tryz.sizeOf60
  t127 := Tryz.underlying66
  a127 := Tryz.isAgg66
  z127 := Tryz.sizeOf66
  v127 := Tryz.zeroValue66
  t138 := Tryz.underlying62
  a138 := Tryz.isAgg62
  z138 := Tryz.sizeOf62
  v138 := Tryz.zeroValue62
  t139 := Tryz.underlying63
  a139 := Tryz.isAgg63
  z139 := Tryz.sizeOf63
  v139 := Tryz.zeroValue63
  t146 := Tryz.underlying136
  a146 := Tryz.isAgg136
  z146 := Tryz.sizeOf136
  v146 := Tryz.zeroValue136
  t164 := Tryz.underlying126
  a164 := Tryz.isAgg126
  z164 := Tryz.sizeOf126
  v164 := Tryz.zeroValue126
  g1 := by kernel_rfl
  g3 := by kernel_rfl
  g4 := by kernel_rfl
  t80 := Tryz.underlying87
  a80 := Tryz.isAgg87
  z80 := Tryz.sizeOf87
  v80 := Tryz.zeroValue87
  i0 := by kernel_rfl
  i3 := by kernel_rfl
  i4 := by kernel_rfl
  i5 := by kernel_rfl
  i9 := by kernel_rfl
  i20 := by kernel_rfl
  i21 := by kernel_rfl
  i37 := by kernel_rfl
  i46 := by kernel_rfl
  i51 := by kernel_rfl
  i70 := by kernel_rfl
  i72 := by kernel_rfl
  i75 := by kernel_rfl
  i76 := by kernel_rfl
  i80 := by kernel_rfl
  i105 := by kernel_rfl
  i127 := by kernel_rfl
  i138 := by kernel_rfl
  i139 := by kernel_rfl
  i146 := by kernel_rfl
  i164 := by kernel_rfl
  m1 := by kernel_rfl
  s1_3 := fun w h => Go.Proofs.cell_of_shapedOpen_int (zero := #[.int .i64 0]) (t := 3) h (of_decide_eq_true (by kernel_rfl)) (by kernel_rfl) rfl (by kernel_rfl) (by kernel_rfl) Tryz.underlying3
  m3 := by kernel_rfl
  m4 := by kernel_rfl }
theorem Tryz.Builder_Extra_155 : Builder.Extra Tryz.prog Tryz.lays155_ren := {
  sizeBuilder := by kernel_rfl
  liesBuilder := by kernel_rfl
  t5 := Tryz.underlying5
  a5 := Tryz.isAgg5
  z5 := Tryz.sizeOf5
  v5 := Tryz.zeroValue5
  infoByte := by kernel_rfl
  cellsByte := by kernel_rfl
  sizeByte := by kernel_rfl
  neB5 := by decide }
end Go.Proofs

/-
 How a name and how names are written, by the program: written, Print.
-/
namespace Go.Proofs.YtlmjiocdhobopaaGreatDoor
open Go.RowKit Go.Shelf
theorem rep_one (c : UInt8) (new : List UInt8) : ∀ (n : Nat) (s : List UInt8), s.length ≤ n → Lib.replaceK [c] new (Lib.count s [c]) s = s.flatMap (fun x => if x = c then new else [x]) := by
 have none_map : ∀ a : List UInt8, (∀ x ∈ a, x ≠ c) → a.flatMap (fun x => if x = c then new else [x]) = a := by
  intro a
  induction a with
  | nil => intro _; rfl
  | cons b a ih =>
   intro h
   rw [List.flatMap_cons, if_neg (h b (by simp)), ih (fun x hx => h x (by simp [hx]))]
   rfl
 have first : ∀ l : List UInt8, (∀ x ∈ l, x ≠ c) ∨ ∃ a r, l = a ++ c :: r ∧ ∀ x ∈ a, x ≠ c := by
  intro l
  induction l with
  | nil => exact .inl (fun x h => by simp at h)
  | cons b l ih =>
   by_cases hb : b = c
   ·exact .inr ⟨[], l, by simp [hb], fun x h => by simp at h⟩
   ·rcases ih with h | ⟨a, r, rfl, h⟩
    ·exact .inl (fun x hx => by
      simp at hx
      rcases hx with rfl | hx
      ·exact hb
      ·exact h x hx)
    ·exact .inr ⟨b :: a, r, rfl, fun x hx => by
      simp at hx
      rcases hx with rfl | hx
      ·exact hb
      ·exact h x hx⟩
 intro n
 induction n with
 | zero =>
  intro s hs
  obtain rfl : s = [] := List.length_eq_zero_iff.1 (by omega)
  rw [Lib.count_miss (by rfl)]
  rfl
 | succ n ih =>
  intro s hs
  rcases first s with h | ⟨a, r, rfl, h⟩
  ·rw [Lib.count_miss (by rw [Lib.index_one]; exact idx_no s c h), none_map s h]
   rfl
  ·have hi : Lib.index (a ++ c :: r) [c] = (a.length : Int) := by rw [Lib.index_one]; exact idx_yes a c r h
   have hd : (a ++ c :: r).drop (a.length + [c].length) = r := by simp
   rw [Lib.count_hit (by simp) hi, hd, Nat.add_comm, Lib.replaceK_hit _ _ _ _ _ hi, hd, ih r (by simp at hs; omega)]
   rw [List.flatMap_append, none_map a h, List.flatMap_cons, if_pos rfl]
   simp
theorem repAll_one (c : UInt8) (new : List UInt8) (hne : ([c] == new) = false) (s : List UInt8) : Lib.replaceAll s [c] new = s.flatMap (fun x => if x = c then new else [x]) := by
 unfold Lib.replaceAll Lib.replace
 rw [if_neg (by rw [hne]; exact Bool.false_ne_true)]
 have : Lib.replaceNum s [c] (-1) = Lib.count s [c] := by unfold Lib.replaceNum; rw [if_pos (.inl (by decide))]
 rw [this]
 exact rep_one c new _ s (Nat.le_refl _)
theorem wrN_two : ∀ l : List UInt8, (l.flatMap (fun x => if x = 126 then [126, 48] else [x])).flatMap (fun x => if x = 47 then [126, 49] else [x]) = wrN l
 | [] => rfl
 | c :: t => by
  rw [List.flatMap_cons, List.flatMap_append, wrN_two t, wrN]
  by_cases h : c = 126
  ·subst h
   rw [if_pos rfl, if_pos rfl]
   rfl
  ·rw [if_neg h, if_neg h]
   by_cases h2 : c = 47
   ·subst h2
    rw [if_pos rfl]
    rfl
   ·rw [if_neg h2, List.flatMap_cons, if_neg h2]
    rfl
theorem flat_len (f : UInt8 → List UInt8) (k : Nat) (hf : ∀ x, (f x).length ≤ k) : ∀ l : List UInt8, (l.flatMap f).length ≤ k * l.length
 | [] => by simp
 | c :: t => by
  rw [List.flatMap_cons, List.length_append, List.length_cons]
  have h1 := flat_len f k hf t
  have h2 := hf c
  rw [Nat.mul_add, Nat.mul_one]
  omega
theorem wrN_len : ∀ l : List UInt8, (wrN l).length ≤ 2 * l.length
 | [] => by simp [wrN]
 | c :: t => by
  have := wrN_len t
  rw [wrN]
  split
  ·simp; omega
  ·split
   ·simp; omega
   ·simp; omega
/-- The variable internal/bytealg.MaxLen holds some number. -/
def MxI (w : World) : Prop := ∃ m, w.cell? ⟨Tryz.laysM155_ren.g 1, 0, none⟩ = some (.int .i64 m)
theorem MxI.kept {w w' : World} (h : MxI w) (hb : Below w.heap.size w w') : MxI w' := by
 obtain ⟨m, hm⟩ := h
 exact ⟨m, (hb.cell (p := ⟨Tryz.laysM155_ren.g 1, 0, none⟩) (cell_ltT hm)).trans hm⟩
theorem MxI.below {n : Nat} {w w' : World} (h : MxI w) (hb : Below n w w') (hn : ∀ m, w.cell? ⟨Tryz.laysM155_ren.g 1, 0, none⟩ = some (.int .i64 m) → Tryz.laysM155_ren.g 1 < n) : MxI w' := by
 obtain ⟨m, hm⟩ := h
 exact ⟨m, (hb.cell (p := ⟨Tryz.laysM155_ren.g 1, 0, none⟩) (hn m hm)).trans hm⟩
theorem MxI.of_shape {w : World} (h : w.ShapedOpen Tryz.prog) : MxI w := Tryz.laysM155.s1_3 w h
theorem repl_calls (l : List UInt8) (c : UInt8) (d : UInt8) (x : UInt8) (hl : l.length ≤ 4294967280) (w : World) (hm : MxI w) (hne : ([c] == [d, x]) = false) : Calls Tryz.prog 36 #[.string (mkL l), .string ⟨#[c]⟩, .string ⟨#[d, x]⟩] w fun e w' => e = .returned (.string (mkL (l.flatMap (fun y => if y = c then [d, x] else [y])))) ∧ Below w.heap.size w w' := by
 obtain ⟨m, hm⟩ := hm
 have hc := Lib.count_le l [c]
 have h := Any.strings_ReplaceAll Tryz.lays155 Tryz.Builder_Extra_155 (mkL l) ⟨#[c]⟩ ⟨#[d, x]⟩ m w (by rw [mkL_size]; omega) hm (by show 1 ≤ 1; decide) (by
  rw [mkL_size]
  have : Lib.countB (mkL l) ⟨#[c]⟩ = Lib.count l [c] := by show Lib.count (mkL l).data.toList _ = _; rw [data_mkL]
  rw [this]
  show l.length + Lib.count l [c] * 2 ≤ _
  omega)
 refine h.mono ?_
 rintro e w' ⟨rfl, hb⟩
 refine ⟨?_, hb⟩
 rw [data_mkL]
 have := repAll_one c [d, x] hne l
 show Ending.returned (.string ⟨(Lib.replaceAll l [c] [d, x]).toArray⟩) = _
 rw [this]
 rfl
end Go.Proofs.YtlmjiocdhobopaaGreatDoor

/-
  The library's contract of strconv.Itoa is laid at this program.
-/
namespace Go.Proofs
open Go.Shelf
def Tryz.laysM171_ren : Go.Shelf.Ren := ⟨fun | 171 => 26 | 243 => 38 | 246 => 44 | 283 => 55 | 284 => 56 | 285 => 57 | 286 => 58 | 129 => 76 | 317 => 75 | 318 => 77 | 319 => 78 | 320 => 79 | 337 => 98 | 338 => 99 | n => n, fun | 3 => 3 | 9 => 9 | 2 => 2 | 4 => 4 | 171 => 92 | 0 => 0 | 53 => 75 | 37 => 65 | 5 => 5 | 173 => 95 | 212 => 114 | 51 => 115 | 20 => 20 | 213 => 116 | 46 => 64 | 232 => 138 | 233 => 139 | n => n, fun | 17 => 2 | 18 => 4 | 19 => 5 | n => n⟩
theorem Tryz.laysM171 : Go.Proofs.LaysM.n171 Tryz.prog Tryz.laysM171_ren := {
  mixed := by kernel_rfl
  f129 := Tryz.func76.trans (congrArg some (by kernel_rfl))
  f171 := Tryz.func26.trans (congrArg some (by kernel_rfl))
  f243 := Tryz.func38.trans (congrArg some (by kernel_rfl))
  f246 := Tryz.func44.trans (congrArg some (by kernel_rfl))
  f283 := Tryz.func55.trans (congrArg some (by kernel_rfl))
  f284 := Tryz.func56.trans (congrArg some (by kernel_rfl))
  f285 := Tryz.func57.trans (congrArg some (by kernel_rfl))
  f286 := Tryz.func58.trans (congrArg some (by kernel_rfl))
  f317 := Tryz.func75.trans (congrArg some (by kernel_rfl))
  f318 := Tryz.func77.trans (congrArg some (by kernel_rfl))
  f319 := Tryz.func78.trans (congrArg some (by kernel_rfl))
  f320 := Tryz.func79.trans (congrArg some (by kernel_rfl))
  f337 := Tryz.func98.trans (congrArg some (by kernel_rfl))
  f338 := Tryz.func99.trans (congrArg some (by kernel_rfl))
  t0 := Tryz.underlying0
  a0 := Tryz.isAgg0
  z0 := Tryz.sizeOf0
  v0 := Tryz.zeroValue0
  t2 := Tryz.underlying2
  a2 := Tryz.isAgg2
  z2 := Tryz.sizeOf2
  v2 := Tryz.zeroValue2
  t3 := Tryz.underlying3
  a3 := Tryz.isAgg3
  z3 := Tryz.sizeOf3
  v3 := Tryz.zeroValue3
  t4 := Tryz.underlying4
  a4 := Tryz.isAgg4
  z4 := Tryz.sizeOf4
  v4 := Tryz.zeroValue4
  t5 := Tryz.underlying5
  a5 := Tryz.isAgg5
  z5 := Tryz.sizeOf5
  v5 := Tryz.zeroValue5
  t9 := Tryz.underlying9
  a9 := Tryz.isAgg9
  z9 := Tryz.sizeOf9
  v9 := Tryz.zeroValue9
  t20 := Tryz.underlying20
  a20 := Tryz.isAgg20
  z20 := Tryz.sizeOf20
  v20 := Tryz.zeroValue20
  t37 := Tryz.underlying65
  a37 := Tryz.isAgg65
  z37 := Tryz.sizeOf65
  v37 := Tryz.zeroValue65
  t46 := Tryz.underlying64
  a46 := Tryz.isAgg64
  z46 := Tryz.sizeOf64
  v46 := Tryz.zeroValue64
  t51 := Tryz.underlying115
  a51 := Tryz.isAgg115
  z51 := Tryz.sizeOf115
  v51 := Tryz.zeroValue115
  t53 := Tryz.underlying75
  a53 := Tryz.isAgg75
  z53 := Tryz.sizeOf75
  v53 := Tryz.zeroValue75
  t171 := Tryz.underlying92
  a171 := Tryz.isAgg92
  z171 := Tryz.sizeOf92
  v171 := Tryz.zeroValue92
  t173 := Tryz.underlying95
  a173 := Tryz.isAgg95
  z173 := Tryz.sizeOf95
  v173 := Tryz.zeroValue95
  t212 := Tryz.underlying114
  a212 := Tryz.isAgg114
  z212 := Tryz.sizeOf114
  v212 := Tryz.zeroValue114
  t213 := Tryz.underlying116
  a213 := Tryz.isAgg116
  z213 := Tryz.sizeOf116
  t232 := Tryz.underlying138
  a232 := Tryz.isAgg138
  z232 := Tryz.sizeOf138
  v232 := Tryz.zeroValue138
  t233 := Tryz.underlying139
  a233 := Tryz.isAgg139
  z233 := Tryz.sizeOf139
  v233 := Tryz.zeroValue139
  g17 := by kernel_rfl
  g18 := by kernel_rfl
  g19 := by kernel_rfl
  i0 := by kernel_rfl
  i2 := by kernel_rfl
  i3 := by kernel_rfl
  i4 := by kernel_rfl
  i5 := by kernel_rfl
  i9 := by kernel_rfl
  i20 := by kernel_rfl
  i37 := by kernel_rfl
  i46 := by kernel_rfl
  i51 := by kernel_rfl
  i53 := by kernel_rfl
  i171 := by kernel_rfl
  i173 := by kernel_rfl
  i212 := by kernel_rfl
  i232 := by kernel_rfl
  i233 := by kernel_rfl
  m17 := by kernel_rfl
  m18 := by kernel_rfl
  m19 := by kernel_rfl }
end Go.Proofs

/-
 strconv.Itoa, and the table of powers of ten that it reads.
-/
namespace Go.Proofs.YtlmjiocdhobopaaGreatDoor
open Go.RowKit Go.Shelf
/-- The table of powers of ten: its name, as the row has it. -/
abbrev powNm : String := Rows.treeWalksRow.named.getD 2 default
def PowT (w : World) : Prop := Lib.TabIs Tryz.prog w powNm .u64 Lib.pow10Tab
theorem gPowN : (Tryz.prog.globalNamed powNm).isSome = true := by kernel_rfl
theorem PowT.kept {w w' : World} (h : PowT w) (hb : Below w.heap.size w w') : PowT w' := by
 obtain ⟨g, hg⟩ := Option.isSome_iff_exists.1 gPowN
 unfold PowT Lib.TabIs World.var? at h ⊢
 rw [hg] at h ⊢
 simp only [Option.bind_some] at h ⊢
 cases ho : w.heap[g]? with
 | none => rw [ho] at h; cases h
 | some o =>
  have hlt : g < w.heap.size := (Array.getElem?_eq_some_iff.1 ho).1
  rw [hb.block g hlt]
  exact h
theorem itoa_calls (x : Int) (h0 : -9223372036854775808 ≤ x) (h1 : x ≤ 9223372036854775807) (w : World) (hT : PowT w) :
  Calls Tryz.prog 26 #[.int .i64 x] w fun e w' => e = .returned (.string ⟨(Lib.itoa x).toArray⟩) ∧ Below w.heap.size w w' := by
 refine Calls.mono (show Calls Tryz.prog 26 #[.int .i64 x] w fun e w' => e = .returned (.string ⟨(Lib.itoa x).toArray⟩) ∧ ∃ k os, w' = Sort.grow (w.drewN k) os from Any.strconv_Itoa Tryz.laysM171 x h0 h1 w hT) ?_
 rintro e w' ⟨rfl, k, os, rfl⟩
 exact ⟨rfl, Lib.below_grow _ w (Nat.le_refl _) k os⟩
end Go.Proofs.YtlmjiocdhobopaaGreatDoor

/-
 tree.step: how a pointer tells one of the Kids.
-/
namespace Go.Proofs.YtlmjiocdhobopaaGreatDoor
open Go.RowKit Go.Shelf
set_option maxRecDepth 10000 in
set_option maxHeartbeats 4000000 in
theorem tstep_calls (k : Int) (b : Bool) (r t : ByteArray) (ko : Option Addr) (ks : List ByteArray) (N kc : Nat) (hN : Hid (ks.length = N)) (vo : Option Addr) (M vc : Nat) (i : Nat) (hi : i ≤ 1099511627776) (w : World) (hk : Hid (KeysAt w ko ks)) (hP : Hid (PowT w)) (hm : Hid (MxI w))
  (hok : Hid (k = 5 ∨ (k ≠ 5 ∧ ∃ s, ks[i]? = some s ∧ s.size ≤ 2147483640))) (T : List UInt8) (hT : Hid (stpK k ks i = T)) :
  Calls Tryz.prog 24 #[.agg #[.int .i64 k, .bool b, .string r, .string t, .slice ko N kc, .slice vo M vc], .int .i64 (i : Int)] w fun e w' => e = .returned (.string (mkL T)) ∧ Below w.heap.size w w' := by
 have hA := hid (At.new w #[.int .i64 k, .bool b, .string r, .string t, .slice ko N kc, .slice vo M vc] 25)
 have hB := hid (show Below w.heap.size w (w.alloc (.cells #[.int .i64 k, .bool b, .string r, .string t, .slice ko N kc, .slice vo M vc] 25)) from (Below.refl _ _).alloc (Nat.le_refl _) _)
 rcases hok.out with h5 | ⟨h5, s, hs, hsz⟩
 ·subst h5
  have hc := hid (fun u (h : PowT u) => itoa_calls (i : Int) (by omega) (by omega) u h)
  have hTe : Hid ((⟨(Lib.itoa (i : Int)).toArray⟩ : ByteArray) = mkL T) := by rw [← hT.out, stpK, if_pos rfl]; rfl
  clear hok
  go_enter Tryz.func24, Tryz.ntmps24
  go_wp2_with fail
  refine Calls.mono (hc.out _ (hP.out.kept hB.out)) ?_
  rintro e w1 ⟨rfl, hb⟩
  rw [hTe.out]
  have hB1 := hid (hB.out.trans (hb.mono hB.out.size))
  clear hb hc
  go_wp2
  go_ret
  exact ⟨rfl, hB1.out⟩
 ·have h5' : (k == 5) = false := by simpa using h5
  have hiN : i < N := by rw [← hN.out]; exact (List.getElem?_eq_some_iff.1 hs).1
  have hiI : (i : Int) < (N : Int) := by omega
  have hiw : IntKind.i64.wrap (i : Int) = (i : Int) := by rw [IntKind.wrap_i64]; omega
  obtain ⟨g, o, hko, hg, hcell⟩ : ∃ g o, ko = some ⟨g, o, none⟩ ∧ g < w.heap.size ∧ w.cell? ⟨g, o + i, none⟩ = some (.string s) := by
   obtain ⟨-, g, o, h1, h2, h3⟩ := hk.out i s hs
   exact ⟨g, o, h1, h2, h3⟩
  subst hko
  obtain ⟨l, rfl⟩ : ∃ l, s = mkL l := ⟨_, (mkL_data s).symm⟩
  have hll : l.length ≤ 2147483640 := by rw [← mkL_size]; exact hsz
  have hc1 := hid (fun u (h : MxI u) => repl_calls l 126 126 48 (by omega) u h (by decide))
  obtain ⟨l2, hl2⟩ : ∃ l2, Hid (l.flatMap (fun y => if y = 126 then [126, 48] else [y]) = l2) := ⟨_, rfl⟩
  rw [hl2.out] at hc1
  have hl2n : l2.length ≤ 4294967280 := by
   rw [← hl2.out]
   have := flat_len (fun y => if y = 126 then [126, 48] else [y]) 2 (fun x => by split <;> simp) l
   omega
  have hc2 := hid (fun u (h : MxI u) => repl_calls l2 47 126 49 (by omega) u h (by decide))
  have hTe : Hid (mkL (l2.flatMap (fun y => if y = 47 then [126, 49] else [y])) = mkL T) := by
   rw [← hT.out, stpK, if_neg h5, hs, Option.getD_some, data_mkL, ← hl2.out, wrN_two]
   exact hid rfl
  rw [hTe.out] at hc2
  have hcell' : (w.alloc (.cells #[.int .i64 k, .bool b, .string r, .string t, .slice (some ⟨g, o, none⟩) N kc, .slice vo M vc] 25)).cell? ⟨g, o + i, none⟩ = some (.string (mkL l)) := by
   rw [World.cell?_of_block (w := w) (hB.out.block g hg)]
   exact hcell
  have c0 : (w.alloc (.cells #[.int .i64 k, .bool b, .string r, .string t, .slice (some ⟨g, o, none⟩) N kc, .slice vo M vc] 25)).cell? ⟨w.heap.size, 0, none⟩ = some (.int .i64 k) := hA.out.cell 0
  have c4 : (w.alloc (.cells #[.int .i64 k, .bool b, .string r, .string t, .slice (some ⟨g, o, none⟩) N kc, .slice vo M vc] 25)).cell? ⟨w.heap.size, 4, none⟩ = some (.slice (some ⟨g, o, none⟩) N kc) := hA.out.cell 4
  obtain ⟨s1, hs1⟩ : ∃ s1, mkL l = s1 := ⟨_, rfl⟩
  obtain ⟨s2, hs2⟩ : ∃ s2, mkL l2 = s2 := ⟨_, rfl⟩
  obtain ⟨s3, hs3⟩ : ∃ s3, mkL T = s3 := ⟨_, rfl⟩
  rw [hs1] at hcell' hc1
  rw [hs2] at hc1 hc2
  rw [hs3] at hc2
  have hs3' := hid hs3
  clear hok h5 hs hsz hcell hll hl2 hl2n hTe hs1 hs2 hs3 hT hN hk hP hA
  go_enter Tryz.func24, Tryz.ntmps24
  go_wp2_with fail
  refine Calls.mono (hc1.out _ (hm.out.kept hB.out)) ?_
  rintro e w1 ⟨rfl, hb⟩
  have hB1 := hid (hB.out.trans (hb.mono hB.out.size))
  clear hb hc1 hcell' c0 c4
  go_wp2_with fail
  refine Calls.mono (hc2.out _ (hm.out.kept hB1.out)) ?_
  rintro e w2 ⟨rfl, hb⟩
  have hB2 := hid (hB1.out.trans (hb.mono hB1.out.size))
  clear hb hc2
  go_wp2
  go_ret
  rw [hs3'.out]
  exact ⟨rfl, hB2.out⟩
end Go.Proofs.YtlmjiocdhobopaaGreatDoor
