/-
 At which place each name stands first, as a map: tree.firsts.
-/
import Derived.Test.YtjlcliicdclooaaDoorTpB
import Derived.Test.YtjlcliicdclooaaDoorTrJA
import Derived.Maps.OwnSet
namespace Go.Proofs.YtjlcliicdclooaaDoor
open Go.RowKit Go.Shelf Go.Maps Go.ChangeMaps Go.WideShapes
open Classical in
/-- The names, each once. -/
noncomputable def addB (acc : List ByteArray) (x : ByteArray) : List ByteArray := if x ∈ acc then acc else acc ++ [x]
noncomputable def nubB (ks : List ByteArray) : List ByteArray := ks.foldl addB []
theorem nubB_snoc (ks : List ByteArray) (x : ByteArray) : nubB (ks ++ [x]) = addB (nubB ks) x := by simp [nubB, List.foldl_append]
theorem mem_addB (acc : List ByteArray) (x y : ByteArray) : y ∈ addB acc x ↔ y ∈ acc ∨ y = x := by
 unfold addB
 split
 ·rename_i h
  constructor
  ·exact .inl
  ·rintro (h1 | rfl)
   ·exact h1
   ·exact h
 ·simp
theorem mem_foldB (ks : List ByteArray) : ∀ (acc : List ByteArray) (y : ByteArray), y ∈ ks.foldl addB acc ↔ y ∈ acc ∨ y ∈ ks := by
 induction ks with
 | nil => simp
 | cons x ks ih =>
  intro acc y
  rw [List.foldl_cons, ih, mem_addB]
  simp only [List.mem_cons]
  constructor
  ·rintro ((h | h) | h)
   ·exact .inl h
   ·exact .inr (.inl h)
   ·exact .inr (.inr h)
  ·rintro (h | h | h)
   ·exact .inl (.inl h)
   ·exact .inl (.inr h)
   ·exact .inr h
theorem mem_nubB (ks : List ByteArray) (y : ByteArray) : y ∈ nubB ks ↔ y ∈ ks := by
 unfold nubB
 rw [mem_foldB]
 simp
theorem nodup_addB {acc : List ByteArray} (h : acc.Nodup) (x : ByteArray) : (addB acc x).Nodup := by
 unfold addB
 split
 ·exact h
 ·rename_i hx
  rw [List.nodup_append]
  refine ⟨h, by simp, ?_⟩
  intro a ha b hb
  simp at hb
  subst hb
  exact fun e => hx (e ▸ ha)
theorem nodup_foldB (ks : List ByteArray) : ∀ {acc : List ByteArray}, acc.Nodup → (ks.foldl addB acc).Nodup := by
 induction ks with
 | nil => exact fun h => h
 | cons x ks ih => exact fun h => ih (nodup_addB h x)
theorem nodup_nubB (ks : List ByteArray) : (nubB ks).Nodup := nodup_foldB ks List.nodup_nil
/-- As many, each once, and all of the one among the other: then all of the other among the one. -/
theorem pigeon {α : Type} [DecidableEq α] : ∀ (a b : List α), a.Nodup → (∀ x ∈ a, x ∈ b) → b.length ≤ a.length → ∀ x ∈ b, x ∈ a
 | [], b, _, _, hl, x, hx => by
  have : b = [] := List.length_eq_zero_iff.1 (by simpa using hl)
  rw [this] at hx
  exact hx
 | y :: a, b, hn, hs, hl, x, hx => by
  have hy : y ∈ b := hs y (by simp)
  rw [List.nodup_cons] at hn
  by_cases hxy : x = y
  ·rw [hxy]; simp
  ·have hlen : (b.erase y).length + 1 = b.length := by rw [List.length_erase_of_mem hy]; have := List.length_pos_of_mem hy; omega
   have := pigeon a (b.erase y) hn.2 (fun z hz => by
    have hzy : z ≠ y := fun e => hn.1 (e ▸ hz)
    exact (List.mem_erase_of_ne hzy).2 (hs z (by simp [hz]))) (by simp at hl; omega) x ((List.mem_erase_of_ne hxy).2 hx)
   simp [this]
theorem len_sub {α : Type} [DecidableEq α] : ∀ (a b : List α), a.Nodup → (∀ x ∈ a, x ∈ b) → a.length ≤ b.length
 | [], _, _, _ => Nat.zero_le _
 | y :: a, b, hn, hs => by
  have hy : y ∈ b := hs y (by simp)
  rw [List.nodup_cons] at hn
  have hlen : (b.erase y).length + 1 = b.length := by rw [List.length_erase_of_mem hy]; have := List.length_pos_of_mem hy; omega
  have := len_sub a (b.erase y) hn.2 (fun z hz => by
   have hzy : z ≠ y := fun e => hn.1 (e ▸ hz)
   exact (List.mem_erase_of_ne hzy).2 (hs z (by simp [hz])))
  simp only [List.length_cons]
  omega
theorem nub_same {a b : List ByteArray} (h : (nubB a).length = (nubB b).length) (hs : ∀ x ∈ a, x ∈ b) : ∀ x ∈ b, x ∈ a := fun x hx =>
 (mem_nubB a x).1 (@pigeon ByteArray (fun a b => Classical.propDecidable (a = b)) (nubB a) (nubB b) (nodup_nubB a) (fun y hy => (mem_nubB b y).2 (hs y ((mem_nubB a y).1 hy))) (by omega) x ((mem_nubB b x).2 hx))
theorem nub_len {a b : List ByteArray} (h1 : ∀ x ∈ a, x ∈ b) (h2 : ∀ x ∈ b, x ∈ a) : (nubB a).length = (nubB b).length :=
 Nat.le_antisymm (@len_sub ByteArray (fun a b => Classical.propDecidable (a = b)) _ _ (nodup_nubB a) (fun x hx => (mem_nubB b x).2 (h1 x ((mem_nubB a x).1 hx)))) (@len_sub ByteArray (fun a b => Classical.propDecidable (a = b)) _ _ (nodup_nubB b) (fun x hx => (mem_nubB a x).2 (h2 x ((mem_nubB b x).1 hx))))
/-- What a name reads as, as a key. -/
def keyL (s : ByteArray) : Lit := .string s.data.toList
theorem keyL_inj {a b : ByteArray} (h : keyL a = keyL b) : a = b := by
 unfold keyL at h
 injection h with h
 cases a; cases b
 simpa using h
/-- The first places of these names, as a map. -/
structure FstD (D : DataW Unit) (ks : List ByteArray) : Prop where
 td : Tidy D
 sz : Maps.size D = (nubB ks).length
 yes : ∀ nm : ByteArray, nm ∈ ks → Maps.has D (keyL nm) = true ∧ ∃ i : Nat, IsFst ks nm (i : Int) ∧ D.atKey (keyL nm) (.lit (.int .i64 0)) = .lit (.int .i64 (i : Int))
 no : ∀ nm : ByteArray, nm ∉ ks → Maps.has D (keyL nm) = false
theorem fstD_nil : FstD (.map []) [] := ⟨tidy_empty, rfl, fun nm h => by simp at h, fun nm _ => rfl⟩
theorem fst_snoc {ks : List ByteArray} {nm x : ByteArray} {i : Nat} (h : IsFst ks nm (i : Int)) : IsFst (ks ++ [x]) nm (i : Int) := by
 rcases h with ⟨h, _⟩ | ⟨j, h1, h2, h3⟩
 ·omega
 ·have hj := (List.getElem?_eq_some_iff.1 h2).1
  refine .inr ⟨j, h1, by rw [List.getElem?_append_left hj]; exact h2, fun q hq => by rw [List.getElem?_append_left (by omega)]; exact h3 q hq⟩
theorem fst_new {ks : List ByteArray} {nm : ByteArray} (h : nm ∉ ks) : IsFst (ks ++ [nm]) nm ((ks.length : Nat) : Int) :=
 .inr ⟨ks.length, rfl, by simp, fun q hq => by
  rw [List.getElem?_append_left hq]
  exact fun e => h (List.mem_of_getElem? e)⟩
theorem FstD.skip {D : DataW Unit} {ks : List ByteArray} (h : FstD D ks) {x : ByteArray} (hx : Maps.has D (keyL x) = true) : FstD D (ks ++ [x]) := by
 have hm : x ∈ ks := by
  by_cases hm : x ∈ ks
  ·exact hm
  ·rw [h.no x hm] at hx; cases hx
 refine ⟨h.td, ?_, fun nm hn => ?_, fun nm hn => h.no nm (fun h1 => hn (by simp [h1]))⟩
 ·rw [nubB_snoc, addB, if_pos ((mem_nubB ks x).2 hm)]
  exact h.sz
 ·have hn' : nm ∈ ks := by
   rcases List.mem_append.1 hn with h1 | h1
   ·exact h1
   ·rw [List.mem_singleton.1 h1]; exact hm
  obtain ⟨h1, i, h2, h3⟩ := h.yes nm hn'
  exact ⟨h1, i, fst_snoc h2, h3⟩
theorem FstD.put {D : DataW Unit} {ks : List ByteArray} (h : FstD D ks) {x : ByteArray} (hx : Maps.has D (keyL x) = false) : FstD (D.put (keyL x) (.lit (.int .i64 ((ks.length : Nat) : Int)))) (ks ++ [x]) := by
 have hm : x ∉ ks := fun hm => by rw [(h.yes x hm).1] at hx; cases hx
 have hkl : WideAt.IsKeyLit (keyL x) := trivial
 refine ⟨h.td.put hkl _, ?_, fun nm hn => ?_, fun nm hn => ?_⟩
 ·rw [nubB_snoc, addB, if_neg (fun h1 => hm ((mem_nubB ks x).1 h1)), Maps.size_put h.td, hx, List.length_append, h.sz]
  rfl
 ·by_cases e : nm = x
  ·subst e
   exact ⟨Maps.has_put_same h.td.isMap hkl _, ks.length, fst_new hm, Maps.atKey_put_same h.td.isMap hkl _ _⟩
  ·have hn' : nm ∈ ks := by
    rcases List.mem_append.1 hn with h1 | h1
    ·exact h1
    ·exact absurd (List.mem_singleton.1 h1) e
   have hne : keyL nm ≠ keyL x := fun h1 => e (keyL_inj h1)
   obtain ⟨h1, i, h2, h3⟩ := h.yes nm hn'
   exact ⟨by rw [Maps.has_put_other hne]; exact h1, i, fst_snoc h2, by rw [Maps.atKey_put_other hne]; exact h3⟩
 ·have hne : keyL nm ≠ keyL x := fun h1 => hn (by rw [keyL_inj h1]; simp)
  rw [Maps.has_put_other hne]
  exact h.no nm (fun h1 => hn (by simp [h1]))
/-- Such a map in memory. -/
def FstM (w : World) (B n : Nat) (ks : List ByteArray) : Prop := ∃ D : DataW Unit, w.ownsMap Tryd.prog 9 (plainElem Tryd.prog 3) B n D ∧ FstD D ks
theorem FstM.lt {w : World} {B n : Nat} {ks : List ByteArray} (h : FstM w B n ks) : B < w.heap.size := by
 obtain ⟨D, h, _⟩ := h
 exact h.lt
theorem FstM.kept {w w' : World} {B n : Nat} {ks : List ByteArray} (h : FstM w B n ks) (hb : Below w.heap.size w w') : FstM w' B n ks := by
 have hl := h.lt
 obtain ⟨D, ⟨es, clock, h1, h2⟩, h3⟩ := h
 exact ⟨D, ⟨es, clock, (hb.block B hl).trans h1, h2⟩, h3⟩
theorem lawS : Keyed Tryd.prog 9 := string_keyed Tryd.underlying9
theorem zeroI (w : World) : (zeroValue 3).run Tryd.prog w = .ok (.int .i64 0) w := by kernel_rfl
theorem keyS {s : ByteArray} (h : s.size ≤ capT) : keyOf Tryd.prog 9 (.string s) = some (keyL s) := Go.WideMaps.keyOf_string_mk Tryd.underlying9 (by unfold capT at h; unfold maxLen; omega)
theorem mapHint (n : Nat) (w : World) : (Instr.makeMap 88 (some (.int .i64 (n : Int)))).run Tryd.prog w = .ok (.map (some w.heap.size)) (w.alloc (.map #[] 0)) := by
 simp [Instr.makeMap, asInt, asIntOf]
set_option maxRecDepth 10000 in
set_option maxHeartbeats 4000000 in
theorem firsts_calls (ks : List ByteArray) (ko : Option Addr) (N kc : Nat) (hN : Hid (ks.length = N)) (hNc : N ≤ capT) (w : World) (hk : Hid (KeysAt w ko ks)) :
  Calls Tryd.prog 60 #[.slice ko N kc] w fun e w' => e = .returned (.map (some w.heap.size)) ∧ FstM w' w.heap.size N ks ∧ Below w.heap.size w w' := by
 have hNi : (N : Int) ≤ 140737488351232 := by unfold capT at hNc; omega
 have hmm := mapHint N
 have hNc' := hid hNc
 clear hNc
 go_enter Tryd.func60, Tryd.ntmps60
 go_wp2
 go_loopw [13] (fun ii wr => ∃ i : Nat, i ≤ N ∧ ii = .int .i64 (i : Int) ∧ Hid (FstM wr w.heap.size i (ks.take i)) ∧ Hid (Below w.heap.size w wr)) (fun ii _ => N - (intOf ii).toNat)
 case atStart => exact ⟨0, Nat.zero_le _, rfl, hid ⟨_, World.ownsMap_made _ _ _ _, by rw [List.take_zero]; exact fstD_nil⟩, hid ((Below.refl _ _).alloc (Nat.le_refl _) _)⟩
 case round =>
  clear hmm
  obtain ⟨i, hi, rfl, hI, hb⟩ := hrel
  by_cases hlt : i < N
  ·have hli : (i : Int) < (N : Int) := by omega
   obtain ⟨s, hu1⟩ : ∃ u, Hid (ks[i]? = some u) := ⟨_, List.getElem?_eq_getElem (by rw [hN.out]; exact hlt)⟩
   obtain ⟨hs, g, o, rfl, hg, hc⟩ := (hk.out.kept hb.out) i s hu1.out
   obtain ⟨D, hown, hD⟩ := hI.out
   have hown' := hid hown
   have hD' := hid hD
   have hkey := hid (keyS hs)
   have htk : Hid (ks.take (i + 1) = ks.take i ++ [s]) := by show _ = _; rw [List.take_add_one, hu1.out]; rfl
   have hln : Hid ((ks.take i).length = i) := by show _ = _; rw [List.length_take]; have := hN.out; omega
   have ad1 : (⟨g, o, none⟩ : Addr).add i = ⟨g, o + i, none⟩ := by by_cases h : i = 0 <;> simp [Addr.add, h]
   clear hown hD hs hI hg
   obtain ⟨H, hH⟩ : ∃ H, Maps.has D (keyL s) = H := ⟨_, rfl⟩
   cases H with
   | true =>
    go_wp2_with (first | (at_lookup; refine wpList_lookup_own_ok_int _ rfl _ _ 88 rfl 9 3 .i64 lawS Tryd.underlying88 Tryd.underlying3 (zeroI _) w.heap.size i D rfl hown'.out _ _ rfl hkey.out ?_; intro c hat hwc; clear hat hwc) | fail)
    go_roundw
    case rel => exact ⟨i + 1, by omega, by simp, hid ⟨D, hown'.out.mono (Nat.le_succ _), by rw [htk.out]; exact hD'.out.skip hH⟩, hb⟩
    case measure => simp [intOf]; omega
   | false =>
    have hput := hid (hD'.out.put hH)
    rw [hln.out, ← htk.out] at hput
    go_wp2_with (first | (at_lookup; refine wpList_lookup_own_ok_int _ rfl _ _ 88 rfl 9 3 .i64 lawS Tryd.underlying88 Tryd.underlying3 (zeroI _) w.heap.size i D rfl hown'.out _ _ rfl hkey.out ?_; intro c hat hwc; clear hat hwc) | (at_mapUpdate; refine wpList_mapUpdate_own _ rfl _ _ _ 88 rfl 9 3 lawS Tryd.underlying88 _ w.heap.size i D rfl hown'.out (by have := hNc'.out; unfold capT at this; unfold maxLen; omega) _ _ _ rfl rfl hkey.out _ [] (plainElem_int Tryd.underlying3 (WalkArith.wf_i64 (by omega))) ?_) | fail)
    intro w1 hown1 hgrow1
    have R1 := hid (show FstM w1 w.heap.size (i + 1) (ks.take (i + 1)) from ⟨_, hown1, hput.out⟩)
    have R2 := hid (hb.out.grown hgrow1 hb.out.size (fun j hj => by cases hj; exact Nat.le_refl _))
    clear hown1 hgrow1 hown' hput
    go_wp2
    go_roundw
    case rel => exact ⟨i + 1, by omega, by simp, R1, R2⟩
    case measure => simp [intOf]; omega
  ·obtain rfl : i = N := by omega
   have hfin : Hid (FstM wr w.heap.size i ks) := by
    have := hI.out
    rwa [List.take_of_length_le (by rw [hN.out]; exact Nat.le_refl _)] at this
   go_wp2
   go_ret
   exact ⟨rfl, hfin.out, hb.out⟩
end Go.Proofs.YtjlcliicdclooaaDoor
