/-
 trie.apart: steps as the keys of a map.
-/
import Derived.Test.YtbabdhepnjacdaaDoorTiB
import Derived.Maps.OwnSet
import Derived.DeepKeys4
namespace Go.Proofs.YtbabdhepnjacdaaDoor
open Go.RowKit Go.Shelf Go.Maps Go.ChangeMaps Go.WideShapes Go.WideMaps
/-- A step that can be a key. -/
def stpK (s : Stp) : Prop := s.name.size ≤ capT ∧ i64B s.kind ∧ i64B s.place
def keyT (s : Stp) : Lit := .string (keyBytes [.int .i64 s.kind, .string s.name.data.toList, .int .i64 s.place])
theorem laidOutT : laidOutB Tryd.prog = true := by kernel_rfl
theorem rowStp : 53 < Tryd.prog.types.size := of_decide_eq_true (by kernel_rfl)
theorem keyTyStp : Tryd.prog.keyType 53 = true := by kernel_rfl
theorem keyAtT : Tryd.prog.keyTypeAt 2 53 = true := by kernel_rfl
theorem lawKT : KeyLaw Tryd.prog 53 := deep_law_laid laidOutT (m := 2) (by omega) rowStp keyAtT (by rw [Tryd.underlying53])
theorem lawT : Keyed Tryd.prog 53 := Keyed.of_law lawKT
theorem keyOfT {s : Stp} (h : stpK s) : keyOf Tryd.prog 53 (.agg #[.int .i64 s.kind, .string s.name, .int .i64 s.place]) = some (keyT s) := by
 obtain ⟨h1, h2, h3⟩ := h
 unfold i64B at h2 h3
 unfold capT at h1
 obtain ⟨n, hn⟩ : ∃ n, Tryd.prog.types.size = n + 1 := ⟨Tryd.prog.types.size - 1, by have := rowStp; omega⟩
 have hz : Tryd.prog.cellsOf 53 = 3 := cellsSp
 have hk := keyTyStp
 have w1 : (Lit.int .i64 s.kind).wf = true := WalkArith.wf_i64 (by omega)
 have w2 : (Lit.int .i64 s.place).wf = true := WalkArith.wf_i64 (by omega)
 have hl : s.name.size ≤ maxLen := by unfold maxLen; omega
 unfold keyOf
 rw [Tryd.underlying53]
 simp only [hk]
 have hf : (Value.agg #[.int .i64 s.kind, .string s.name, .int .i64 s.place]).formed Tryd.prog 53 = true := by
  simp [Value.formed, Tryd.underlying53, hz]
 have hkl : Tryd.prog.keyLits (Tryd.prog.types.size + 1) 53 [.int .i64 s.kind, .string s.name, .int .i64 s.place] = some [.int .i64 s.kind, .string s.name.data.toList, .int .i64 s.place] := by
  rw [hn]
  simp [Program.keyLits, Tryd.underlying53, Tryd.underlying3, Tryd.underlying9, hz, cellsSi, cellsSs, w1, w2, hl]
 rw [hf]
 simp only [Bool.and_self, if_true]
 show (Tryd.prog.keyLits _ _ [.int .i64 s.kind, .string s.name, .int .i64 s.place]).map _ = _
 rw [hkl]
 rfl
theorem keyT_inj {s u : Stp} (hs : stpK s) (hu : stpK u) (h : keyT s = keyT u) : s = u := by
 have := lawT.inj (keyOfT hs) (by rw [h]; exact keyOfT hu)
 obtain ⟨k, n, p⟩ := s
 obtain ⟨k', n', p'⟩ := u
 simp at this
 obtain ⟨rfl, rfl, rfl⟩ := this
 rfl
/-- A set of steps in memory. -/
def SetP (w : World) (B n : Nat) (p : Stp → Prop) : Prop := ∃ D : DataW Unit, w.ownsMap Tryd.prog 53 unitElem B n D ∧ Tidy D ∧ ∀ s, stpK s → (Maps.has D (keyT s) = true ↔ p s)
theorem SetP.lt {w : World} {B n : Nat} {p : Stp → Prop} (h : SetP w B n p) : B < w.heap.size := by
 obtain ⟨D, h, _⟩ := h
 exact h.lt
theorem SetP.kept {w w' : World} {B n : Nat} {p : Stp → Prop} (h : SetP w B n p) (hb : Below w.heap.size w w') : SetP w' B n p := by
 have hl := h.lt
 obtain ⟨D, ⟨es, clock, h1, h2⟩, h3⟩ := h
 exact ⟨D, ⟨es, clock, (hb.block B hl).trans h1, h2⟩, h3⟩
theorem zeroUT (w : World) : (zeroValue 88).run Tryd.prog w = .ok (.agg #[]) w := by kernel_rfl
theorem mapHintT (n : Nat) (w : World) : (Instr.makeMap 87 (some (.int .i64 (n : Int)))).run Tryd.prog w = .ok (.map (some w.heap.size)) (w.alloc (.map #[] 0)) := by
 simp [Instr.makeMap, asInt, asIntOf]
set_option maxRecDepth 10000 in
set_option maxHeartbeats 4000000 in
theorem apart23_calls (ss : List Stp) (ao : Option Addr) (N cap : Nat) (hN : Hid (ss.length = N)) (hNi : N ≤ 140737488351232) (hB : Hid (stpB ss)) (w : World) (hk : Hid (StepsAt w ao ss)) :
  Calls Tryd.prog 39 #[.slice ao N cap] w fun e w' => e = .returned (.bool (decide ss.Nodup)) ∧ Below w.heap.size w w' := by
 have hNi' : (N : Int) ≤ 140737488351232 := by omega
 have hmm := mapHintT N
 go_enter Tryd.func39, Tryd.ntmps39
 go_wp2
 go_loopw [13] (fun ii wr => ∃ i : Nat, i ≤ N ∧ ii = .int .i64 (i : Int) ∧ Hid (SetP wr w.heap.size i (fun s => s ∈ ss.take i)) ∧ Hid ((ss.take i).Nodup) ∧ Hid (Below w.heap.size w wr)) (fun ii _ => N - (intOf ii).toNat)
 case atStart => exact ⟨0, Nat.zero_le _, rfl, hid ⟨_, World.ownsMap_made _ _ _ _, tidy_empty, fun s _ => ⟨fun h => (by cases h), fun h => by simp at h⟩⟩, hid (by simp), hid ((Below.refl _ _).alloc (Nat.le_refl _) _)⟩
 case round =>
  clear hmm
  obtain ⟨i, hi, rfl, hI, hnd, hb⟩ := hrel
  by_cases hlt : i < N
  ·have hli : (i : Int) < (N : Int) := by omega
   obtain ⟨s, hs⟩ : ∃ s, Hid (ss[i]? = some s) := ⟨_, List.getElem?_eq_getElem (by rw [hN.out]; exact hlt)⟩
   have hk2 := hk.out.kept hb.out
   have hsz := (hk2 i s hs.out).1
   obtain ⟨g, o, rfl, hg, hrg⟩ := steps_at hk2 hs.out
   have hbd := hB.out s (List.mem_of_getElem? hs.out)
   have hkey := hid (keyOfT (s := s) ⟨hsz, hbd.1, hbd.2⟩)
   have hsk : Hid (stpK s) := hid ⟨hsz, hbd.1, hbd.2⟩
   have htk := hid (show ss.take (i + 1) = ss.take i ++ [s] by rw [List.take_add_one, hs.out]; rfl)
   have hrg' := hid hrg
   obtain ⟨q, hq⟩ : ∃ q, Hid (wr.heap.size = q) := ⟨_, rfl⟩
   obtain ⟨W1, hW1⟩ : ∃ W, wr.alloc (.cells #[.int .i64 s.kind, .string s.name, .int .i64 s.place] 53) = W := ⟨_, rfl⟩
   have b1 : Below wr.heap.size wr W1 := by rw [← hW1]; exact (Below.refl _ wr).alloc (Nat.le_refl _) _
   have A1 : At W1 q #[.int .i64 s.kind, .string s.name, .int .i64 s.place] 53 := by rw [← hW1, ← hq.out]; exact At.new _ _ _
   have B1 := hid (hb.out.trans (b1.mono hb.out.size))
   have M1 := hid (hI.out.kept b1)
   obtain ⟨W2, hW2⟩ : ∃ W, W1.alloc (.cells #[] 88) = W := ⟨_, rfl⟩
   have b2 : Below W1.heap.size W1 W2 := by rw [← hW2]; exact (Below.refl _ W1).alloc (Nat.le_refl _) _
   have A2 : At W2 q #[.int .i64 s.kind, .string s.name, .int .i64 s.place] 53 := A1.keptAll b2
   have B2 := hid (B1.out.trans (b2.mono B1.out.size))
   have M2 := hid (M1.out.kept b2)
   have c0 := A1.cell 0
   have c1 := A1.cell 1
   have c2 := A1.cell 2
   have d0 := A2.cell 0
   have d1 := A2.cell 1
   have d2 := A2.cell 2
   simp only [List.getElem?_toArray, List.getElem?_cons_zero, List.getElem?_cons_succ] at c0 c1 c2 d0 d1 d2
   rw [← hq.out] at c0 c1 c2 d0 d1 d2
   have z1 : (Tryd.prog.info? 53).map (·.size) = some ([.int .i64 s.kind, .string s.name, .int .i64 s.place] : List Value).length := sizeStp
   have hlt' := hid (show i + 1 ≤ N by omega)
   obtain ⟨D, hown, htd, hhas⟩ := M1.out
   obtain ⟨D2, hown2, htd2, hhas2⟩ := M2.out
   have hown' := hid hown
   have hown2' := hid hown2
   have hh := hid (hhas s hsk.out)
   have htd2' := hid htd2
   have hhas2' := hid hhas2
   clear hown htd hhas hown2 htd2 hhas2 hk2 hsz hbd hg hrg A1 A2 b1 b2 hI M1
   obtain ⟨k, nm, pl⟩ := s
   dsimp only at *
   by_cases hm : (⟨k, nm, pl⟩ : Stp) ∈ ss.take i
   ·have hH : Maps.has D (keyT ⟨k, nm, pl⟩) = true := hh.out.2 hm
    have hfin := hid (show decide ss.Nodup = false from decide_eq_false fun h => by
     have h2 : (ss.take (i + 1)).Nodup := h.sublist (List.take_sublist _ _)
     rw [htk.out] at h2
     have h3 := (List.nodup_append.1 h2).2.2 _ hm _ (List.mem_singleton.2 rfl)
     exact h3 rfl)
    clear hm hh hs htk M2 hown2' htd2' hhas2' d0 d1 d2
    go_wp2_with (first | refine wpList_load_want 53 _ g (o + i * 3) [.int .i64 k, .string nm, .int .i64 pl] _ hrg'.out Tryd.underlying53 z1 rfl rfl rfl (by rfl) ?_ | (at_lookup; refine wpList_lookup_own_unit _ rfl _ _ 87 rfl 53 88 lawT Tryd.underlying87 (zeroUT _) w.heap.size i D rfl hown'.out _ _ rfl hkey.out ?_) | fail)
    go_ret
    exact ⟨by rw [hfin.out]; rfl, B2.out⟩
   ·have hH : Maps.has D (keyT ⟨k, nm, pl⟩) = false := by
     cases h : Maps.has D (keyT ⟨k, nm, pl⟩) with
     | false => rfl
     | true => exact absurd (hh.out.1 h) hm
    have hm' := hid hm
    have hs' := hid hs.out
    clear hm hh hs
    go_wp2_with (first | refine wpList_load_want 53 _ g (o + i * 3) [.int .i64 k, .string nm, .int .i64 pl] _ hrg'.out Tryd.underlying53 z1 rfl rfl rfl (by rfl) ?_ | (at_lookup; refine wpList_lookup_own_unit _ rfl _ _ 87 rfl 53 88 lawT Tryd.underlying87 (zeroUT _) w.heap.size i D rfl hown'.out _ _ rfl hkey.out ?_) | (at_mapUpdate; refine wpList_mapUpdate_own _ rfl _ _ _ 87 rfl 53 88 lawT Tryd.underlying87 unitElem w.heap.size i D2 rfl hown2'.out (by have := hlt'.out; unfold maxLen; omega) _ _ _ rfl rfl hkey.out (.agg []) [] unitElem_mk ?_) | fail)
    intro w3 hown3 hgrow3
    have B3 := hid (B2.out.grown hgrow3 B2.out.size (fun j hj => by cases hj; exact Nat.le_refl _))
    have M3 : Hid (SetP w3 w.heap.size (i + 1) (fun s => s ∈ ss.take (i + 1))) := hid ⟨_, hown3, htd2'.out.put (by trivial) _, fun x hx => by
     rw [htk.out]
     show _ ↔ x ∈ ss.take i ++ [(⟨k, nm, pl⟩ : Stp)]
     rw [List.mem_append, List.mem_singleton]
     by_cases e : x = ⟨k, nm, pl⟩
     ·subst e
      exact ⟨fun _ => .inr rfl, fun _ => Maps.has_put_same htd2'.out.isMap (by trivial) _⟩
     ·have hne : keyT x ≠ keyT ⟨k, nm, pl⟩ := fun h1 => e (keyT_inj hx hsk.out h1)
      rw [Maps.has_put_other hne]
      refine (hhas2'.out x hx).trans ⟨.inl, fun h => h.resolve_right e⟩⟩
    have N3 := hid (show (ss.take (i + 1)).Nodup by
     rw [htk.out, List.nodup_append]
     refine ⟨hnd.out, by simp, fun a ha b hb' e => ?_⟩
     have := List.mem_singleton.1 hb'
     subst this
     subst e
     exact hm'.out ha)
    clear hown3 hgrow3 hown' hown2' hhas2' htd2' c0 c1 c2 d0 d1 d2 M2 hW1 hW2 hrg' hkey hH
    go_wp2
    go_roundw
    case rel => exact ⟨i + 1, hlt'.out, by simp, M3, N3, B3⟩
    case measure => simp [intOf]; have := hlt'.out; omega
  ·obtain rfl : i = N := by omega
   have hfin : Hid (decide ss.Nodup = true) := hid (by have := hnd.out; rw [List.take_of_length_le (by rw [hN.out]; exact Nat.le_refl _)] at this; exact decide_eq_true this)
   go_wp2
   go_ret
   exact ⟨by rw [hfin.out]; rfl, hb.out⟩
end Go.Proofs.YtbabdhepnjacdaaDoor
