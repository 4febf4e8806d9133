/-
 slices.Clone of a list of paths; trie.Paths.
-/
import Derived.Test.YtbabdhepnjacdaaDoorTiQ
import Derived.Test.YtbabdhepnjacdaaDoorTiJ
import Derived.Test.YtbabdhepnjacdaaDoorTiH
namespace Go.Proofs.YtbabdhepnjacdaaDoor
open Go.RowKit Go.Shelf
/-- A list of paths in memory. -/
def PthsAt (w : World) (ao : Option Addr) (L : List (List Stp)) : Prop := ∀ (i : Nat) (p : List Stp), L[i]? = some p → ∃ b off so sc, ao = some ⟨b, off, none⟩ ∧ b < w.heap.size ∧ w.cell? ⟨b, off + i, none⟩ = some (.slice so p.length sc) ∧ StepsAt w so p
theorem PthsAt.kept {w w' : World} {ao : Option Addr} {L : List (List Stp)} (h : PthsAt w ao L) (hb : Below w.heap.size w w') : PthsAt w' ao L := fun i p hi => by
 obtain ⟨b, off, so, sc, h1, h2, h3, h4⟩ := h i p hi
 exact ⟨b, off, so, sc, h1, Nat.lt_of_lt_of_le h2 hb.size, (hb.cell (p := ⟨b, off + i, none⟩) h2).trans h3, h4.kept hb⟩
theorem infoRw : (Tryd.prog.info? 45).map (fun i => (i.zero, i.size, i.bytes)) = some (some (.slice none 0 0), 1, 24) := by kernel_rfl
theorem StepsAt.on {w w' : World} {g o : Nat} {p : List Stp} (h : StepsAt w (some ⟨g, o, none⟩) p) (hs : w.heap.size ≤ w'.heap.size) (he : w'.heap[g]? = w.heap[g]?) : StepsAt w' (some ⟨g, o, none⟩) p := fun i s hi => by
 obtain ⟨h0, b, off, e, h1, h2⟩ := h i s hi
 cases e
 exact ⟨h0, g, o, rfl, Nat.lt_of_lt_of_le h1 hs, fun j y hj => (World.cell?_of_block (w := w) he).trans (h2 j y hj)⟩
theorem eq_nil_sl (g o n c : Nat) (u : World) : (binOp .eql 22 (.slice (some ⟨g, o, none⟩) n c) (.slice none 0 0)).run Tryd.prog u = .ok (.bool false) u := by kernel_rfl
set_option maxRecDepth 10000 in
set_option maxHeartbeats 4000000 in
theorem cloneP_calls (b C cap : Nat) (hC : C ≤ 256) (news : List Value) (hl : Hid (news.length = C)) (w : World) (hn : Hid (∀ j u, news[j]? = some u → w.cell? ⟨b, j, none⟩ = some u)) (hb : b < w.heap.size) (h1 : Hid (∀ u ∈ news, u.oneCell' = true)) :
  Calls Tryd.prog 38 #[.slice (some ⟨b, 0, none⟩) C cap] w fun e w' => (∃ so sc, e = .returned (.slice so C sc) ∧ ∀ j u, news[j]? = some u → ∃ g, so = some ⟨g, 0, none⟩ ∧ g < w'.heap.size ∧ w'.cell? ⟨g, j, none⟩ = some u) ∧ Below w.heap.size w w' := by
 have hen := fun u => eq_nil_sl b 0 C cap u
 go_enter Tryd.func38, Tryd.ntmps38
 obtain ⟨W1, hW1⟩ : ∃ W, w.alloc (.cells #[] 45) = W := ⟨_, rfl⟩
 have b1 : Below w.heap.size w W1 := by rw [← hW1]; exact (Below.refl _ w).alloc (Nat.le_refl _) _
 have A1 : At W1 w.heap.size #[] 45 := by rw [← hW1]; exact At.new _ _ _
 have hown : W1.ownsRow w.heap.size 45 1 (.slice (some ⟨w.heap.size, 0, none⟩) 0 0) 0 [] := ⟨rfl, .inr ⟨w.heap.size, 0, #[], rfl, Nat.le_refl _, A1, Nat.le_refl _, Nat.zero_le _, rfl, rfl⟩⟩
 obtain ⟨i0, hi, hz0, hz1, hz2⟩ := info_partsV infoRw
 have hap := fun ty => appendV (P := Tryd.prog) (ty := ty) Tryd.underlying22 hi hz0 hz1 hz2 rfl (by decide) hown ⟨b, 0, none⟩ C cap news (by rw [hl.out, Nat.mul_one]) (fun j u hj => by
  have e : (⟨b, 0, none⟩ : Addr).add j = ⟨b, j, none⟩ := by by_cases h : j = 0 <;> simp [Addr.add, h]
  rw [e, b1.cell (p := ⟨b, j, none⟩) hb]
  exact hn.out j u hj) h1.out (by unfold maxLen; omega) (by omega) b1.size
 obtain ⟨v', W2, hr, hown2, hgr⟩ := hap 0
 have hg : W1.grownBy W2 (some w.heap.size) := by
  rcases hgr with ⟨g, c, e, -, hg⟩ | ⟨-, hg⟩
  ·cases e; exact hg
  ·exact grown_weaken hg
 have B2 := hid (b1.grown hg b1.size (fun k hk => by cases hk; exact Nat.le_refl _))
 obtain ⟨so, sc, rfl⟩ := own_shape hown2
 rw [Nat.zero_add] at hown2
 have hown3 := hid hown2
 have hr' := hid (fun ty => (append_tyZ #[22, 22] ty 0 #[.slice (some ⟨w.heap.size, 0, none⟩) 0 0, .slice (some ⟨b, 0, none⟩) C cap]) ▸ hr)
 clear b1 A1 hown hap hgr hg hown2 hr
 go_wp2_with (first | (at_builtin; refine wpList_append_run rfl _ _ 22 rfl (.slice (some ⟨w.heap.size, 0, none⟩) 0 0) (.slice (some ⟨b, 0, none⟩) C cap) _ W2 rfl rfl hr'.out ?_) | fail)
 go_ret
 refine ⟨⟨so, sc, by simp, fun j u hj => ?_⟩, B2.out⟩
 have hlt := (List.getElem?_eq_some_iff.1 hj).1
 rw [hl.out] at hlt
 rcases hown3.out.2 with ⟨e, h0⟩ | ⟨g, c2, cur, e, hb2, hg2, -⟩
 ·omega
 ·cases e
  refine ⟨g, rfl, (hown3.out.lt g rfl).2, ?_⟩
  have := hown3.out.cellAt j (by omega)
  rw [this]
  simpa using hj
end Go.Proofs.YtbabdhepnjacdaaDoor
