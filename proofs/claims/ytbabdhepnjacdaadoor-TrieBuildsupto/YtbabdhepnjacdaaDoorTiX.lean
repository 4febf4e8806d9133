/-
 trie's growth: grown.
-/
import Derived.Test.YtbabdhepnjacdaaDoorTiW
namespace Go.Proofs.YtbabdhepnjacdaaDoor
open Go.RowKit Go.Shelf
theorem infoPt : (Tryd.prog.info? 59).map (fun i => (i.zero, i.size, i.bytes)) = some (some (.pointer none), 1, 8) := by kernel_rfl
theorem app_gen {t e : TypeId} {z bys B n : Nat} {z0 v : Value} {xs : List Value} {W : World} (ht : Tryd.prog.underlying t = some (.slice e)) (hinfo : (Tryd.prog.info? e).map (fun i => (i.zero, i.size, i.bytes)) = some (some z0, z, bys)) (hz : z0.cells.size = z) (h0 : 0 < z) (h1 : W.ownsRow B e z v n xs)
  (ad : Addr) (c : Nat) (news : List Value) (hl : news.length = z) (hC : ∀ j u, news[j]? = some u → W.cell? (ad.add j) = some u) (hone : ∀ u ∈ news, u.oneCell' = true) (hn : n < 1099511627776) (hby : bys ≤ 64) (hB : B ≤ W.heap.size) :
  ∃ v' W', (∀ ty, (Builtin.append_ #[t, t] ty #[v, .slice (some ad) 1 c]).run Tryd.prog W = .ok v' W') ∧ W'.ownsRow B e z v' (n + 1) (xs ++ news) ∧ W.grownBy W' v.ownBlock ∧ (v'.ownBlock = v.ownBlock ∨ ∀ g, v'.ownBlock = some g → W.heap.size ≤ g) := by
 obtain ⟨i0, hi, hz0, hz1, hz2⟩ := info_partsV hinfo
 obtain ⟨v', W', hr, r1, r2⟩ := appendV (P := Tryd.prog) (ty := 0) ht hi hz0 hz1 hz2 hz h0 h1 ad 1 c news (by rw [hl, Nat.one_mul]) hC hone (by unfold maxLen; omega) (by
  have : (n + 1) * bys ≤ 1099511627776 * 64 := Nat.mul_le_mul (by omega) hby
  omega) hB
 refine ⟨v', W', fun ty => by rw [append_tyZ _ ty 0]; exact hr, r1, ?_, ?_⟩
 ·rcases r2 with ⟨g, cap, rfl, rfl, hg⟩ | ⟨-, hg⟩
  ·exact hg
  ·exact grown_weaken hg
 ·rcases r2 with ⟨g, cap, rfl, rfl, hg⟩ | ⟨hf, -⟩
  ·exact .inl rfl
  ·exact .inr hf
set_option maxRecDepth 10000 in
set_option maxHeartbeats 4000000 in
theorem grown23_calls (B gb K : Nat) (ln : Nat → Nat → Nat) (vl : Nat → Nat → List Value) (nb : Nat → Nat) (v : Value) (vv : Nat → Nat → Value) (num : Nat → Int) (hK : K ≤ 4294967296) (w : World) (h : Hid (GrX B w gb K ln vl nb v vv num)) (hBw : B ≤ w.heap.size) (hln : Hid (∀ k, k < 3 → ln K k = 0)) (hvl : Hid (∀ k, k < 3 → vl K k = [])) :
  Calls Tryd.prog 30 #[.pointer (some ⟨gb, 0, none⟩)] w fun e w' => e = .returned (.pointer (some ⟨w.heap.size, 0, none⟩)) ∧ (∃ v', GrX B w' gb (K + 1) ln vl (fun i => if i = K then w.heap.size else nb i) v' (fun i k => if i = K then .slice none 0 0 else vv i k) (fun i => if i = K then 0 else num i)) ∧ (Below B w w' ∧ w.heap.size < w'.heap.size) ∧ ∀ (c : Nat) (cs : Array Value) (ty : TypeId), At w c cs ty → ty ≠ 59 → ty ≠ 58 → At w' c cs ty := by
 obtain ⟨b, hb⟩ : ∃ b, w.heap.size = b := ⟨_, rfl⟩
 obtain ⟨W1, hW1⟩ : ∃ W, w.alloc (.cells #[.slice none 0 0, .slice none 0 0, .slice none 0 0, .int .i64 0] 63) = W := ⟨_, rfl⟩
 have b1 : Below w.heap.size w W1 := by rw [← hW1]; exact (Below.refl _ w).alloc (Nat.le_refl _) _
 have A1 : At W1 b #[.slice none 0 0, .slice none 0 0, .slice none 0 0, .int .i64 0] 63 := by rw [← hW1, ← hb]; exact At.new _ _ _
 obtain ⟨c, hc⟩ : ∃ c, W1.heap.size = c := ⟨_, rfl⟩
 obtain ⟨W2, hW2⟩ : ∃ W, W1.alloc (.cells #[.pointer (some ⟨b, 0, none⟩)] 59) = W := ⟨_, rfl⟩
 have b2 : Below W1.heap.size W1 W2 := by rw [← hW2]; exact (Below.refl _ W1).alloc (Nat.le_refl _) _
 have A2 : At W2 c #[.pointer (some ⟨b, 0, none⟩)] 59 := by rw [← hW2, ← hc]; exact At.new _ _ _
 have hb12 : Below w.heap.size w W2 := b1.trans (b2.mono b1.size)
 have g2 := h.out.kept hb12
 obtain ⟨v', W3, hr, hown, hgr, hv⟩ := app_gen (B := B) Tryd.underlying56 infoPt rfl (by decide) g2.row ⟨c, 0, none⟩ 1 [.pointer (some ⟨b, 0, none⟩)] rfl (fun j u hj => by
  match j, hj with
  | 0, hj => simp at hj; subst hj; simpa [Addr.add] using A2.cell 0
  | j + 1, hj => simp at hj) (by simp [Value.oneCell']) (by omega) (by decide) (Nat.le_trans hBw hb12.size)
 obtain ⟨so, sc, rfl⟩ := own_shape hown
 have hfin := hid (h.out.add (b := b) (by rw [hb]; exact Nat.le_refl _) hb12 (A1.keptAll b2) hBw hown hgr hv hln.out hvl.out)
 have box3 := at_grown g2.box g2.row hgr (by decide)
 have d0 := (h.out.kept b1).box.cell 0
 simp only [List.getElem?_toArray, List.getElem?_cons_zero] at d0
 have e0 := box3.cell 0
 simp only [List.getElem?_toArray, List.getElem?_cons_zero] at e0
 have f0 := box3.frozen 0
 have hr' := hid hr
 have hsz := hid (show b < W3.heap.size from by
  have h1 := (A1.keptAll b2).lt
  have := hgr.size
  omega)
 have Bf := hid (show Below B w (W3.setCell ⟨gb, 0, none⟩ (.slice so (K + 1) sc)) from by
  have h1 : Below B w W2 := hb12.mono hBw
  have h2 : Below B w W3 := h1.grown hgr (Nat.le_trans hBw hb12.size) (fun k hk => (g2.row.lt k hk).1)
  exact h2.setCell (p := ⟨gb, 0, none⟩) h.out.boxB _)
 have hoth := hid (fun (c : Nat) (cs : Array Value) (ty : TypeId) (ha : At w c cs ty) (h1 : ty ≠ 59) (h2 : ty ≠ 58) => (show At (W3.setCell ⟨gb, 0, none⟩ (.slice so (K + 1) sc)) c cs ty from by
  have h3 := at_grown (ha.keptAll hb12) g2.row hgr h1
  exact h3.other (at_ne h3 box3 h2) _))
 rw [hb]
 clear b1 A1 b2 A2 hb12 g2 hr hown hgr hv box3
 go_enter Tryd.func30, Tryd.ntmps30
 go_wp2_with (first | (at_builtin; refine wpList_append_run rfl _ _ 56 rfl v (.slice (some ⟨c, 0, none⟩) 1 1) (.slice so (K + 1) sc) W3 rfl rfl hr'.out ?_) | fail)
 go_ret
 exact ⟨rfl, ⟨_, hfin.out⟩, ⟨Bf.out, by simpa [World.setCell] using hsz.out⟩, hoth.out⟩
end Go.Proofs.YtbabdhepnjacdaaDoor
