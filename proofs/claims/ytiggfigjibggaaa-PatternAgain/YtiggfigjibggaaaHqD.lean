/-
  Statements of layer 25: what a pattern begins with that has all that another one has.
-/
import Derived.Test.YtiggfigjibggaaaHqC
namespace Go.Proofs.Ytiggfigjibggaaa
open Go.RowKit Go.Shelf Go.Maps

theorem sortedE_one : ∀ {l l' : List Ent}, l.Perm l' → l.Pairwise ltE → l'.Pairwise ltE → l = l'
  | [], l', hp, _, _ => (List.nil_perm.1 hp).symm ▸ rfl
  | x :: l, [], hp, _, _ => by have := hp.length_eq; simp at this
  | x :: l, y :: l', hp, h1, h2 => by
    have hx : x ∈ y :: l' := hp.mem_iff.1 (List.mem_cons_self ..)
    have hy : y ∈ x :: l := hp.mem_iff.2 (List.mem_cons_self ..)
    rw [List.pairwise_cons] at h1 h2
    have e : x = y := by
      rcases List.mem_cons.1 hx with e | e
      · exact e
      · rcases List.mem_cons.1 hy with e' | e'
        · exact e'.symm
        · have h3 := h1.1 y e'
          have h4 := h2.1 x e
          unfold ltE at h3 h4
          omega
    subst e
    rw [sortedE_one (List.Perm.cons_inv hp) h1.2 h2.2]
theorem entsL_ltE {M : List Ent} (h : M.Pairwise ltE) : (entsL (M.map lrOf)).Pairwise ltE := by
  rw [List.pairwise_iff_getElem] at h ⊢
  intro i j hi hj hij
  have hi' : i < M.length := by simpa [entsL] using hi
  have hj' : j < M.length := by simpa [entsL] using hj
  have h1 := h i j hi' hj' hij
  unfold ltE at h1 ⊢
  simp only [entsL, List.getElem_mapIdx, List.getElem_map, entO, lrOf]
  omega
theorem okL_of {M L : List Ent} (hp : M.Perm L) (hok : ∀ e ∈ L, EnOk e) (hk : L.Pairwise (fun x y => ¬ (x.r = y.r ∧ x.n = y.n))) : okL (M.map lrOf) := by
  refine ⟨fun x hx => ?_, ?_⟩
  · obtain ⟨e, he, rfl⟩ := List.mem_map.1 hx
    have h1 := (hok e (hp.mem_iff.1 he)).2.2
    simp [frm, lrOf]
    omega
  · rw [List.pairwise_map]
    exact (hp.pairwise_iff (R := fun x y : Ent => ¬ (x.r = y.r ∧ x.n = y.n)) (fun {a b} hab hba => hab ⟨hba.1.symm, hba.2.symm⟩)).2 hk
theorem entsL_back (M : List Ent) : (entsL (M.map lrOf)).map lrOf = M.map lrOf := by
  apply List.ext_getElem
  · simp [entsL]
  · intro i h1 h2
    simp [entsL, entO, lrOf]
theorem entsL_len (M : List Ent) : (entsL (M.map lrOf)).length = M.length := by simp [entsL]
theorem ents_yes {M L : List Ent} (hp : M.Perm L) {e : Ent} (he : e ∈ L) : ∃ f ∈ entsL (M.map lrOf), f.r = e.r ∧ f.n = e.n ∧ f.p = e.p := by
  obtain ⟨i, hi, rfl⟩ := List.mem_iff_getElem.1 (hp.mem_iff.2 he)
  exact ⟨_, List.getElem_mem (l := entsL (M.map lrOf)) (n := i) (by rw [entsL_len]; exact hi), by simp [entsL, entO, lrOf], by simp [entsL, entO, lrOf], by simp [entsL, entO, lrOf]⟩
theorem ents_no {M L : List Ent} (hp : M.Perm L) {r n : ByteArray} (hno : ∀ e ∈ L, ¬ (e.r = r ∧ e.n = n)) : ∀ f ∈ entsL (M.map lrOf), ¬ (f.r = r ∧ f.n = n) := fun f hf h => by
  obtain ⟨x, hx, h1, h2⟩ := entsL_mem hf
  obtain ⟨e, he, rfl⟩ := List.mem_map.1 hx
  exact hno e (hp.mem_iff.1 he) ⟨by rw [← h.1, h1]; rfl, by rw [← h.2, h2]; rfl⟩
theorem LnsAt.on {w w' : World} {so : Option Addr} {l : List Lr} (h : LnsAt w so l) (hs : w.heap.size ≤ w'.heap.size) (hb : ∀ a, so = some a → w'.heap[a.block]? = w.heap[a.block]?) : LnsAt w' so l := fun j x hj => by
  obtain ⟨h0, b, off, h1, h2, h3⟩ := h j x hj
  refine ⟨h0, b, off, h1, Nat.lt_of_lt_of_le h2 hs, fun k u hk => ?_⟩
  have e : w'.heap[b]? = w.heap[b]? := hb ⟨b, off, none⟩ h1
  rw [World.cell?_of_block (w := w) (a := ⟨b, off + j * 4 + k, none⟩) e]
  exact h3 k u hk
theorem LrAt.rowJ {w : World} {g n B : Nat} {M : List Ent} (h : LrAt w g n M) (hB : B ≤ g) (hn : n ≤ 1000000) : ∃ C : Nat → Value, w.ownsRow B 25 4 (.slice (some ⟨g, 0, none⟩) n n) n (celL (n * 4) C) := by
  obtain ⟨cs, h1, h2, -⟩ := h
  refine ⟨fun j => cs.toList[j]?.getD (.int .i64 0), by rw [celL_len], .inr ⟨g, n, cs, rfl, hB, h1, Nat.le_refl _, by unfold maxLen; omega, h2, ?_⟩⟩
  apply List.ext_getElem?
  intro j
  by_cases hj : j < n * 4
  · rw [celL_get _ hj, List.getElem?_take, if_pos hj, List.getElem?_eq_getElem (by rw [Array.length_toList]; omega)]
    rfl
  · rw [List.getElem?_take, if_neg hj]
    simp [celL, hj]
/-- Three lists that lie apart. -/
theorem rows3 {w : World} {B n g1 g2 g3 : Nat} {M1 M2 M3 : List Ent} (h1 : LrAt w g1 n M1) (h2 : LrAt w g2 n M2) (h3 : LrAt w g3 n M3) (hB : B ≤ g1) (h12 : g1 < g2) (h23 : g2 < g3) (hn : n ≤ 1000000) :
    ∃ F, RowsJ 25 4 w B [⟨.slice (some ⟨g1, 0, none⟩) n n, n⟩, ⟨.slice (some ⟨g2, 0, none⟩) n n, n⟩, ⟨.slice (some ⟨g3, 0, none⟩) n n, n⟩] F := by
  obtain ⟨C1, c1⟩ := h1.rowJ hB hn
  obtain ⟨C2, c2⟩ := h2.rowJ (B := B) (by omega) hn
  obtain ⟨C3, c3⟩ := h3.rowJ (B := B) (by omega) hn
  refine ⟨fun k => match k with | 0 => C1 | 1 => C2 | _ => C3, fun k x hk => ?_, fun k l x y g hk hl hx hy => ?_⟩
  · match k, hk with
    | 0, hk => simp at hk; subst hk; exact c1
    | 1, hk => simp at hk; subst hk; exact c2
    | 2, hk => simp at hk; subst hk; exact c3
    | k + 3, hk => simp at hk
  · match k, l, hk, hl with
    | 0, 0, _, _ => rfl
    | 1, 1, _, _ => rfl
    | 2, 2, _, _ => rfl
    | 0, 1, hk, hl => simp at hk hl; subst hk; subst hl; simp [Value.ownBlock] at hx hy; omega
    | 0, 2, hk, hl => simp at hk hl; subst hk; subst hl; simp [Value.ownBlock] at hx hy; omega
    | 1, 0, hk, hl => simp at hk hl; subst hk; subst hl; simp [Value.ownBlock] at hx hy; omega
    | 1, 2, hk, hl => simp at hk hl; subst hk; subst hl; simp [Value.ownBlock] at hx hy; omega
    | 2, 0, hk, hl => simp at hk hl; subst hk; subst hl; simp [Value.ownBlock] at hx hy; omega
    | 2, 1, hk, hl => simp at hk hl; subst hk; subst hl; simp [Value.ownBlock] at hx hy; omega
    | k + 3, _, hk, _ => simp at hk
    | _, l + 3, _, hl => simp at hl
/-- What ApartLearnts of three lists leaves. -/
def ApL (B g1 g2 g3 : Nat) (w : World) (e : Ending) (w' : World) : Prop := e = .returned (.bool true) ∧ Hid (Below B w w') ∧ Hid (∀ b, b < w.heap.size → b ≠ g1 → b ≠ g2 → b ≠ g3 → w'.heap[b]? = w.heap[b]?)
theorem apart3_calls {w : World} {B n G g1 g2 g3 : Nat} {M1 M2 M3 : List Ent} (h1 : Hid (LrAt w g1 n M1)) (h2 : Hid (LrAt w g2 n M2)) (h3 : Hid (LrAt w g3 n M3)) (hB : B ≤ g1) (h12 : g1 < g2) (h23 : g2 < g3) (h34 : g3 < G) (hn : n ≤ 1000000) (hG : Hid (At w G #[.slice (some ⟨g1, 0, none⟩) n n, .slice (some ⟨g2, 0, none⟩) n n, .slice (some ⟨g3, 0, none⟩) n n] 22)) :
    Calls Try.prog 21 #[.slice (some ⟨G, 0, none⟩) 3 3] w fun e w' => ApL B g1 g2 g3 w e w' := by
  obtain ⟨F, hF⟩ := rows3 h1.out h2.out h3.out hB h12 h23 hn
  have hlt := h3.out.lt
  refine (apartL_calls w G 3 3 B _ F _ _ rfl (by decide) (fun x hx => ?_) (by omega) hG.out (fun k x hk => ?_) (fun k x hk => ?_) hF).mono ?_
  · simp at hx
    rcases hx with rfl | rfl | rfl <;> exact hn
  · match k, hk with
    | 0, hk => simp at hk; subst hk; simp [Value.ownBlock]; omega
    | 1, hk => simp at hk; subst hk; simp [Value.ownBlock]; omega
    | 2, hk => simp at hk; subst hk; simp [Value.ownBlock]; omega
    | k + 3, hk => simp at hk
  · match k, hk with
    | 0, hk => simp at hk; subst hk; rfl
    | 1, hk => simp at hk; subst hk; rfl
    | 2, hk => simp at hk; subst hk; rfl
    | k + 3, hk => simp at hk
  · rintro e w' ⟨rfl, ha⟩
    refine ⟨rfl, hid ha.1, hid fun b hb n1 n2 n3 => ha.2 b hb (fun k x hk => ?_)⟩
    match k, hk with
    | 0, hk => simp at hk; subst hk; simp [Value.ownBlock]; omega
    | 1, hk => simp at hk; subst hk; simp [Value.ownBlock]; omega
    | 2, hk => simp at hk; subst hk; simp [Value.ownBlock]; omega
    | k + 3, hk => simp at hk
end Go.Proofs.Ytiggfigjibggaaa
