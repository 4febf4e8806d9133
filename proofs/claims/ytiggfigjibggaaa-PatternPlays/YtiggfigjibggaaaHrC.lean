/-
  The document's pattern: Learn.
-/
import Derived.Test.YtiggfigjibggaaaHrB
namespace Go.Proofs.Ytiggfigjibggaaa
open Go.RowKit Go.Shelf Go.Maps

theorem flat_lrR_inv {l : List Ent} {j : Nat} {u : Value} (h : ((l.map lrOf).flatMap lrL)[j]? = some u) : ∃ q k x, j = q * 4 + k ∧ l[q]? = some x ∧ (lrL (lrOf x))[k]? = some u := by
  induction l generalizing j with
  | nil => simp at h
  | cons y l ih =>
    rw [List.map_cons, List.flatMap_cons] at h
    by_cases hj : j < 4
    · rw [List.getElem?_append_left (by simp [lrL]; omega)] at h
      exact ⟨0, j, y, by omega, rfl, h⟩
    · rw [List.getElem?_append_right (by simp [lrL]; omega)] at h
      obtain ⟨q, k, x, h1, h2, h3⟩ := ih h
      have e : (lrL (lrOf y)).length = 4 := rfl
      rw [e] at h1
      exact ⟨q + 1, k, x, by omega, by simpa using h2, h3⟩
theorem flat_lrR_len (l : List Ent) : ((l.map lrOf).flatMap lrL).length = l.length * 4 := by
  induction l with
  | nil => rfl
  | cons y l ih =>
    rw [List.map_cons, List.flatMap_cons, List.length_append, ih, List.length_cons]
    have e : (lrL (lrOf y)).length = 4 := rfl
    omega
theorem flat_lrR_set {l : List Ent} {i : Nat} {x x' : Ent} (h : l[i]? = some x) {k : Nat} {u : Value} (hk : k < 4) (hx : lrL (lrOf x') = (lrL (lrOf x)).set k u) : ((l.set i x').map lrOf).flatMap lrL = ((l.map lrOf).flatMap lrL).set (i * 4 + k) u := by
  induction l generalizing i with
  | nil => simp at h
  | cons y l ih =>
    have e : (lrL (lrOf y)).length = 4 := rfl
    cases i with
    | zero =>
      simp at h
      subst h
      rw [List.set_cons_zero, List.map_cons, List.flatMap_cons, List.map_cons, List.flatMap_cons, hx, Nat.zero_mul, Nat.zero_add, List.set_append_left _ _ (by omega)]
    | succ i =>
      rw [List.set_cons_succ, List.map_cons, List.flatMap_cons, List.map_cons, List.flatMap_cons, ih (by simpa using h), List.set_append_right _ _ (by omega)]
      congr 2
      omega
/-- Several at the end of a row. -/
theorem rw_app {w : World} {B n : Nat} {v : Value} {L1 : List Ent} (hv : w.ownsRow B 25 4 v n ((L1.map lrOf).flatMap lrL)) (a : Addr) (m c : Nat) (L2 : List Ent) (hm : L2.length = m) (hsrc : ∀ j u, ((L2.map lrOf).flatMap lrL)[j]? = some u → w.cell? (a.add j) = some u) (hb : n + m ≤ 8192) (hB : B ≤ w.heap.size) :
    ∃ so' c' w', (∀ ty, (Builtin.append_ #[22, 22] ty #[v, .slice (some a) m c]).run Try.prog w = .ok (.slice so' (n + m) c') w') ∧ w'.ownsRow B 25 4 (.slice so' (n + m) c') (n + m) (((L1 ++ L2).map lrOf).flatMap lrL) ∧ w.grownBy w' v.ownBlock ∧ ((Value.slice so' (n + m) c').ownBlock = v.ownBlock ∨ ∀ g, (Value.slice so' (n + m) c').ownBlock = some g → w.heap.size ≤ g) := by
  obtain ⟨i0, hi, hz0, hz1, hz2⟩ := info_partsP infoLrR
  obtain ⟨v', w', hr, r1, r2⟩ := appendVP (P := Try.prog) (ty := 0) Try.underlying22 hi hz0 hz1 hz2 rfl (by decide) hv a m c _ (by rw [flat_lrR_len, hm]) hsrc (fun u hu => by
    obtain ⟨j, hj, rfl⟩ := List.mem_iff_getElem.1 hu
    obtain ⟨q, k, x, -, -, h3⟩ := flat_lrR_inv (List.getElem?_eq_getElem hj)
    have h4 := List.mem_of_getElem? h3
    generalize ((L2.map lrOf).flatMap lrL)[j] = z at h4
    simp [lrL, lrOf] at h4
    rcases h4 with rfl | rfl | rfl | rfl <;> rfl) (by unfold maxLen; omega) (by omega) hB
  have e : (L1.map lrOf).flatMap lrL ++ (L2.map lrOf).flatMap lrL = ((L1 ++ L2).map lrOf).flatMap lrL := by rw [List.map_append, List.flatMap_append]
  rw [e] at r1
  obtain ⟨so', c', rfl⟩ := own_shapeP r1
  refine ⟨so', c', w', fun ty => by rw [append_tyP _ ty 0]; exact hr, r1, ?_, ?_⟩
  · rcases r2 with ⟨g, cap, rfl, -, hg⟩ | ⟨-, hg⟩
    · exact hg
    · exact ⟨hg.os, hg.tape, hg.output, hg.size, fun k hk _ => hg.block k hk (by simp)⟩
  · rcases r2 with ⟨g, cap, rfl, h2, hg⟩ | ⟨hf, -⟩
    · left
      rw [h2]
      rfl
    · exact .inr hf
/-- A field of an entry is stored. -/
theorem rfv_put {w : World} {qb room : Nat} {S : Nat → Prop} {L : List Ent} {g N c : Nat} (h : RfV w qb S room L (.slice (some ⟨g, 0, none⟩) N c)) {i k : Nat} {x x' : Ent} {u : Value} (hi : L[i]? = some x) (hk : k < 4) (hx : lrL (lrOf x') = (lrL (lrOf x)).set k u) :
    RfV (w.setCell ⟨g, i * 4 + k, none⟩ u) qb S room (L.set i x') (.slice (some ⟨g, 0, none⟩) N c) := by
  obtain ⟨h1, h2, h3, h4⟩ := h
  obtain ⟨so', c', e⟩ := own_shapeP h2
  cases e
  refine ⟨h1.other (p := ⟨g, i * 4 + k, none⟩) (fun e => own_neP h2 h1 (by decide) (by show some g = some qb; rw [show qb = g from e])) u, ?_, h3, h4⟩
  rw [flat_lrR_set hi hk hx, List.length_set]
  exact (h2.stored (i * 4 + k) u).1
theorem set_mid {α : Type} (A : List α) (x x' : α) (B : List α) : (A ++ x :: B).set A.length x' = A ++ x' :: B := by
  rw [List.set_append_right _ _ (Nat.le_refl _), Nat.sub_self, List.set_cons_zero]
/-- What Learn of the document leaves. -/
def LeR (qb : Nat) (S : Nat → Prop) (room came : Nat) (L : List Ent) (r n : ByteArray) (p : Nat) (w : World) (e : Ending) (w' : World) : Prop :=
  e = .returned (.int .i64 0) ∧ ∃ c' L', Hid (Lrn room came L r n p c' L') ∧ Hid (RfM w' qb (fun q => S q ∨ w.heap.size ≤ q) room L') ∧ Hid (Lap S w w')
theorem learnR_no (qb : Nat) (r n : ByteArray) (p : Int) (hp : p < 0) (w : World) : Calls Try.prog 37 #[ptB qb, .string r, .string n, .int .i64 p] w fun e w' => e = .returned (.int .i64 2) ∧ w' = w := by
  go_enter Try.func37, Try.ntmps37
  go_wp2
  go_ret
  exact ⟨rfl, rfl⟩
set_option maxRecDepth 10000 in
set_option maxHeartbeats 8000000 in
/-- Learn of a key that is there. -/
theorem learnR_yes (qb : Nat) (S : Nat → Prop) (room came : Nat) (A : List Ent) (x : Ent) (B : List Ent) (hL : A.length + 1 + B.length ≤ 4096) (hxh : x.h ≤ 4611686018427387904) (hno : ∀ z ∈ A, ¬ (z.r = x.r ∧ z.n = x.n)) (p : Nat) (hp : p ≤ 9223372036854775807) (w : World) (hP : Hid (RfM w qb S room (A ++ x :: B))) :
    Calls Try.prog 37 #[ptB qb, .string x.r, .string x.n, .int .i64 (p : Int)] w fun e w' => LeR qb S room came (A ++ x :: B) x.r x.n p w e w' := by
  obtain ⟨so, c, hV⟩ := hP.out.shape
  obtain ⟨N, hN⟩ : ∃ N, Hid ((A ++ x :: B).length = N) := ⟨_, rfl⟩
  have hN4 : N ≤ 4096 := by rw [← hN.out]; simp; omega
  have hNi : (N : Int) ≤ 4096 := by omega
  obtain ⟨i, hi⟩ : ∃ i, Hid (A.length = i) := ⟨_, rfl⟩
  rw [hN.out] at hV
  have hx : (A ++ x :: B)[i]? = some x := by rw [← hi.out]; simp
  have hrow := hV.2.1
  rw [hN.out] at hrow
  obtain ⟨g, c', e, hg, hrg⟩ := rows_at hrow hx hN.out
  cases e
  have hfd := hid (find25_calls (A ++ x :: B) N hN.out hN4 _ x.r x.n (k := (i : Int)) (.inr ⟨A, x, B, rfl, by rw [hi.out], ⟨rfl, rfl⟩, hno⟩) w hrow)
  have hiN : i < N := by have := (List.getElem?_eq_some_iff.1 hx).1; rw [hN.out] at this; exact this
  have hii : (i : Int) < (N : Int) := by omega
  have i0 : decide ((0 : Int) ≤ (i : Int)) = true := by simp
  have hp0 : ¬ (p : Int) < 0 := by omega
  have c1 := hV.1.cell 1
  simp only [List.getElem?_toArray, List.getElem?_cons_succ, List.getElem?_cons_zero] at c1
  have r2 := hrg 2 _ rfl
  have r3 := hrg 3 _ rfl
  have f2 : w.frozen? ⟨g, i * 4 + 2, none⟩ = false := hrow.frozenAt _
  have f3 : w.frozen? ⟨g, i * 4 + 3, none⟩ = false := hrow.frozenAt _
  have ad : (⟨g, 0, none⟩ : Addr).add (i * 4) = ⟨g, i * 4, none⟩ := by by_cases h : i * 4 = 0 <;> simp [Addr.add, h]
  have hV' := hid hV
  have hx' := hid hx
  have hSg := hid (show S g from hV.2.2.2 g rfl)
  have hfin := hid (fun (u : World) (x' : Ent) (hL : Lap S w u) (hR : RfM u qb S room (A ++ x' :: B)) (he : x' = upd x p) => (show LeR qb S room came (A ++ x :: B) x.r x.n p w (.returned (.int .i64 0)) u from
    ⟨rfl, came, A ++ upd x p :: B, hid (.inl ⟨A, x, B, rfl, rfl, rfl, rfl, rfl⟩), hid (by rw [← he]; exact hR.mono (fun q _ h => .inl h)), hid hL⟩))
  clear hx hrow hV hrg hg
  obtain ⟨xr, xn, xp, xh, xa⟩ := x
  dsimp only at *
  by_cases hxp : xp = p
  · subst hxp
    by_cases hm : xh < 4611686018427387904
    · have hmi : (xh : Int) < 4611686018427387904 := by omega
      have hmi2 : decide ((xh : Int) < 4611686018427387904) = true := by simp; omega
      have ew : IntKind.i64.wrap ((xh : Int) + 1) = (xh : Int) + 1 := by rw [IntKind.wrap_i64]; omega
      have hput := hid (rfv_put (x' := ⟨xr, xn, xp, xh + 1, xa⟩) (u := .int .i64 ((xh : Int) + 1)) (k := 3) (hV'.out) hx'.out (by decide) (by simp [lrL, lrOf]))
      have hset := hid (show (A ++ (⟨xr, xn, xp, xh, xa⟩ : Ent) :: B).set i ⟨xr, xn, xp, xh + 1, xa⟩ = A ++ ⟨xr, xn, xp, xh + 1, xa⟩ :: B by rw [← hi.out]; exact set_mid _ _ _ _)
      have hdone := hid (hfin.out (w.setCell ⟨g, i * 4 + 3, none⟩ (.int .i64 ((xh : Int) + 1))).drew ⟨xr, xn, xp, xh + 1, xa⟩ ((Lap.refl S w).setCell ⟨g, i * 4 + 3, none⟩ hSg.out _).drew (by
        have h := hput.out
        rw [hset.out] at h
        exact h.toM.keptB (below_drewN _ _ 1)) (by
        unfold upd
        rw [if_pos rfl, Nat.min_eq_left (show xh + 1 ≤ 4611686018427387904 by omega)]))
      have c1' : w.drew.cell? ⟨qb, 1, none⟩ = some (.slice (some ⟨g, 0, none⟩) N c) := c1
      have r3' : w.drew.cell? ⟨g, i * 4 + 3, none⟩ = some (.int .i64 (xh : Int)) := r3
      have f3' : w.drew.frozen? ⟨g, i * 4 + 3, none⟩ = false := f3
      have c2 := hid (show (w.setCell ⟨g, i * 4 + 3, none⟩ (.int .i64 ((xh : Int) + 1))).drew.cell? ⟨qb, 1, none⟩ = some (.slice (some ⟨g, 0, none⟩) N c) from by simpa using hput.out.1.drew.cell 1)
      clear hput
      go_enter Try.func37, Try.ntmps37
      go_wp2_with fail
      refine Calls.mono hfd.out ?_
      rintro e w1 ⟨rfl, rfl⟩
      clear hfd
      go_wp2_with fail
      rename_i Kr hKr
      refine wp_region_held_drew (S := fun u => u.cell? ⟨qb, 1, none⟩ = some (.slice (some ⟨g, 0, none⟩) N c)) (by kernel_rfl) c1' (fun hH => ?_)
      (refine' wpAnyH_take (i := 0) rfl (by kernel_rfl) (by kernel_rfl) (by kernel_rfl) (fun _ _ _ h => h) (Or.inl ⟨by rfl, ?_⟩) (by assumption) ?_; rotate_left; (· (intro wq hq; (try dsimp only at hq); go_simp; first | done | with_reducible rfl)); simp only [Act.put, List.getElem_toArray, List.getElem_cons_zero, List.setIfInBounds_toArray, List.set_cons_zero, List.set_cons_succ])
      (refine' wpAnyH_take (i := 1) rfl (by kernel_rfl) (by kernel_rfl) (by kernel_rfl) (fun _ _ _ h => h) (Or.inl ⟨by rfl, ?_⟩) (by assumption) ?_; rotate_left; (· (intro wq hq; (try dsimp only at hq); go_simp; first | done | with_reducible rfl)); simp only [Act.put, List.getElem_toArray, List.getElem_cons_zero, List.getElem_cons_succ, List.setIfInBounds_toArray, List.set_cons_zero, List.set_cons_succ])
      (refine' wpAnyH_take (i := 2) rfl (by kernel_rfl) (by kernel_rfl) (by kernel_rfl) (fun _ _ _ h => h) (Or.inl ⟨by rfl, ?_⟩) (by assumption) ?_; rotate_left; (· (intro wq hq; (try dsimp only at hq); go_simp; first | done | with_reducible rfl)); simp only [Act.put, List.getElem_toArray, List.getElem_cons_zero, List.getElem_cons_succ, List.setIfInBounds_toArray, List.set_cons_zero, List.set_cons_succ])
      (refine' wpAnyH_take (i := 3) rfl (by kernel_rfl) (by kernel_rfl) (by kernel_rfl) (fun _ _ _ h => h) (Or.inl ⟨by rfl, ?_⟩) (by assumption) ?_; rotate_left; (· (intro wq hq; (try dsimp only at hq); go_simp; first | done | with_reducible rfl)); simp only [Act.put, List.getElem_toArray, List.getElem_cons_zero, List.getElem_cons_succ, List.setIfInBounds_toArray, List.set_cons_zero, List.set_cons_succ])
      (refine' wpAnyH_take (i := 4) rfl (by kernel_rfl) (by kernel_rfl) (by kernel_rfl) (fun _ _ _ h => h) (Or.inl ⟨by rfl, ?_⟩) (by assumption) ?_; rotate_left; (· (intro wq hq; (try dsimp only at hq); go_simp; first | done | with_reducible rfl)); simp only [Act.put, List.getElem_toArray, List.getElem_cons_zero, List.getElem_cons_succ, List.setIfInBounds_toArray, List.set_cons_zero, List.set_cons_succ])
      (refine' wpAnyH_take (i := 5) rfl (by kernel_rfl) (by kernel_rfl) (by kernel_rfl) (fun _ _ _ h => h) (Or.inl ⟨by rfl, ?_⟩) (by assumption) ?_; rotate_left; (· (intro wq hq; (try dsimp only at hq); go_simp; first | done | with_reducible rfl)); simp only [Act.put, List.getElem_toArray, List.getElem_cons_zero, List.getElem_cons_succ, List.setIfInBounds_toArray, List.set_cons_zero, List.set_cons_succ])
      (refine' wpAnyH_take (i := 6) rfl (by kernel_rfl) (by kernel_rfl) (by kernel_rfl) (fun _ _ _ h => h) (Or.inl ⟨by rfl, ?_⟩) (by assumption) ?_; rotate_left; (· (intro wq hq; (try dsimp only at hq); go_simp; first | done | with_reducible rfl)); simp only [Act.put, List.getElem_toArray, List.getElem_cons_zero, List.getElem_cons_succ, List.setIfInBounds_toArray, List.set_cons_zero, List.set_cons_succ])
      (refine' wpAnyH_take (i := 7) rfl (by kernel_rfl) (by kernel_rfl) (by kernel_rfl) (fun _ _ _ h => h) (Or.inl ⟨by rfl, ?_⟩) (by assumption) ?_; rotate_left; (· (intro wq hq; (try dsimp only at hq); go_simp; first | done | with_reducible rfl)); simp only [Act.put, List.getElem_toArray, List.getElem_cons_zero, List.getElem_cons_succ, List.setIfInBounds_toArray, List.set_cons_zero, List.set_cons_succ])
      (refine' wpAnyH_take (i := 8) rfl (by kernel_rfl) (by kernel_rfl) (by kernel_rfl) (fun _ _ _ h => h) (Or.inl ⟨by rfl, ?_⟩) (by assumption) ?_; rotate_left; (· (intro wq hq; (try dsimp only at hq); go_simp; first | done | with_reducible rfl)); simp only [Act.put, List.getElem_toArray, List.getElem_cons_zero, List.getElem_cons_succ, List.setIfInBounds_toArray, List.set_cons_zero, List.set_cons_succ])
      (refine' wpAnyH_take (i := 9) rfl (by kernel_rfl) (by kernel_rfl) (by kernel_rfl) (fun _ _ _ h => h) (Or.inl ⟨by rfl, ?_⟩) (by assumption) ?_; rotate_left; (· (intro wq hq; (try dsimp only at hq); go_simp; first | done | with_reducible rfl)); simp only [Act.put, List.getElem_toArray, List.getElem_cons_zero, List.getElem_cons_succ, List.setIfInBounds_toArray, List.set_cons_zero, List.set_cons_succ])
      (refine' wpAnyH_take (i := 10) rfl (by kernel_rfl) (by kernel_rfl) (by kernel_rfl) (fun _ _ _ h => h) (Or.inl ⟨by rfl, ?_⟩) (by assumption) ?_; rotate_left; (· (intro wq hq; (try dsimp only at hq); go_simp; first | done | with_reducible rfl)); simp only [Act.put, List.getElem_toArray, List.getElem_cons_zero, List.getElem_cons_succ, List.setIfInBounds_toArray, List.set_cons_zero, List.set_cons_succ])
      (refine' wpAnyH_take (i := 11) rfl (by kernel_rfl) (by kernel_rfl) (by kernel_rfl) (fun _ _ _ h => h) (Or.inl ⟨by rfl, ?_⟩) (by assumption) ?_; rotate_left; (· (intro wq hq; (try dsimp only at hq); go_simp; first | done | with_reducible rfl)); simp only [Act.put, List.getElem_toArray, List.getElem_cons_zero, List.getElem_cons_succ, List.setIfInBounds_toArray, List.set_cons_zero, List.set_cons_succ])
      refine wpAnyH_ready (rs := [12]) (by kernel_rfl) (by simp) ?_
      refine AllReadyH.cons rfl (fun K hK => ?_) ?_
      rotate_left
      · exact AllReadyH.nil
      rw [if_pos (by rfl)]
      go_simp
      refine hK _ _ c1' (fun hH2 => ?_)
      clear hK
      (refine' wpAnyH_take (i := 13) rfl (by kernel_rfl) (by kernel_rfl) (by kernel_rfl) (fun _ _ _ h => h) (Or.inl ⟨by rfl, ?_⟩) (by assumption) ?_; rotate_left; (· (intro wq hq; (try dsimp only at hq); go_simp; first | done | with_reducible rfl)); simp only [Act.put, List.getElem_toArray, List.getElem_cons_zero, List.getElem_cons_succ, List.setIfInBounds_toArray, List.set_cons_zero, List.set_cons_succ])
      (refine' wpAnyH_take (i := 14) rfl (by kernel_rfl) (by kernel_rfl) (by kernel_rfl) (fun _ _ _ h => h) (Or.inl ⟨by rfl, ?_⟩) (by assumption) ?_; rotate_left; (· (intro wq hq; (try dsimp only at hq); go_simp; first | done | with_reducible rfl)); simp only [Act.put, List.getElem_toArray, List.getElem_cons_zero, List.getElem_cons_succ, List.setIfInBounds_toArray, List.set_cons_zero, List.set_cons_succ])
      (refine' wpAnyH_take (i := 15) rfl (by kernel_rfl) (by kernel_rfl) (by kernel_rfl) (fun _ _ _ h => h) (Or.inl ⟨by rfl, ?_⟩) (by assumption) ?_; rotate_left; (· (intro wq hq; (try dsimp only at hq); go_simp; first | done | with_reducible rfl)); simp only [Act.put, List.getElem_toArray, List.getElem_cons_zero, List.getElem_cons_succ, List.setIfInBounds_toArray, List.set_cons_zero, List.set_cons_succ])
      refine wpAnyH_ready (rs := [16]) (by kernel_rfl) (by simp) ?_
      refine AllReadyH.cons rfl (fun K hK => ?_) ?_
      rotate_left
      · exact AllReadyH.nil
      rw [if_pos (by rfl)]
      go_simp
      (try rw [ew])
      refine hK _ _ c2.out (fun hH3 => ?_)
      clear hK
      refine wpAnyH_done (by kernel_rfl) ?_ _
      refine hKr _ _ ?_
      clear hKr c1' r3' f3' c2
      go_wp2
      go_ret
      exact hdone.out
    · have hme : xh = 4611686018427387904 := by omega
      subst hme
      have hdone := hid (hfin.out w ⟨xr, xn, xp, 4611686018427387904, xa⟩ (Lap.refl S w) hP.out (by unfold upd; rw [if_pos rfl]; rfl))
      go_enter Try.func37, Try.ntmps37
      go_wp2_with fail
      refine Calls.mono hfd.out ?_
      rintro e w1 ⟨rfl, rfl⟩
      clear hfd
      go_wp2
      go_ret
      exact hdone.out
  · have hne : ((xp : Int) == (p : Int)) = false := by simp; omega
    have q1 := rfv_put (x' := ⟨xr, xn, p, xh, xa⟩) (u := .int .i64 (p : Int)) (k := 2) (hV'.out) hx'.out (by decide) (by simp [lrL, lrOf])
    have hset := hid (show (A ++ (⟨xr, xn, xp, xh, xa⟩ : Ent) :: B).set i ⟨xr, xn, p, xh, xa⟩ = A ++ ⟨xr, xn, p, xh, xa⟩ :: B by rw [← hi.out]; exact set_mid _ _ _ _)
    rw [hset.out] at q1
    have q2 := rfv_put (x := ⟨xr, xn, p, xh, xa⟩) (x' := ⟨xr, xn, p, 1, xa⟩) (i := i) (u := .int .i64 1) (k := 3) q1 (by rw [← hi.out]; simp) (by decide) (by simp [lrL, lrOf])
    have hset2 := hid (show (A ++ (⟨xr, xn, p, xh, xa⟩ : Ent) :: B).set i ⟨xr, xn, p, 1, xa⟩ = A ++ ⟨xr, xn, p, 1, xa⟩ :: B by rw [← hi.out]; exact set_mid _ _ _ _)
    rw [hset2.out] at q2
    have d1 := q1.1.cell 1
    simp only [List.getElem?_toArray, List.getElem?_cons_succ, List.getElem?_cons_zero] at d1
    have e3 : (w.setCell ⟨g, i * 4 + 2, none⟩ (.int .i64 (p : Int))).cell? ⟨g, i * 4 + 3, none⟩ = some (.int .i64 (xh : Int)) := by
      have hl : (A ++ (⟨xr, xn, p, xh, xa⟩ : Ent) :: B).length = N := by rw [← hN.out]; simp
      have h := q1.2.1
      rw [hl] at h
      obtain ⟨g', c', e, -, h2⟩ := rows_at h (show (A ++ (⟨xr, xn, p, xh, xa⟩ : Ent) :: B)[i]? = some ⟨xr, xn, p, xh, xa⟩ by rw [← hi.out]; simp) hl
      cases e
      exact h2 3 _ rfl
    have g3 : (w.setCell ⟨g, i * 4 + 2, none⟩ (.int .i64 (p : Int))).frozen? ⟨g, i * 4 + 3, none⟩ = false := by
      have hl : (A ++ (⟨xr, xn, p, xh, xa⟩ : Ent) :: B).length = N := by rw [← hN.out]; simp
      have h := q1.2.1
      rw [hl] at h
      exact h.frozenAt _
    have hdone := hid (hfin.out ((w.setCell ⟨g, i * 4 + 2, none⟩ (.int .i64 (p : Int))).setCell ⟨g, i * 4 + 3, none⟩ (.int .i64 1)) ⟨xr, xn, p, 1, xa⟩ (((Lap.refl S w).setCell ⟨g, i * 4 + 2, none⟩ hSg.out _).setCell ⟨g, i * 4 + 3, none⟩ hSg.out _) q2.toM (by unfold upd; rw [if_neg hxp]))
    clear q1 q2
    go_enter Try.func37, Try.ntmps37
    go_wp2_with fail
    refine Calls.mono hfd.out ?_
    rintro e w1 ⟨rfl, rfl⟩
    clear hfd
    go_wp2
    go_ret
    exact hdone.out
end Go.Proofs.Ytiggfigjibggaaa
