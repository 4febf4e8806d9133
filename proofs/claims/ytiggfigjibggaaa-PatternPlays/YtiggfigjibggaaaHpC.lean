/-
  The heap in memory, what stands at one place kept aside; rise.
-/
import Derived.Test.YtiggfigjibggaaaHpB
namespace Go.Proofs.Ytiggfigjibggaaa
open Go.RowKit Go.Shelf

/-- The heap in memory; what stands at k is kept aside. -/
structure HM (w : World) (pb : Nat) (room came : Int) (mv : Value) (g cap n : Nat) (H : HpL) (k : Nat) : Prop where
  box : At w pb (patC room came mv (.slice (some ⟨g, 0, none⟩) n cap)) 71
  len : H.length = n
  row : ∃ P : List Value, w.ownsRow 0 64 1 (.slice (some ⟨g, 0, none⟩) n cap) n P ∧ ∀ i x, i ≠ k → H[i]? = some x → P[i]? = some (ptB x.1)
  ent : ∀ (i : Nat) (x : Nat × Ent), H[i]? = some x → ∃ q : Int, At w x.1 (entC x.2 q) 78 ∧ (i ≠ k → q = (i : Int))
  nd : (H.map (·.1)).Nodup
theorem below_drewN (B : Nat) (w : World) (n : Nat) : Below B w (w.drewN n) := ⟨rfl, rfl, rfl, Nat.le_refl _, fun _ _ => rfl⟩
theorem nd_inj {H : HpL} (h : (H.map (·.1)).Nodup) {i j : Nat} {x y : Nat × Ent} (hi : H[i]? = some x) (hj : H[j]? = some y) (he : x.1 = y.1) : i = j := by
  obtain ⟨h1, e1⟩ := List.getElem?_eq_some_iff.1 hi
  obtain ⟨h2, e2⟩ := List.getElem?_eq_some_iff.1 hj
  have hp := List.pairwise_iff_getElem.1 h
  by_cases hlt : i < j
  · have := hp i j (by simpa using h1) (by simpa using h2) hlt
    simp [e1, e2, he] at this
  · by_cases hgt : j < i
    · have := hp j i (by simpa using h2) (by simpa using h1) hgt
      simp [e1, e2, he] at this
    · omega
section
variable {w w' : World} {pb : Nat} {room came : Int} {mv : Value} {g cap n : Nat} {H : HpL} {k j : Nat} {x y : Nat × Ent}
theorem HM.gpb (h : HM w pb room came mv g cap n H k) : g ≠ pb := fun e => by
  obtain ⟨P, h1, -⟩ := h.row
  exact own_neP h1 h.box (by decide) (by simp [Value.ownBlock, e])
theorem HM.gent (h : HM w pb room came mv g cap n H k) (hj : H[j]? = some y) : g ≠ y.1 := fun e => by
  obtain ⟨P, h1, -⟩ := h.row
  obtain ⟨q, h2, -⟩ := h.ent j y hj
  exact own_neP h1 h2 (by decide) (by simp [Value.ownBlock, e])
theorem HM.pent (h : HM w pb room came mv g cap n H k) (hj : H[j]? = some y) : pb ≠ y.1 := by
  obtain ⟨q, h2, -⟩ := h.ent j y hj
  exact at_neP h.box h2 (by decide)
theorem HM.cell (h : HM w pb room came mv g cap n H k) (hj : H[j]? = some y) (hne : j ≠ k) : w.cell? ⟨g, j, none⟩ = some (ptB y.1) := by
  obtain ⟨P, h1, h2⟩ := h.row
  have hl := (List.getElem?_eq_some_iff.1 hj).1
  rw [h1.cellAt j (by have := h.len; omega)]
  exact h2 j y hne hj
theorem HM.there (h : HM w pb room came mv g cap n H k) (hj : j < n) : ∃ u, w.cell? ⟨g, j, none⟩ = some u ∧ w.frozen? ⟨g, j, none⟩ = false := by
  obtain ⟨P, h1, h2⟩ := h.row
  have hP := h1.1
  exact ⟨P[j]'(by omega), by rw [h1.cellAt j (by omega)]; exact List.getElem?_eq_getElem (by omega), h1.frozenAt j⟩
theorem HM.kept (h : HM w pb room came mv g cap n H k) (hb : Below w.heap.size w w') : HM w' pb room came mv g cap n H k := by
  obtain ⟨P, h1, h2⟩ := h.row
  exact ⟨h.box.keptAll hb, h.len, ⟨P, own_onP h1 (fun q _ _ hl => hb.block q hl), h2⟩, fun i x hi => by
    obtain ⟨q, h3, h4⟩ := h.ent i x hi
    exact ⟨q, h3.keptAll hb, h4⟩, h.nd⟩
/-- Another one is put to where one was kept aside. -/
theorem HM.put (h : HM w pb room came mv g cap n H k) (hk : H[k]? = some x) (hj : H[j]? = some y) (hne : j ≠ k) : HM ((w.setCell ⟨g, k, none⟩ (ptB y.1)).setCell ⟨y.1, 5, none⟩ (.int .i64 (k : Int))) pb room came mv g cap n (swH H k j x y) j := by
  obtain ⟨P, h1, h2⟩ := h.row
  obtain ⟨q, hy, -⟩ := h.ent j y hj
  have gp := h.gpb
  have gy := h.gent hj
  have py := h.pent hj
  have hkl := (List.getElem?_eq_some_iff.1 hk).1
  have s1 := (h1.stored k (ptB y.1)).1
  have hy1 := hy.other (p := ⟨g, k, none⟩) (fun e => gy e.symm) (ptB y.1)
  refine ⟨(h.box.other (p := ⟨g, k, none⟩) (fun e => gp e.symm) _).other (p := ⟨y.1, 5, none⟩) py _, by rw [swH_len]; exact h.len, ⟨P.set k (ptB y.1), own_setCellP s1 hy1 (by decide), fun i z hi hz => ?_⟩, fun i z hz => ?_, ((swH_perm hk hj).map _).nodup_iff.2 h.nd⟩
  · rw [swH_get hk hj, if_neg hi] at hz
    by_cases e : i = k
    · subst e
      rw [if_pos rfl] at hz
      cases hz
      rw [List.getElem?_set_self (by have := h1.1; have := h.len; omega)]
    · rw [if_neg e] at hz
      rw [List.getElem?_set_ne (fun h => e h.symm)]
      exact h2 i z e hz
  · rw [swH_get hk hj] at hz
    by_cases e1 : i = j
    · rw [if_pos e1] at hz
      cases hz
      obtain ⟨q', hx, -⟩ := h.ent k x hk
      refine ⟨q', (hx.other (p := ⟨g, k, none⟩) (fun e => h.gent hk e.symm) _).other (p := ⟨y.1, 5, none⟩) (fun e => hne (nd_inj h.nd hk hj e).symm) _, fun h => absurd e1 h⟩
    · rw [if_neg e1] at hz
      by_cases e2 : i = k
      · subst e2
        rw [if_pos rfl] at hz
        cases hz
        exact ⟨(i : Int), by simpa [entC] using hy1.set 5 (.int .i64 (i : Int)), fun _ => rfl⟩
      · rw [if_neg e2] at hz
        obtain ⟨q', hz1, hz2⟩ := h.ent i z hz
        exact ⟨q', (hz1.other (p := ⟨g, k, none⟩) (fun e => h.gent hz e.symm) _).other (p := ⟨y.1, 5, none⟩) (fun e => e1 (nd_inj h.nd hz hj e)) _, fun _ => hz2 e2⟩
/-- What was kept aside is put to its place. -/
theorem HM.fill (h : HM w pb room came mv g cap n H k) (hk : H[k]? = some x) : HM ((w.setCell ⟨g, k, none⟩ (ptB x.1)).setCell ⟨x.1, 5, none⟩ (.int .i64 (k : Int))) pb room came mv g cap n H n := by
  obtain ⟨P, h1, h2⟩ := h.row
  obtain ⟨q, hx, -⟩ := h.ent k x hk
  have gp := h.gpb
  have gx := h.gent hk
  have px := h.pent hk
  have hkl := (List.getElem?_eq_some_iff.1 hk).1
  have s1 := (h1.stored k (ptB x.1)).1
  have hx1 := hx.other (p := ⟨g, k, none⟩) (fun e => gx e.symm) (ptB x.1)
  refine ⟨(h.box.other (p := ⟨g, k, none⟩) (fun e => gp e.symm) _).other (p := ⟨x.1, 5, none⟩) px _, h.len, ⟨P.set k (ptB x.1), own_setCellP s1 hx1 (by decide), fun i z _ hz => ?_⟩, fun i z hz => ?_, h.nd⟩
  · by_cases e : i = k
    · subst e
      rw [hk] at hz
      cases hz
      rw [List.getElem?_set_self (by have := h1.1; have := h.len; omega)]
    · rw [List.getElem?_set_ne (fun h => e h.symm)]
      exact h2 i z e hz
  · by_cases e2 : i = k
    · subst e2
      rw [hk] at hz
      cases hz
      exact ⟨(i : Int), by simpa [entC] using hx1.set 5 (.int .i64 (i : Int)), fun _ => rfl⟩
    · obtain ⟨q', hz1, hz2⟩ := h.ent i z hz
      exact ⟨q', (hz1.other (p := ⟨g, k, none⟩) (fun e => h.gent hz e.symm) _).other (p := ⟨x.1, 5, none⟩) (fun e => e2 (nd_inj h.nd hz hk e)) _, fun _ => hz2 e2⟩
/-- Nothing is kept aside: then anything may be. -/
theorem HM.out (h : HM w pb room came mv g cap n H n) (k : Nat) : HM w pb room came mv g cap n H k := by
  obtain ⟨P, h1, h2⟩ := h.row
  refine ⟨h.box, h.len, ⟨P, h1, fun i x _ hi => h2 i x ?_ hi⟩, fun i x hi => ?_, h.nd⟩
  · have := (List.getElem?_eq_some_iff.1 hi).1
    have := h.len
    omega
  · obtain ⟨q, h3, h4⟩ := h.ent i x hi
    have := (List.getElem?_eq_some_iff.1 hi).1
    have := h.len
    exact ⟨q, h3, fun _ => h4 (by omega)⟩
end
/-- The blocks that a call may turn: the row's, the entries'. -/
def HZ (g : Nat) (H : HpL) (q : Nat) : Prop := q = g ∨ ∃ z ∈ H, z.1 = q
theorem HZ.perm {g : Nat} {H H' : HpL} (hp : H'.Perm H) {q : Nat} (h : HZ g H' q) : HZ g H q := by
  rcases h with h | ⟨z, hz, h⟩
  · exact .inl h
  · exact .inr ⟨z, hp.mem_iff.1 hz, h⟩
/-- What a call that moves what is kept aside leaves. -/
def MvP (Inv : HpL → Nat → Prop) (pb : Nat) (room came : Int) (mv : Value) (g cap n : Nat) (H : HpL) (x : Nat × Ent) (w : World) (e : Ending) (w' : World) : Prop :=
  ∃ (H' : HpL) (k : Nat), e = .returned (.int .i64 (k : Int)) ∧ Hid (H'[k]? = some x) ∧ Hid (H'.Perm H) ∧ Hid (Inv H' k) ∧ Hid (HM w' pb room came mv g cap n H' k) ∧ Hid (Lap (HZ g H) w w')
theorem enterA (args : Array Value) (w : World) : (callFunc 22 args).run Try.prog w = .ok (.enter 22 args) w := by kernel_rfl

set_option maxRecDepth 10000 in
set_option maxHeartbeats 4000000 in
theorem rise_calls (pb : Nat) (room came : Int) (mv : Value) (g cap n : Nat) (hn : (n : Int) ≤ 1048576) (H : HpL) (k : Nat) (x : Nat × Ent) (hx : Hid (H[k]? = some x)) (hri : Hid (RiI H k)) (w : World) (hm : Hid (HM w pb room came mv g cap n H k)) :
    Calls Try.prog 45 #[.pointer (some ⟨pb, 3, none⟩), ptB x.1, .int .i64 (k : Int)] w fun e w' => MvP SiI pb room came mv g cap n H x w e w' := by
  have he := enterA
  have hkn : k < n := by have := (List.getElem?_eq_some_iff.1 hx.out).1; have := hm.out.len; omega
  go_enter Try.func45, Try.ntmps45
  go_wp2
  go_loopw [2] (fun ii wr => ∃ (H' : HpL) (k' : Nat), ii = .int .i64 (k' : Int) ∧ k' < n ∧ Hid (H'[k']? = some x) ∧ Hid (H'.Perm H) ∧ Hid (RiI H' k') ∧ Hid (HM wr pb room came mv g cap n H' k') ∧ Hid (Lap (HZ g H) w wr)) (fun ii _ => (intOf ii).toNat)
  case atStart => exact ⟨H, k, rfl, hkn, hx, hid (List.Perm.refl _), hri, hm, hid (Lap.refl _ _)⟩
  case round =>
    clear hx hri hm hkn
    obtain ⟨H', k', rfl, hkn, hx, hp, hri, hm, hl⟩ := hrel
    by_cases h0 : k' = 0
    · subst h0
      go_wp2
      go_ret
      exact ⟨H', 0, rfl, hx, hp, hid (ri_end hri.out hx.out (.inl rfl)), hm, hl⟩
    · have h0' : (0 : Int) < (k' : Int) := by omega
      have hkn' : (k' : Int) < (n : Int) := by omega
      obtain ⟨j, hj⟩ : ∃ j, (k' - 1) / 2 = j := ⟨_, rfl⟩
      have hjq : Int.tdiv ((k' : Int) - 1) 2 = (j : Int) := by
        rw [← hj, show (k' : Int) - 1 = ((k' - 1 : Nat) : Int) by omega]
        rfl
      have hj1 : j < k' := by omega
      have hjn : (j : Int) < (n : Int) := by omega
      obtain ⟨y, hy⟩ : ∃ y, Hid (H'[j]? = some y) := ⟨_, List.getElem?_eq_getElem (by have := hm.out.len; omega)⟩
      have c3 := hm.out.box.cell 3
      have c4 := hm.out.box.cell 4
      simp only [patC, List.getElem?_toArray, List.getElem?_cons_succ, List.getElem?_cons_zero] at c3 c4
      have cj := hm.out.cell hy.out (by omega)
      have ad : (⟨g, 0, none⟩ : Addr).add j = ⟨g, j, none⟩ := by by_cases h : j = 0 <;> simp [Addr.add, h]
      obtain ⟨qx, hex, -⟩ := hm.out.ent k' x hx.out
      obtain ⟨qy, hey, -⟩ := hm.out.ent j y hy.out
      have hah := hid (fun (m : Nat) => ahead_calls x.2 y.2 x.1 y.1 qx qy (wr.drewN m) (hex.drewN m) (hey.drewN m))
      obtain ⟨B, hB⟩ : ∃ B, decide (ahd x.2 y.2) = B := ⟨_, rfl⟩
      rw [hB] at hah
      have hx1 := hid (hm.out.there hkn)
      have hey := hid hey
      clear hex
      cases B with
      | false =>
        have hfin := hid (ri_end hri.out hx.out (.inr (fun z hz => by rw [hj, hy.out] at hz; cases hz; simpa using hB)))
        clear hri hB
        go_wp2_with fail
        go_quiet ((go_at_call 22; exact Calls.quiet_of (hah.out _)))
        go_wp2
        go_ret
        exact ⟨H', k', rfl, hx, hp, hfin, hid (hm.out.kept (below_drewN _ _ _)), hid (hl.out.andB (below_drewN _ _ _))⟩
      | true =>
        clear hB
        have hjk : j ≠ k' := by omega
        obtain ⟨uk, hcu, hcf⟩ := hx1.out
        have hput := hid (fun (m : Nat) => put_calls room came mv pb g n cap y.1 k' (entC y.2 qy) (wr.drewN m) (hm.out.box.drewN m) hkn uk (by exact hcu) (by exact hcf) hm.out.gpb (hm.out.gent hy.out) (.int .i64 qy) (hey.out.drewN m) rfl)
        have hm1 := hid (fun (m : Nat) => (hm.out.kept (w' := wr.drewN m) (below_drewN _ _ m)).put hx.out hy.out hjk)
        have hl1 := hid (fun (m : Nat) => ((hl.out.andB (u := wr.drewN m) (below_drewN _ _ m)).setCell ⟨g, k', none⟩ (.inl rfl) (ptB y.1)).setCell ⟨y.1, 5, none⟩ (.inr ⟨y, hp.out.mem_iff.1 (List.mem_of_getElem? hy.out), rfl⟩) (.int .i64 (k' : Int)))
        have hri1 := hid (by have := ri_step hri.out (by omega) hx.out (by rw [hj]; exact hy.out); rw [hj] at this; exact this)
        have hx2 : Hid ((swH H' k' j x y)[j]? = some x) := by show _ = _; rw [swH_get hx.out hy.out, if_pos rfl]
        have hp2 := hid ((swH_perm hx.out hy.out).trans hp.out)
        clear hm hl hri hx1 hcu hcf hey
        go_wp2_with fail
        go_quiet ((go_at_call 22; exact Calls.quiet_of (hah.out _)))
        go_wp2_with fail
        refine Calls.mono (hput.out _) ?_
        rintro e w1 ⟨rfl, rfl⟩
        have hm2 := hid (hm1.out nq)
        have hl2 := hid (hl1.out nq)
        clear hput hm1 hl1
        generalize ((wr.drewN nq).setCell ⟨g, k', none⟩ (ptB y.1)).setCell ⟨y.1, 5, none⟩ (.int .i64 (k' : Int)) = W2 at *
        go_wp2
        go_roundw
        case rel => exact ⟨_, j, rfl, by omega, hx2, hp2, hri1, hm2, hl2⟩
        case measure => simp [intOf]; omega
end Go.Proofs.Ytiggfigjibggaaa
