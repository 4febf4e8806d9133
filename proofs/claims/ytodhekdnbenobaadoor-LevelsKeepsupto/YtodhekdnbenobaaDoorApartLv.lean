/-
  What quarrykit.ApartLevels answers of three Levels that Build has made: true.
-/
import Derived.Test.YtodhekdnbenobaaDoorApartB
import Derived.Test.YtodhekdnbenobaaDoorLvB
namespace Go.Proofs.YtodhekdnbenobaaDoor
open Go.RowKit Go.Shelf

/-- The cell j of the list p. -/
def lvV (AA nn : Nat → Nat) (p j : Nat) : Value := if j % 2 = 0 then .int .i64 ((nn p : Nat) : Int) else .slice (some ⟨AA p + 1 + j / 2, 0, none⟩) (need (nn p)) (need (nn p))
theorem lvV_one (AA nn : Nat → Nat) (p j : Nat) : (lvV AA nn p j).oneCell' = true := by
  unfold lvV
  split <;> rfl
/-- The list p as a slice. -/
def sl6 (AA : Nat → Nat) (m p : Nat) : Value := .slice (some ⟨AA p, 0, none⟩) m m
/-- The lists lie apart, from B on, their rows behind each. -/
structure Lv6 (B m : Nat) (AA nn : Nat → Nat) (FF : Nat → Nat → Nat → Nat) (N : Nat) (W : World) : Prop where
  lv : ∀ p, p < N → LvAt W (AA p) m (nn p) (FF p)
  ord : ∀ p q, p < q → q < N → AA p + m < AA q
  lo : ∀ p, p < N → B ≤ AA p
/-- The cells of all lists, one behind the other. -/
def lvR (m : Nat) (AA nn : Nat → Nat) (j : Nat) : Value := lvV AA nn (j / (m * 2)) (j % (m * 2))
section
variable {B m N : Nat} {AA nn : Nat → Nat} {FF : Nat → Nat → Nat → Nat} {W W' : World}
theorem Lv6.kept (h : Lv6 B m AA nn FF N W) (hb : Below W.heap.size W W') : Lv6 B m AA nn FF N W' := ⟨fun p hp => (h.lv p hp).kept hb, h.ord, h.lo⟩
theorem Lv6.cell (h : Lv6 B m AA nn FF N W) {p j : Nat} (hp : p < N) (hj : j < m * 2) : W.cell? ⟨AA p, j, none⟩ = some (lvV AA nn p j) := by
  rw [(h.lv p hp).1.cell j, lvC_get hj, if_pos (by omega)]
  rfl
theorem lvR_at (m : Nat) (AA nn : Nat → Nat) (q r : Nat) (hr : r < m * 2) : lvR m AA nn (q * m * 2 + r) = lvV AA nn q r := by
  unfold lvR
  rw [show q * m * 2 + r = (m * 2) * q + r by rw [Nat.mul_assoc, Nat.mul_comm]]
  rw [Nat.mul_add_div (by omega), Nat.div_eq_of_lt hr, Nat.add_zero, Nat.mul_add_mod, Nat.mod_eq_of_lt hr]
theorem rowz_other {B C n k z y : Nat} {e f : TypeId} {v u : Value} {xs ys : List Value} (hef : e ≠ f) (h : W.ownsRow B e z v n xs) (hk : W.ownsRow C f y u k ys) (hg : W.grownBy W' u.ownBlock) : W'.ownsRow B e z v n xs := by
  refine h.kept hg ?_
  rcases h.2 with ⟨rfl, _⟩ | ⟨g, cap, cur, rfl, hb, hg1, _⟩
  · exact .inl rfl
  · refine .inr (fun e2 => ?_)
    rcases hk.2 with ⟨rfl, _⟩ | ⟨g', cap', cur', rfl, hb', hg2, _⟩
    · cases e2
    · have e3 : g = g' := Option.some.inj e2
      subst e3
      rw [hg1] at hg2
      simp only [Option.some.injEq, Obj.cells.injEq] at hg2
      exact hef hg2.2.1
/-- rows = append(rows, list...). -/
theorem rows_append (h : Lv6 B m AA nn FF N W) {q base : Nat} {v : Value} {ty : TypeId} (hq : q < N) (hq2 : q ≤ 100) (hm : m ≤ 64) (hv : W.ownsRow base 50 2 v (q * m) (celL (q * m * 2) (lvR m AA nn))) (hbase : base ≤ W.heap.size) :
    ∃ v' w', (Builtin.append_ #[32, 32] ty #[v, .slice (some ⟨AA q, 0, none⟩) m m]).run Tryd.prog W = .ok v' w' ∧ w'.ownsRow base 50 2 v' ((q + 1) * m) (celL ((q + 1) * m * 2) (lvR m AA nn)) ∧ W.grownBy w' v.ownBlock := by
  obtain ⟨i0, hi, hz0, hz1, hz2⟩ := info_parts infoBt
  have hb : q * m ≤ 6400 := Nat.le_trans (Nat.mul_le_mul hq2 hm) (by decide)
  obtain ⟨v', w', hr, r1, r2⟩ := appendJ (P := Tryd.prog) (ty := ty) Tryd.underlying32 hi hz0 hz1 hz2 rfl (by decide) hv ⟨AA q, 0, none⟩ m m (celL (m * 2) (lvV AA nn q)) (celL_len _ _) (fun j u hj => by
    have e : (⟨AA q, 0, none⟩ : Addr).add j = ⟨AA q, j, none⟩ := by by_cases h : j = 0 <;> simp [Addr.add, h]
    by_cases hjz : j < m * 2
    · rw [celL_get _ hjz] at hj
      rw [e, h.cell hq hjz]
      exact hj
    · simp [celL, hjz] at hj) (fun u hu => by
    simp only [celL, List.mem_map] at hu
    obtain ⟨j, -, rfl⟩ := hu
    exact lvV_one _ _ _ _) (by unfold maxLen; omega) (by omega) hbase
  rw [celL_congr (fun j hj => (lvR_at m AA nn q j hj).symm), celL_snoc, show q * m * 2 + m * 2 = (q + 1) * m * 2 by rw [Nat.add_mul q 1 m, Nat.one_mul, Nat.add_mul], show q * m + m = (q + 1) * m by rw [Nat.add_mul q 1 m, Nat.one_mul]] at r1
  refine ⟨v', w', hr, r1, ?_⟩
  rcases r2 with ⟨g, cap, rfl, rfl, h3⟩ | ⟨h3, h4⟩
  · exact h3
  · exact h4.but _
theorem wpList_rows {ops : Array Oper} {rest : List Oper} {o : Oper} {a : Act} {Q : Exit → Act → World → Prop} (hgd : o.guard = none) (s y : Operand)
    (ho : o.op = .call { callee := .builtin .append, args := #[s, y], argTypes := #[32, 32] }) (h : Lv6 B m AA nn FF N W) {q base : Nat} {v : Value} (hs : a.eval s = v) (hy : a.eval y = .slice (some ⟨AA q, 0, none⟩) m m) (hq : q < N) (hq2 : q ≤ 100) (hm : m ≤ 64) (hv : W.ownsRow base 50 2 v (q * m) (celL (q * m * 2) (lvR m AA nn))) (hbase : base ≤ W.heap.size)
    (hQ : ∀ v' w', w'.ownsRow base 50 2 v' ((q + 1) * m) (celL ((q + 1) * m * 2) (lvR m AA nn)) → W.grownBy w' v.ownBlock → wpList Tryd.prog ops Q rest (a.put o.dst v') w') : wpList Tryd.prog ops Q (o :: rest) a W := by
  refine wpList_plain hgd fun K hK => ?_
  obtain ⟨v', w', hr, r1, r2⟩ := rows_append (ty := o.type) h hq hq2 hm hv hbase
  unfold Oper.wp
  simp [execOp, ho, resolve, invoke, builtin, hs, hy, hr, Result.andThen]
  exact hK _ _ (hQ v' w' r1 r2)
/-- outer = append(outer, one, two). -/
theorem outer_append {q base : Nat} {v : Value} {ty : TypeId} (hq2 : q ≤ 100) (hv : W.ownsRow base 32 1 v q (celL q (sl6 AA m))) (hbase : base ≤ W.heap.size) (ad : Addr) (c : Nat) (hc0 : W.cell? (ad.add 0) = some (sl6 AA m q)) (hc1 : W.cell? (ad.add 1) = some (sl6 AA m (q + 1))) :
    ∃ v' w', (Builtin.append_ #[62, 62] ty #[v, .slice (some ad) 2 c]).run Tryd.prog W = .ok v' w' ∧ w'.ownsRow base 32 1 v' (q + 2) (celL (q + 2) (sl6 AA m)) ∧ W.grownBy w' v.ownBlock := by
  obtain ⟨i0, hi, hz0, hz1, hz2⟩ := info_parts infoSBt
  obtain ⟨v', w', hr, r1, r2⟩ := appendJ (P := Tryd.prog) (ty := ty) Tryd.underlying62 hi hz0 hz1 hz2 rfl (by decide) hv ad 2 c (celL 2 (fun j => sl6 AA m (q + j))) rfl (fun j u hj => by
    match j, hj with
    | 0, hj => rw [hc0]; exact hj
    | 1, hj => rw [hc1]; exact hj) (fun u hu => by
    simp only [celL, List.mem_map] at hu
    obtain ⟨j, -, rfl⟩ := hu
    rfl) (by unfold maxLen; omega) (by omega) hbase
  rw [celL_snoc] at r1
  refine ⟨v', w', hr, r1, ?_⟩
  rcases r2 with ⟨g, cap, rfl, rfl, h3⟩ | ⟨h3, h4⟩
  · exact h3
  · exact h4.but _
theorem wp_append_outer {o : Oper} {a : Act} {w w' : World} {K : Act → World → Prop} {Q : Exit → Act → World → Prop} {x y : Operand} {v v' u : Value} (ho : o.op = .call { callee := .builtin .append, args := #[x, y], argTypes := #[62, 62] }) (hx : a.eval x = v) (hy : a.eval y = u)
    (hr : (Builtin.append_ #[62, 62] o.type #[v, u]).run Tryd.prog w = .ok v' w') (h : K (a.put o.dst v') w') : o.wp Tryd.prog a w K Q := by
  unfold Oper.wp execOp
  simp only [ho, resolve, invoke, builtin, Sem.run_bind, Sem.run_pure, Result.andThen_ok, List.map_toArray, List.map_cons, List.map_nil, hx, hy, hr]
  exact h
/-- All rows of all lists. -/
def rsX (m N : Nat) (AA nn : Nat → Nat) : List RowX := (List.range (N * m)).map fun k => ⟨some (AA (k / m) + 1 + k % m), need (nn (k / m))⟩
theorem rsX_get {k : Nat} {x : RowX} (h : (rsX m N AA nn)[k]? = some x) : k < N * m ∧ x = ⟨some (AA (k / m) + 1 + k % m), need (nn (k / m))⟩ := by
  unfold rsX at h
  rw [List.getElem?_map] at h
  by_cases hk : k < N * m
  · rw [List.getElem?_range hk] at h
    exact ⟨hk, by simpa using h.symm⟩
  · rw [List.getElem?_eq_none (by simpa using hk)] at h
    simp at h
theorem div_lt {k N m : Nat} (hm : 0 < m) (h : k < N * m) : k / m < N ∧ k % m < m := ⟨(Nat.div_lt_iff_lt_mul hm).2 h, Nat.mod_lt _ hm⟩
theorem Lv6.off (h : Lv6 B m AA nn FF N W) {p q b : Nat} (hp : p < N) (hq : q < N) (hb : b < m) : AA p ≠ AA q + 1 + b := by
  rcases Nat.lt_trichotomy p q with h1 | h1 | h1
  · have := h.ord p q h1 hq; omega
  · subst h1; omega
  · have := h.ord q p h1 hp; omega
theorem Lv6.rows (h : Lv6 B m AA nn FF N W) (hm : 0 < m) : RowsX W B (rsX m N AA nn) (fun k => FF (k / m) (k % m)) := by
  refine ⟨fun k x hk => ?_, fun k l x y g hk hl hx hy => ?_⟩
  · obtain ⟨h1, rfl⟩ := rsX_get hk
    obtain ⟨h2, h3⟩ := div_lt hm h1
    refine ⟨(fun e => by cases e), fun g e => ?_⟩
    cases e
    exact ⟨by have := h.lo _ h2; omega, (h.lv _ h2).2 _ h3⟩
  · obtain ⟨h1, rfl⟩ := rsX_get hk
    obtain ⟨h2, rfl⟩ := rsX_get hl
    obtain ⟨h3, h4⟩ := div_lt hm h1
    obtain ⟨h5, h6⟩ := div_lt hm h2
    have e1 : AA (k / m) + 1 + k % m = g := Option.some.inj hx
    have e2 : AA (l / m) + 1 + l % m = g := Option.some.inj hy
    have e3 : k / m = l / m := by
      rcases Nat.lt_trichotomy (k / m) (l / m) with h7 | h7 | h7
      · have := h.ord _ _ h7 h5; omega
      · exact h7
      · have := h.ord _ _ h7 h3; omega
    rw [e3] at e1
    have e4 : k % m = l % m := by omega
    rw [← Nat.div_add_mod k m, ← Nat.div_add_mod l m, e3, e4]
theorem lvR_odd (m : Nat) (AA nn : Nat → Nat) {k : Nat} (hm : 0 < m) : lvR m AA nn (k * 2 + 1) = slX ⟨some (AA (k / m) + 1 + k % m), need (nn (k / m))⟩ := by
  have hb := Nat.mod_lt k hm
  have e := Nat.div_add_mod k m
  have e1 : k * 2 + 1 = (k / m) * m * 2 + (k % m * 2 + 1) := by
    rw [Nat.mul_comm (k / m) m]
    omega
  rw [e1, lvR_at m AA nn _ _ (by omega)]
  unfold lvV
  rw [if_neg (by omega), show (k % m * 2 + 1) / 2 = k % m by omega]
  rfl
/-- The lists by themselves. -/
def rsJ (m N : Nat) (AA : Nat → Nat) : List RowJ := (List.range N).map fun p => ⟨sl6 AA m p, m⟩
theorem rsJ_get {k : Nat} {x : RowJ} (h : (rsJ m N AA)[k]? = some x) : k < N ∧ x = ⟨sl6 AA m k, m⟩ := by
  unfold rsJ at h
  rw [List.getElem?_map] at h
  by_cases hk : k < N
  · rw [List.getElem?_range hk] at h
    exact ⟨hk, by simpa using h.symm⟩
  · rw [List.getElem?_eq_none (by simpa using hk)] at h
    simp at h
theorem Lv6.lists (h : Lv6 B m AA nn FF N W) (hm : m ≤ 64) (hA : ∀ p, p < N → At W' (AA p) (lvC m (nn p) (AA p) m) 50) : RowsJ 50 2 W' B (rsJ m N AA) (lvV AA nn) := by
  refine ⟨fun k x hk => ?_, fun k l x y g hk hl hx hy => ?_⟩
  · obtain ⟨h1, rfl⟩ := rsJ_get hk
    refine ⟨celL_len _ _, .inr ⟨AA k, m, lvC m (nn k) (AA k) m, rfl, h.lo k h1, hA k h1, Nat.le_refl _, by unfold maxLen; omega, lvC_size _ _ _ _, ?_⟩⟩
    rw [List.take_of_length_le (by rw [Array.length_toList, lvC_size]; exact Nat.le_refl _)]
    apply List.ext_getElem?
    intro j
    rw [Array.getElem?_toList]
    show _ = (celL (m * 2) (lvV AA nn k))[j]?
    by_cases hj : j < m * 2
    · rw [lvC_get hj, celL_get _ hj, if_pos (by omega)]
      rfl
    · rw [Array.getElem?_eq_none (by rw [lvC_size]; omega)]
      simp [celL, hj]
  · obtain ⟨h1, rfl⟩ := rsJ_get hk
    obtain ⟨h2, rfl⟩ := rsJ_get hl
    have e1 : AA k = g := Option.some.inj hx
    have e2 : AA l = g := Option.some.inj hy
    rcases Nat.lt_trichotomy k l with h7 | h7 | h7
    · have := h.ord _ _ h7 h2; omega
    · exact h7
    · have := h.ord _ _ h7 h1; omega
end

set_option maxRecDepth 10000 in
set_option maxHeartbeats 4000000 in
theorem apartLv_calls (B m : Nat) (hm0 : 0 < m) (hm : m ≤ 64) (AA nn : Nat → Nat) (FF : Nat → Nat → Nat → Nat) (hn : ∀ p, p < 6 → nn p ≤ 1048576) (w : World) (G cap : Nat) (hBw : B ≤ w.heap.size) (hL : Lv6 B m AA nn FF 6 w) (hG : ∀ i, i < 3 → w.cell? ⟨G, i * 2, none⟩ = some (sl6 AA m (2 * i)) ∧ w.cell? ⟨G, i * 2 + 1, none⟩ = some (sl6 AA m (2 * i + 1))) (hGl : G < w.heap.size) :
    Calls Tryd.prog 17 #[.slice (some ⟨G, 0, none⟩) 3 cap] w fun e w' => e = .returned (.bool true) ∧ Below B w w' := by
  have hL' := hid hL
  have hG' : Hid (∀ W, Below w.heap.size w W → ∀ i, i < 3 → W.cell? ⟨G, i * 2, none⟩ = some (sl6 AA m (2 * i)) ∧ W.cell? ⟨G, i * 2 + 1, none⟩ = some (sl6 AA m (2 * i + 1))) := fun W hb i hi => ⟨(hb.cell (p := ⟨G, i * 2, none⟩) hGl).trans (hG i hi).1, (hb.cell (p := ⟨G, i * 2 + 1, none⟩) hGl).trans (hG i hi).2⟩
  have hn' := hid hn
  have hBw' := hid hBw
  have hm' := hid hm
  have hm0' := hid hm0
  clear hL hG hn hBw hGl hm hm0
  go_enter Tryd.func17, Tryd.ntmps17
  go_wp2
  go_loopw [3, 4, 5] (fun v3 v4 ii wr => ∃ i : Nat, i ≤ 3 ∧ ii = .int .i64 (i : Int) ∧ Hid (wr.ownsRow w.heap.size 50 2 v3 (2 * i * m) (celL (2 * i * m * 2) (lvR m AA nn))) ∧ Hid (wr.ownsRow w.heap.size 32 1 v4 (2 * i) (celL (2 * i) (sl6 AA m))) ∧ Hid (Below w.heap.size w wr)) (fun _ _ ii _ => 3 - (intOf ii).toNat)
  case atStart => exact ⟨0, by decide, rfl, hid (by simpa [celL] using World.ownsRow_nil w w.heap.size 50 2), hid (by simpa [celL] using World.ownsRow_nil w w.heap.size 32 1), hid (Below.refl _ _)⟩
  case round =>
    obtain ⟨i, hi3, rfl, h3, h4, hB⟩ := hrel
    by_cases hi : i < 3
    · have hii : (i : Int) < 3 := by omega
      have c0 : wr.cell? ⟨G, i * 2, none⟩ = some (.slice (some ⟨AA (2 * i), 0, none⟩) m m) := (hG'.out wr hB.out i hi).1
      have hz := hid hB.out.size
      obtain ⟨q, hq⟩ : ∃ q, Hid (2 * i = q) := ⟨_, rfl⟩
      rw [hq.out] at h3 h4 c0
      have hq6 : Hid (q < 6 ∧ q + 1 < 6) := by show _ ∧ _; have := hq.out; omega
      have hLr := hid (hL'.out.kept hB.out)
      go_wp2_with (first
        | (at_builtin; refine wpList_rows rfl _ _ rfl hLr.out rfl rfl hq6.out.1 (by have := hq6.out; omega) hm'.out h3.out hz.out ?_)
        | go_in)
      intro v' w' hown hgr
      have h3a := hid hown
      have h4a := hid (rowz_other (by decide) h4.out h3.out hgr)
      have hBa := hid (hB.out.grown hgr hz.out (fun b e => (h3.out.lt b e).1))
      clear hown hgr h3 h4 hB c0 hLr hz
      have c1 : w'.cell? ⟨G, i * 2 + 1, none⟩ = some (.slice (some ⟨AA (q + 1), 0, none⟩) m m) := by rw [← hq.out]; exact (hG'.out w' hBa.out i hi).2
      have hz := hid hBa.out.size
      have hLr := hid (hL'.out.kept hBa.out)
      go_wp2_with (first
        | (at_builtin; refine wpList_rows rfl _ _ rfl hLr.out rfl rfl hq6.out.2 (by have := hq6.out; omega) hm'.out h3a.out hz.out ?_)
        | go_in)
      intro v'' w'' hown hgr
      have h3b := hid hown
      have h4b := hid (rowz_other (by decide) h4a.out h3a.out hgr)
      have hBb := hid (hBa.out.grown hgr hz.out (fun b e => (h3a.out.lt b e).1))
      clear hown hgr h3a h4a hBa c1 hLr hz
      have c0 : w''.cell? ⟨G, i * 2, none⟩ = some (.slice (some ⟨AA q, 0, none⟩) m m) := by rw [← hq.out]; exact (hG'.out w'' hBb.out i hi).1
      have c1 : w''.cell? ⟨G, i * 2 + 1, none⟩ = some (.slice (some ⟨AA (q + 1), 0, none⟩) m m) := by rw [← hq.out]; exact (hG'.out w'' hBb.out i hi).2
      have hS : Hid (∀ W, Below w.heap.size w W → W.cell? ⟨G, i * 2, none⟩ = some (.slice (some ⟨AA q, 0, none⟩) m m) ∧ W.cell? ⟨G, i * 2 + 1, none⟩ = some (.slice (some ⟨AA (q + 1), 0, none⟩) m m)) := fun W hb => by
        have := hG'.out W hb i hi
        rw [hq.out] at this
        exact this
      go_wp2_with fail
      rename_i K8 hK8
      refine wp_region_held_drew (S := fun W' => W'.cell? ⟨G, i * 2, none⟩ = some (.slice (some ⟨AA q, 0, none⟩) m m) ∧ W'.cell? ⟨G, i * 2 + 1, none⟩ = some (.slice (some ⟨AA (q + 1), 0, none⟩) m m)) (by kernel_rfl) ⟨c0, c1⟩ (fun hHeld => ?_)
      clear c0 c1
      have hBc := hid hBb.out.drew
      have h3c := hid (World.ownsRow.drew h3b.out)
      have h4c := hid (World.ownsRow.drew h4b.out)
      obtain ⟨x0, ex0⟩ : ∃ x, World.drew w'' = x := ⟨_, rfl⟩
      rw [ex0] at hBc h3c h4c hHeld ⊢
      clear ex0 h3b h4b hBb
      (refine' wpAnyH_take (i := 0) rfl (by kernel_rfl) (by kernel_rfl) (by kernel_rfl) (fun _ _ _ h => h) (Or.inl ⟨by rfl, ?_⟩) (by assumption) ?_; rotate_left; (· (intro wq hq; (try dsimp only at hq); go_simp; first | done | with_reducible rfl)); simp only [Act.put, List.getElem_toArray, List.getElem_cons_zero, List.setIfInBounds_toArray, List.set_cons_zero, List.set_cons_succ])
      (refine' wpAnyH_take (i := 1) rfl (by kernel_rfl) (by kernel_rfl) (by kernel_rfl) (fun _ _ _ h => h) (Or.inl ⟨by rfl, ?_⟩) (by assumption) ?_; rotate_left; (· (intro wq hq; (try dsimp only at hq); go_simp; first | done | with_reducible rfl)); simp only [Act.put, List.getElem_toArray, List.getElem_cons_zero, List.getElem_cons_succ, List.setIfInBounds_toArray, List.set_cons_zero, List.set_cons_succ])
      (refine' wpAnyH_take (i := 2) rfl (by kernel_rfl) (by kernel_rfl) (by kernel_rfl) (fun _ _ _ h => h) (Or.inl ⟨by rfl, ?_⟩) (by assumption) ?_; rotate_left; (· (intro wq hq; (try dsimp only at hq); go_simp; first | done | with_reducible rfl)); simp only [Act.put, List.getElem_toArray, List.getElem_cons_zero, List.getElem_cons_succ, List.setIfInBounds_toArray, List.set_cons_zero, List.set_cons_succ])
      (refine' wpAnyH_take (i := 3) rfl (by kernel_rfl) (by kernel_rfl) (by kernel_rfl) (fun _ _ _ h => h) (Or.inl ⟨by rfl, ?_⟩) (by assumption) ?_; rotate_left; (· (intro wq hq; (try dsimp only at hq); go_simp; first | done | with_reducible rfl)); simp only [Act.put, List.getElem_toArray, List.getElem_cons_zero, List.getElem_cons_succ, List.setIfInBounds_toArray, List.set_cons_zero, List.set_cons_succ])
      (refine' wpAnyH_take (i := 4) rfl (by kernel_rfl) (by kernel_rfl) (by kernel_rfl) (fun _ _ _ h => h) (Or.inl ⟨by rfl, ?_⟩) (by assumption) ?_; rotate_left; (· (intro wq hq; (try dsimp only at hq); go_simp; first | done | with_reducible rfl)); simp only [Act.put, List.getElem_toArray, List.getElem_cons_zero, List.getElem_cons_succ, List.setIfInBounds_toArray, List.set_cons_zero, List.set_cons_succ])
      (refine' wpAnyH_take (i := 5) rfl (by kernel_rfl) (by kernel_rfl) (by kernel_rfl) (fun _ _ _ h => h) (Or.inl ⟨by rfl, ?_⟩) (by assumption) ?_; rotate_left; (· (intro wq hq; (try dsimp only at hq); go_simp; first | done | with_reducible rfl)); simp only [Act.put, List.getElem_toArray, List.getElem_cons_zero, List.getElem_cons_succ, List.setIfInBounds_toArray, List.set_cons_zero, List.set_cons_succ])
      (refine' wpAnyH_take (i := 6) rfl (by kernel_rfl) (by kernel_rfl) (by kernel_rfl) (fun _ _ _ h => h) (Or.inl ⟨by rfl, ?_⟩) (by assumption) ?_; rotate_left; (· (intro wq hq; (try dsimp only at hq); go_simp; first | done | with_reducible rfl)); simp only [Act.put, List.getElem_toArray, List.getElem_cons_zero, List.getElem_cons_succ, List.setIfInBounds_toArray, List.set_cons_zero, List.set_cons_succ])
      (refine' wpAnyH_take (i := 7) rfl (by kernel_rfl) (by kernel_rfl) (by kernel_rfl) (fun _ _ _ h => h) (Or.inl ⟨by rfl, ?_⟩) (by assumption) ?_; rotate_left; (· (intro wq hq; (try dsimp only at hq); go_simp; first | done | with_reducible rfl)); simp only [Act.put, List.getElem_toArray, List.getElem_cons_zero, List.getElem_cons_succ, List.setIfInBounds_toArray, List.set_cons_zero, List.set_cons_succ])
      (refine' wpAnyH_take (i := 8) rfl (by kernel_rfl) (by kernel_rfl) (by kernel_rfl) (fun _ _ _ h => h) (Or.inl ⟨by rfl, ?_⟩) (by assumption) ?_; rotate_left; (· (intro wq hq; (try dsimp only at hq); go_simp; first | done | with_reducible rfl)); simp only [Act.put, List.getElem_toArray, List.getElem_cons_zero, List.getElem_cons_succ, List.setIfInBounds_toArray, List.set_cons_zero, List.set_cons_succ])
      (refine' wpAnyH_take (i := 9) rfl (by kernel_rfl) (by kernel_rfl) (by kernel_rfl) (fun _ _ _ h => h) (Or.inl ⟨by rfl, ?_⟩) (by assumption) ?_; rotate_left; (· (intro wq hq; (try dsimp only at hq); go_simp; first | done | with_reducible rfl)); simp only [Act.put, List.getElem_toArray, List.getElem_cons_zero, List.getElem_cons_succ, List.setIfInBounds_toArray, List.set_cons_zero, List.set_cons_succ])
      (refine' wpAnyH_take (i := 10) rfl (by kernel_rfl) (by kernel_rfl) (by kernel_rfl) (fun _ _ _ h => h) (Or.inl ⟨by rfl, ?_⟩) (by assumption) ?_; rotate_left; (· (intro wq hq; (try dsimp only at hq); go_simp; first | done | with_reducible rfl)); simp only [Act.put, List.getElem_toArray, List.getElem_cons_zero, List.getElem_cons_succ, List.setIfInBounds_toArray, List.set_cons_zero, List.set_cons_succ])
      refine wpAnyH_ready (rs := [11]) (by kernel_rfl) (by simp) ?_
      refine AllReadyH.cons rfl (fun K hK => ?_) ?_
      · go_simp
        obtain ⟨x1, ex⟩ : ∃ x, World.alloc x0 (.cells #[.slice (some ⟨AA q, 0, none⟩) m m, .slice (some ⟨AA (q + 1), 0, none⟩) m m] 32) = x := ⟨_, rfl⟩
        have qb : Below x0.heap.size x0 x1 := by rw [← ex]; exact (Below.refl _ _).alloc (Nat.le_refl _) _
        have hp := hid (show At x1 x0.heap.size #[.slice (some ⟨AA q, 0, none⟩) m m, .slice (some ⟨AA (q + 1), 0, none⟩) m m] 32 by rw [← ex]; exact At.new x0 _ _)
        rw [ex]
        obtain ⟨pp, ep⟩ : ∃ pp, x0.heap.size = pp := ⟨_, rfl⟩
        have h3d := hid (rowz_kept h3c.out qb)
        have h4d := hid (rowz_kept h4c.out qb)
        have hBd := hid (hBc.out.trans (qb.mono hBc.out.size))
        rw [ep] at hp ⊢
        clear ex ep qb h3c h4c hBc hHeld
        refine hK.out _ _ (hS.out x1 hBd.out) (fun _ => ?_)
        clear hK K
        have hHeld := hS.out x1 hBd.out
        obtain ⟨nv, y, hrun, hown, hgr⟩ := outer_append (ty := 62) (by have := hq6.out; omega) h4d.out hBd.out.size ⟨pp, 0, none⟩ 2 (by simpa [Addr.add, sl6] using hp.out.cell 0) (by simpa [Addr.add, sl6] using hp.out.cell 1)
        have hrun' := hid hrun
        have h4e := hid hown
        have h3e := hid (rowz_other (by decide) h3d.out h4d.out hgr)
        have hBe := hid (hBd.out.grown hgr hBd.out.size (fun b e => (h4d.out.lt b e).1))
        clear hrun hown hgr h3d h4d hBd hp
        refine wpAnyH_ready (rs := [12]) (by kernel_rfl) (by simp) ?_
        refine AllReadyH.cons rfl (fun K hK => ?_) ?_
        · rw [if_pos (by rfl)]
          refine wp_append_outer rfl rfl rfl hrun'.out ?_
          refine hK.out _ _ (hS.out y hBe.out) (fun _ => ?_)
          clear hK K hHeld
          have hHeld := hS.out y hBe.out
          (refine' wpAnyH_take (i := 13) rfl (by kernel_rfl) (by kernel_rfl) (by kernel_rfl) (fun _ _ _ h => h) (Or.inl ⟨by rfl, ?_⟩) (by assumption) ?_; rotate_left; (· (intro wq hq; (try dsimp only at hq); go_simp; first | done | with_reducible rfl)); simp only [Act.put, List.getElem_toArray, List.getElem_cons_zero, List.getElem_cons_succ, List.setIfInBounds_toArray, List.set_cons_zero, List.set_cons_succ])
          refine wpAnyH_done (by kernel_rfl) ?_ _
          refine hK8 _ _ ?_
          clear hHeld hK8 hrun'
          go_wp2
          go_roundw
          case rel =>
            refine ⟨i + 1, by omega, by simp, ?_, ?_, hBe⟩
            · have e : 2 * (i + 1) = q + 1 + 1 := by have := hq.out; omega
              rw [e]
              exact h3e
            · have e : 2 * (i + 1) = q + 2 := by have := hq.out; omega
              rw [e]
              exact h4e
          case measure => simp [intOf]; omega
        exact AllReadyH.nil
      exact AllReadyH.nil
    · obtain rfl : i = 3 := by omega
      obtain ⟨r6, hr6⟩ : ∃ r, Hid (2 * 3 * m = r) := ⟨_, rfl⟩
      rw [hr6.out] at h3
      have hrl : Hid (0 < r6 ∧ r6 ≤ 384 ∧ 6 * m = r6) := by show _ ∧ _; have := hr6.out; have := hm'.out; have := hm0'.out; omega
      obtain ⟨g, cg, _, rfl, hgb, -, -⟩ := rowz_new h3.out hrl.out.1
      obtain ⟨g4, cg4, cur4, rfl, hg4, hat4, hcur4⟩ := rowz_new h4.out (by decide)
      have hat4' := hid hat4
      have hcur4' := hid hcur4
      have hg4' := hid hg4
      have hLr := hid (hL'.out.kept hB.out)
      have hblk : Hid (∀ p, p < 6 → AA p + m < w.heap.size) := fun p hp => by
        have h1 := (hL'.out.lv p hp).lt.2 (m - 1) (by have := hm0'.out; omega)
        have := hm0'.out
        omega
      clear hat4 hcur4 hg4 hgb hL' hG'
      go_wp2_with fail
      refine Calls.mono (apartR_calls wr g r6 cg B (rsX m 6 AA nn) _ (by rw [← hrl.out.2.2]; simp [rsX]) hrl.out.1 (by have := hrl.out; omega) (fun x hx => by
          obtain ⟨k, hk⟩ := List.mem_iff_getElem?.1 hx
          obtain ⟨h1, rfl⟩ := rsX_get hk
          have h2 := hn'.out _ (div_lt hm0'.out h1).1
          show need _ ≤ _
          unfold need
          omega) (Nat.le_trans hBw'.out hB.out.size) (fun k x hk => by
          obtain ⟨h1, rfl⟩ := rsX_get hk
          have h2 : k * 2 + 1 < r6 * 2 := by have := hrl.out.2.2; omega
          rw [h3.out.cellAt (k * 2 + 1) h2, celL_get _ h2, lvR_odd m AA nn hm0'.out]) (hLr.out.rows hm0'.out)) ?_
      rintro e W1 ⟨rfl, hA1⟩
      have hA1' := hid hA1
      clear hA1
      go_wp2_with fail
      refine Calls.mono (apartB_calls W1 g4 6 cg4 B (rsJ m 6 AA) (lvV AA nn) cur4 32 (by simp [rsJ]) (by decide) (fun x hx => by
          obtain ⟨k, hk⟩ := List.mem_iff_getElem?.1 hx
          obtain ⟨h1, rfl⟩ := rsJ_get hk
          show m ≤ _
          have := hm'.out
          omega) (Nat.le_trans hBw'.out (Nat.le_trans hB.out.size hA1'.out.size)) (hA1'.out.2 _ _ _ hat4'.out (fun k x hk e => by
          obtain ⟨h1, rfl⟩ := rsX_get hk
          obtain ⟨h2, h3⟩ := div_lt hm0'.out h1
          have h4 := hblk.out _ h2
          have h5 : AA (k / m) + 1 + k % m = g4 := Option.some.inj e
          have h6 := hg4'.out
          omega)) (fun k x hk e => by
          obtain ⟨h1, rfl⟩ := rsJ_get hk
          have h4 := hblk.out _ h1
          have h5 : AA k = g4 := Option.some.inj e
          have h6 := hg4'.out
          omega) (fun k x hk => by
          obtain ⟨h1, rfl⟩ := rsJ_get hk
          exact hcur4'.out k _ (celL_get _ h1)) (hLr.out.lists hm'.out (fun p hp => hA1'.out.2 _ _ _ (hLr.out.lv p hp).1 (fun k x hk e => by
          obtain ⟨h1, rfl⟩ := rsX_get hk
          obtain ⟨h2, h3⟩ := div_lt hm0'.out h1
          exact hLr.out.off hp h2 h3 (Option.some.inj e).symm)))) ?_
      rintro e W2 ⟨rfl, hA2⟩
      have hfin := hid (((hB.out.mono hBw'.out).trans hA1'.out.1).trans hA2.1)
      clear hA2
      go_wp2
      go_ret
      exact ⟨rfl, hfin.out⟩
end Go.Proofs.YtodhekdnbenobaaDoor
