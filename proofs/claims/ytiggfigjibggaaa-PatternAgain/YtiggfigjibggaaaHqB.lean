/-
  What quarrykit.ApartLearnts answers of lists of learnt places that lie apart (with room behind them): true.
-/
import Derived.Test.YtiggfigjibggaaaHqA
import Derived.Test.YtiggfigjibggaaaHpS
namespace Go.Proofs.Ytiggfigjibggaaa
open Go.RowKit Go.Shelf

/-- The mark of a place, as a cell. -/
def ML (k j : Nat) : Value := if j % 4 = 2 then .int .i64 ((markN k (j / 4) : Nat) : Int) else if j % 4 = 0 then .string ⟨#[]⟩ else if j % 4 = 1 then .string ⟨#[110, 111]⟩ else .int .i64 0
theorem ML_one (k j : Nat) : (ML k j).oneCell' = true := by
  unfold ML
  split
  · rfl
  · split
    · rfl
    · split <;> rfl
/-- A mark's cells. -/
abbrev mkC (m : Nat) : List Value := [.string ⟨#[]⟩, .string ⟨#[110, 111]⟩, .int .i64 (m : Int), .int .i64 0]
theorem ML_0 (k i : Nat) : ML k (i * 4) = .string ⟨#[]⟩ := by
  unfold ML
  rw [if_neg (by omega), if_pos (by omega)]
theorem ML_1 (k i : Nat) : ML k (i * 4 + 1) = .string ⟨#[110, 111]⟩ := by
  unfold ML
  rw [if_neg (by omega), if_neg (by omega), if_pos (by omega)]
theorem ML_2 (k i : Nat) : ML k (i * 4 + 2) = .int .i64 ((markN k i : Nat) : Int) := by
  unfold ML
  rw [if_pos (by omega), show (i * 4 + 2) / 4 = i by omega]
theorem ML_3 (k i : Nat) : ML k (i * 4 + 3) = .int .i64 0 := by
  unfold ML
  rw [if_neg (by omega), if_neg (by omega), if_neg (by omega)]
theorem ML_get {k i m j : Nat} {u : Value} (hm : markN k i = m) (h : (mkC m)[j]? = some u) : j < 4 ∧ ML k (i * 4 + j) = u := by
  subst hm
  match j, h with
  | 0, h => simp at h; subst h; exact ⟨by omega, ML_0 k i⟩
  | 1, h => simp at h; subst h; exact ⟨by omega, ML_1 k i⟩
  | 2, h => simp at h; subst h; exact ⟨by omega, ML_2 k i⟩
  | 3, h => simp at h; subst h; exact ⟨by omega, ML_3 k i⟩
  | j + 4, h => simp at h
theorem ML_cel (k i m : Nat) (hm : markN k i = m) : celL 4 (fun j => ML k (i * 4 + j)) = mkC m := by
  show [ML k (i * 4), ML k (i * 4 + 1), ML k (i * 4 + 2), ML k (i * 4 + 3)] = _
  rw [ML_0, ML_1, ML_2, ML_3, hm]
theorem ML_new (k i m : Nat) (hm : markN k i = m) (w : World) : ∀ j, j < 4 → (w.alloc (.cells #[.string ⟨#[]⟩, .string ⟨#[110, 111]⟩, .int .i64 (m : Int), .int .i64 0] 25)).cell? ((⟨w.heap.size, 0, none⟩ : Addr).add j) = some (ML k (i * 4 + j)) := fun j hj => by
  have e : (⟨w.heap.size, 0, none⟩ : Addr).add j = ⟨w.heap.size, j, none⟩ := by by_cases h : j = 0 <;> simp [Addr.add, h]
  rw [e, (At.new w #[.string ⟨#[]⟩, .string ⟨#[110, 111]⟩, .int .i64 (m : Int), .int .i64 0] 25).cell j]
  have h1 : (mkC m)[j]? = some ((mkC m)[j]'(by simpa using hj)) := List.getElem?_eq_getElem _
  rw [(ML_get hm h1).2, List.getElem?_toArray, h1]
theorem infoSLr : (Try.prog.info? 22).map (fun i => (i.zero, i.size, i.bytes)) = some (some (.slice none 0 0), 1, 24) := by kernel_rfl
theorem appendSLr_apart {w : World} {base n : Nat} {ty : TypeId} {v x : Value} {xs : List Value} (hown : w.ownsRow base 22 1 v n xs) (ad : Addr) (c : Nat) (hcell : w.cell? (ad.add 0) = some x) (h1 : x.oneCell' = true) (hn : n < 1000000) (hbase : base ≤ w.heap.size) :
    ∃ v' w', (Builtin.append_ #[59, 59] ty #[v, .slice (some ad) 1 c]).run Try.prog w = .ok v' w' ∧ w'.ownsRow base 22 1 v' (n + 1) (xs ++ [x]) ∧ w.grownBy w' v.ownBlock ∧ (v'.ownBlock = v.ownBlock ∨ ∃ g, v'.ownBlock = some g ∧ w.heap.size ≤ g) := by
  obtain ⟨i0, hi, hz0, hz1, hz2⟩ := info_parts infoSLr
  obtain ⟨v', w', hr, r1, r2⟩ := appendJ (P := Try.prog) (ty := ty) Try.underlying59 hi hz0 hz1 hz2 rfl (by decide) hown ad 1 c [x] rfl (by
    intro j u hj
    match j, hj with
    | 0, hj => simp at hj; subst hj; exact hcell) (by intro u hu; simp at hu; subst hu; exact h1) (by unfold maxLen; omega) (by omega) hbase
  refine ⟨v', w', hr, r1, ?_⟩
  rcases r2 with ⟨g, cap, rfl, rfl, h3⟩ | ⟨h3, h4⟩
  · exact ⟨h3, .inl rfl⟩
  · obtain ⟨g, _, _, rfl, _⟩ := rowz_new r1 (by omega)
    exact ⟨h4.but _, .inr ⟨g, rfl, h3 g rfl⟩⟩
theorem wpList_appendSLr {ops : Array Oper} {rest : List Oper} {o : Oper} {a : Act} {w : World} {Q : Exit → Act → World → Prop} (hgd : o.guard = none) (s y : Operand)
    (ho : o.op = .call { callee := .builtin .append, args := #[s, y], argTypes := #[59, 59] }) (base : Nat) (v x : Value) (n : Nat) (xs : List Value) (hs : a.eval s = v) (hown : w.ownsRow base 22 1 v n xs)
    (ad : Addr) (c : Nat) (hy : a.eval y = .slice (some ad) 1 c) (hcell : w.cell? (ad.add 0) = some x) (h1 : x.oneCell' = true) (hn : n < 1000000) (hbase : base ≤ w.heap.size)
    (h : ∀ v' w', w'.ownsRow base 22 1 v' (n + 1) (xs ++ [x]) → w.grownBy w' v.ownBlock → (v'.ownBlock = v.ownBlock ∨ ∃ g, v'.ownBlock = some g ∧ w.heap.size ≤ g) → wpList Try.prog ops Q rest (a.put o.dst v') w') : wpList Try.prog ops Q (o :: rest) a w := by
  refine wpList_plain hgd fun K hK => ?_
  obtain ⟨v', w', hr, r1, r2, r3⟩ := appendSLr_apart (ty := o.type) hown ad c hcell h1 hn hbase
  unfold Oper.wp
  simp [execOp, ho, resolve, invoke, builtin, hs, hy, hr, Result.andThen]
  exact hK _ _ (h v' w' r1 r2 r3)
theorem wpList_growLr {ops : Array Oper} {rest : List Oper} {o : Oper} {a : Act} {W : World} {Q : Exit → Act → World → Prop} (hgd : o.guard = none) (s y : Operand)
    (ho : o.op = .call { callee := .builtin .append, args := #[s, y], argTypes := #[22, 22] }) {B wb i k : Nat} {x : RowJ} {v : Value} (hs : a.eval s = v) (hv : GrowJ 25 4 W B wb (ML k) x i v) (hx : W.ownsRow B 25 4 x.v x.n (celL (x.n * 4) (ML k))) (hxlt : ∀ g, x.v.ownBlock = some g → g < wb) (hwb : wb ≤ W.heap.size) (hBw : B ≤ W.heap.size) (ad : Addr) (c : Nat) (hy : a.eval y = .slice (some ad) 1 c) (hcell : ∀ j, j < 4 → W.cell? (ad.add j) = some (ML k ((x.n + i) * 4 + j))) (hr : x.n + i + 1 ≤ 2000000)
    (hQ : ∀ v' w', GrowJ 25 4 w' B wb (ML k) x (i + 1) v' → W.grownBy w' v.ownBlock → w'.ownsRow B 25 4 x.v x.n (celL (x.n * 4) (ML k)) → wpList Try.prog ops Q rest (a.put o.dst v') w') : wpList Try.prog ops Q (o :: rest) a W := by
  refine wpList_plain hgd fun K hK => ?_
  obtain ⟨i0, hi, hz0, hz1, hz2⟩ := info_parts infoLr
  obtain ⟨v', w', hr, r1, r2, r3⟩ := growJ_append (P := Try.prog) (ty := o.type) Try.underlying22 hi hz0 hz1 hz2 rfl (by decide) hv hx hxlt hwb hBw ad c hcell (ML_one k) (by unfold maxLen; omega) (by omega)
  unfold Oper.wp
  simp [execOp, ho, resolve, invoke, builtin, hs, hy, hr, Result.andThen]
  exact hK _ _ (hQ v' w' r1 r2 r3)
theorem wpList_manyLr {ops : Array Oper} {rest : List Oper} {o : Oper} {a : Act} {W : World} {Q : Exit → Act → World → Prop} (hgd : o.guard = none) (s y : Operand)
    (ho : o.op = .call { callee := .builtin .append, args := #[s, y], argTypes := #[22, 22] }) {B k : Nat} {x : RowJ} {v : Value} (hxv : x.v = v) (hs : a.eval s = v) (hx : W.ownsRow B 25 4 x.v x.n (celL (x.n * 4) (ML k))) (hBw : B ≤ W.heap.size) (ad : Addr) (m c : Nat) (news : List Value) (hy : a.eval y = .slice (some ad) m c) (hl : news.length = m * 4) (hnews : ∀ j u, news[j]? = some u → W.cell? (ad.add j) = some u) (h1 : ∀ u ∈ news, u.oneCell' = true) (hr : x.n + m ≤ 2000000)
    (hQ : ∀ v' w', w'.ownsRow B 25 4 v' (x.n + m) (celL (x.n * 4) (ML k) ++ news) → (∀ g, v'.ownBlock = some g → x.v.ownBlock = some g ∨ W.heap.size ≤ g) → W.grownBy w' x.v.ownBlock → w'.ownsRow B 25 4 x.v x.n (celL (x.n * 4) (ML k)) → wpList Try.prog ops Q rest (a.put o.dst v') w') : wpList Try.prog ops Q (o :: rest) a W := by
  subst hxv
  refine wpList_plain hgd fun K hK => ?_
  obtain ⟨i0, hi, hz0, hz1, hz2⟩ := info_parts infoLr
  obtain ⟨v', w', hr, r1, r2, r3, r4⟩ := manyJ_append (P := Try.prog) (ty := o.type) Try.underlying22 hi hz0 hz1 hz2 rfl (by decide) hx hBw ad m c news hl hnews h1 (by unfold maxLen; omega) (by omega)
  unfold Oper.wp
  simp [execOp, ho, resolve, invoke, builtin, hs, hy, hr, Result.andThen]
  exact hK _ _ (hQ v' w' r1 r2 r3 r4)

set_option maxRecDepth 10000 in
set_option maxHeartbeats 8000000 in
theorem apartL_calls (w : World) (G n cap B : Nat) (rs : List RowJ) (F : Nat → Nat → Value) (cs : Array Value) (ty : TypeId) (hn : rs.length = n) (hn2 : n ≤ 100) (hr : ∀ x ∈ rs, x.n ≤ 1000000) (hBw : B ≤ w.heap.size) (hGa : At w G cs ty) (hGr : ∀ (k : Nat) (x : RowJ), rs[k]? = some x → x.v.ownBlock ≠ some G) (hG : ∀ (k : Nat) (x : RowJ), rs[k]? = some x → cs[k]? = some x.v) (hR : RowsJ 25 4 w B rs F) :
    Calls Try.prog 21 #[.slice (some ⟨G, 0, none⟩) n cap] w fun e w' => e = .returned (.bool true) ∧ ApartJ B rs w w' := by
  have hGc : Hid (∀ (W : World), ApartJ B rs w W → ∀ (k : Nat) (x : RowJ), rs[k]? = some x → W.cell? ⟨G, k, none⟩ = some x.v) := fun W h k x hk => by
    rw [(h.at hGa hGr).cell k, hG k x hk]
  have hR' := hid hR
  have hn' := hid hn
  have hr' := hid hr
  have hBw' := hid hBw
  have hGr' := hid hGr
  have hgw : Hid (∀ (k : Nat) (x : RowJ) (g : Nat), rs[k]? = some x → x.v.ownBlock = some g → B ≤ g ∧ g < w.heap.size) := fun k x g hk hg => hR.lt hk hg
  have hsl : Hid (∀ (k : Nat) (x : RowJ), rs[k]? = some x → ∃ so cap, x.v = .slice so x.n cap) := fun k x hk => hR.slice hk
  clear hG hR hn hr hGa hGr hBw
  go_enter Try.func21, Try.ntmps21
  go_wp2
  go_loopw [3, 4] (fun kk _ wr => ∃ k : Nat, k ≤ n ∧ kk = .int .i64 (k : Int) ∧ Hid (RowsJ 25 4 wr B rs (fun l j => if l < k then ML l j else F l j)) ∧ Hid (ApartJ B rs w wr)) (fun kk _ _ => n - (intOf kk).toNat)
  case atStart => exact ⟨0, Nat.zero_le _, rfl, hid (hR'.out.congr (fun k x j _ _ => by simp)), hid (ApartJ.refl _ _ _)⟩
  case round =>
    obtain ⟨k, hkn, rfl, hX, hB⟩ := hrel
    by_cases hlt : k < n
    · have hki : (k : Int) < (n : Int) := by omega
      obtain ⟨x, hx⟩ : ∃ x, rs[k]? = some x := ⟨_, List.getElem?_eq_getElem (by have := hn'.out; omega)⟩
      have hx' := hid hx
      have hxr := hr'.out x (List.mem_of_getElem? hx)
      obtain ⟨so, cp, hxv⟩ := hsl.out k x hx
      have hxv' := hid hxv
      clear hx hxv
      go_wp2
      go_loopw [4] (fun ii wr => ∃ i : Nat, i ≤ x.n ∧ ii = .int .i64 (i : Int) ∧ Hid (RowsJ 25 4 wr B rs (fun l j => if l < k ∨ (l = k ∧ j < i * 4) then ML l j else F l j)) ∧ Hid (ApartJ B rs w wr)) (fun ii _ => x.n - (intOf ii).toNat)
      case atStart => exact ⟨0, Nat.zero_le _, rfl, hid (hX.out.congr (fun l y j _ _ => by simp)), hB⟩
      case round =>
        obtain ⟨i, hir, rfl, hX2, hB2⟩ := hrel
        have c0 : wr.cell? ⟨G, k, none⟩ = some (.slice so x.n cp) := by rw [← hxv'.out]; exact hGc.out wr hB2.out k x hx'.out
        by_cases hil : i < x.n
        · have hii : (i : Int) < (x.n : Int) := by omega
          obtain ⟨g, cp', hg, hgB, hgl, m0, f0⟩ := hX2.out.at hx'.out (j := i * 4) (by omega)
          obtain ⟨g', cp'', hg', -, -, m1, f1⟩ := hX2.out.at hx'.out (j := i * 4 + 1) (by omega)
          obtain ⟨rfl, rfl⟩ : g = g' ∧ cp' = cp'' := by
            rw [hg] at hg'
            simpa using hg'
          clear hg'
          obtain ⟨g', cp'', hg', -, -, m2, f2⟩ := hX2.out.at hx'.out (j := i * 4 + 2) (by omega)
          obtain ⟨rfl, rfl⟩ : g = g' ∧ cp' = cp'' := by
            rw [hg] at hg'
            simpa using hg'
          clear hg'
          obtain ⟨g', cp'', hg', -, -, m3, f3⟩ := hX2.out.at hx'.out (j := i * 4 + 3) (by omega)
          obtain ⟨rfl, rfl⟩ : g = g' ∧ cp' = cp'' := by
            rw [hg] at hg'
            simpa using hg'
          clear hg'
          have ad4 : (⟨g, 0, none⟩ : Addr).add (i * 4) = ⟨g, i * 4, none⟩ := by by_cases h : i * 4 = 0 <;> simp [Addr.add, h]
          obtain ⟨rfl, rfl⟩ : so = some ⟨g, 0, none⟩ ∧ cp = cp' := by
            have := hxv'.out
            rw [hg] at this
            simpa [eq_comm] using this
          have hmk := hid (mark_calls k i (by omega) (by omega))
          obtain ⟨mk, hmkN⟩ : ∃ mk, Hid (markN k i = mk) := ⟨_, rfl⟩
          rw [hmkN.out] at hmk
          have hst := hid ((((hX2.out.set hx'.out hg (i * 4) (.string ⟨#[]⟩)).set hx'.out hg (i * 4 + 1) (.string ⟨#[110, 111]⟩)).set hx'.out hg (i * 4 + 2) (.int .i64 ((mk : Nat) : Int))).set hx'.out hg (i * 4 + 3) (.int .i64 0))
          have hBs := hid ((((hB2.out.set (b := g) ⟨hgB, .inr ⟨k, x, hx'.out, by rw [hg]; rfl⟩⟩ hBw'.out (i * 4) (.string ⟨#[]⟩)).set (b := g) ⟨hgB, .inr ⟨k, x, hx'.out, by rw [hg]; rfl⟩⟩ hBw'.out (i * 4 + 1) (.string ⟨#[110, 111]⟩)).set (b := g) ⟨hgB, .inr ⟨k, x, hx'.out, by rw [hg]; rfl⟩⟩ hBw'.out (i * 4 + 2) (.int .i64 ((mk : Nat) : Int))).set (b := g) ⟨hgB, .inr ⟨k, x, hx'.out, by rw [hg]; rfl⟩⟩ hBw'.out (i * 4 + 3) (.int .i64 0))
          have hgG : Hid (g ≠ G) := fun e => hGr'.out k x hx'.out (by rw [hg, e]; rfl)
          have cs' : ∀ u v y z, ((((wr.setCell ⟨g, i * 4, none⟩ u).setCell ⟨g, i * 4 + 1, none⟩ v).setCell ⟨g, i * 4 + 2, none⟩ y).setCell ⟨g, i * 4 + 3, none⟩ z).cell? ⟨G, k, none⟩ = some (.slice (some ⟨g, 0, none⟩) x.n cp) := fun u v y z => by
            rw [World.cell?_setCell_other _ _ _ _ (by simp; intro e; exact absurd e hgG.out), World.cell?_setCell_other _ _ _ _ (by simp; intro e; exact absurd e hgG.out), World.cell?_setCell_other _ _ _ _ (by simp; intro e; exact absurd e hgG.out), World.cell?_setCell_other _ _ _ _ (by simp; intro e; exact absurd e hgG.out)]; exact c0
          have cs'' := hid cs'
          have hg' := hid hg
          clear cs' hg
          go_wp2_with fail
          rename_i K7 hK7
          refine wp_region_held_drew (S := fun w' => w'.cell? ⟨G, k, none⟩ = some (.slice (some ⟨g, 0, none⟩) x.n cp)) (by kernel_rfl) c0 (fun hHeld => ?_)
          (refine' wpAnyH_take (i := 0) rfl (by kernel_rfl) (by kernel_rfl) (by kernel_rfl) (fun _ _ _ h => h) (Or.inl ⟨by rfl, ?_⟩) (by assumption) ?_; rotate_left; (· (intro wq hq; (try dsimp only at hq); go_simp; first | done | with_reducible rfl)); simp only [Act.put, List.getElem_toArray, List.getElem_cons_zero, List.setIfInBounds_toArray, List.set_cons_zero, List.set_cons_succ])
          (refine' wpAnyH_take (i := 1) rfl (by kernel_rfl) (by kernel_rfl) (by kernel_rfl) (fun _ _ _ h => h) (Or.inl ⟨by rfl, ?_⟩) (by assumption) ?_; rotate_left; (· (intro wq hq; (try dsimp only at hq); go_simp; first | done | with_reducible rfl)); simp only [Act.put, List.getElem_toArray, List.getElem_cons_zero, List.getElem_cons_succ, List.setIfInBounds_toArray, List.set_cons_zero, List.set_cons_succ])
          (refine' wpAnyH_take (i := 2) rfl (by kernel_rfl) (by kernel_rfl) (by kernel_rfl) (fun _ _ _ h => h) (Or.inl ⟨by rfl, ?_⟩) (by assumption) ?_; rotate_left; (· (intro wq hq; (try dsimp only at hq); go_simp; first | done | with_reducible rfl)); simp only [Act.put, List.getElem_toArray, List.getElem_cons_zero, List.getElem_cons_succ, List.setIfInBounds_toArray, List.set_cons_zero, List.set_cons_succ])
          (refine' wpAnyH_take (i := 3) rfl (by kernel_rfl) (by kernel_rfl) (by kernel_rfl) (fun _ _ _ h => h) (Or.inl ⟨by rfl, ?_⟩) (by assumption) ?_; rotate_left; (· (intro wq hq; (try dsimp only at hq); go_simp; first | done | with_reducible rfl)); simp only [Act.put, List.getElem_toArray, List.getElem_cons_zero, List.getElem_cons_succ, List.setIfInBounds_toArray, List.set_cons_zero, List.set_cons_succ])
          (refine' wpAnyH_take (i := 4) rfl (by kernel_rfl) (by kernel_rfl) (by kernel_rfl) (fun _ _ _ h => h) (Or.inl ⟨by rfl, ?_⟩) (by assumption) ?_; rotate_left; (· (intro wq hq; (try dsimp only at hq); go_simp; first | done | with_reducible rfl)); simp only [Act.put, List.getElem_toArray, List.getElem_cons_zero, List.getElem_cons_succ, List.setIfInBounds_toArray, List.set_cons_zero, List.set_cons_succ])
          (refine' wpAnyH_take (i := 5) rfl (by kernel_rfl) (by kernel_rfl) (by kernel_rfl) (fun _ _ _ h => h) (Or.inl ⟨by rfl, ?_⟩) (by assumption) ?_; rotate_left; (· (intro wq hq; (try dsimp only at hq); go_simp; first | done | with_reducible rfl)); simp only [Act.put, List.getElem_toArray, List.getElem_cons_zero, List.getElem_cons_succ, List.setIfInBounds_toArray, List.set_cons_zero, List.set_cons_succ])
          (refine' wpAnyH_take (i := 6) rfl (by kernel_rfl) (by kernel_rfl) (by kernel_rfl) (fun _ _ _ h => h) (Or.inl ⟨by rfl, ?_⟩) (by assumption) ?_; rotate_left; (· (intro wq hq; (try dsimp only at hq); go_simp; first | done | with_reducible rfl)); simp only [Act.put, List.getElem_toArray, List.getElem_cons_zero, List.getElem_cons_succ, List.setIfInBounds_toArray, List.set_cons_zero, List.set_cons_succ])
          refine wpAnyH_ready (rs := [7]) (by kernel_rfl) (by simp) ?_
          refine AllReadyH.cons rfl (fun K hK => ?_) ?_
          · rw [if_pos (by rfl)]
            go_simp
            refine (hmk.out _).mono ?_
            rintro e wq ⟨rfl, hwq⟩
            rw [hwq]
            clear hwq
            refine hK.out _ _ hHeld (fun hH => ?_)
            clear hK K
            (refine' wpAnyH_take (i := 8) rfl (by kernel_rfl) (by kernel_rfl) (by kernel_rfl) (fun _ _ _ h => h) (Or.inl ⟨by rfl, ?_⟩) (by assumption) ?_; rotate_left; (· (intro wq hq; (try dsimp only at hq); go_simp; first | done | with_reducible rfl)); simp only [Act.put, List.getElem_toArray, List.getElem_cons_zero, List.getElem_cons_succ, List.setIfInBounds_toArray, List.set_cons_zero, List.set_cons_succ])
            (refine' wpAnyH_take (i := 9) rfl (by kernel_rfl) (by kernel_rfl) (by kernel_rfl) (fun _ _ _ h => h) (Or.inl ⟨by rfl, ?_⟩) (by assumption) ?_; rotate_left; (· (intro wq hq; (try dsimp only at hq); go_simp; first | done | with_reducible rfl)); simp only [Act.put, List.getElem_toArray, List.getElem_cons_zero, List.getElem_cons_succ, List.setIfInBounds_toArray, List.set_cons_zero, List.set_cons_succ])
            refine wpAnyH_ready (rs := [10]) (by kernel_rfl) (by simp) ?_
            refine AllReadyH.cons rfl (fun K hK => ?_) ?_
            · go_simp
              refine hK.out _ _ (cs''.out _ _ _ _) (fun hH2 => ?_)
              clear hK K
              refine wpAnyH_done (by kernel_rfl) ?_ _
              refine hK7 _ _ ?_
              go_wp2
              go_roundw
              case rel =>
                refine ⟨i + 1, by omega, by simp, hid (hst.out.drew.congr (fun l y j _ _ => ?_)), hid hBs.out.drew⟩
                by_cases h3 : l = k ∧ j = i * 4 + 3
                · obtain ⟨rfl, rfl⟩ := h3
                  rw [if_pos ⟨rfl, rfl⟩, if_pos (by omega), ML_3]
                · rw [if_neg h3]
                  by_cases h2 : l = k ∧ j = i * 4 + 2
                  · obtain ⟨rfl, rfl⟩ := h2
                    rw [if_pos ⟨rfl, rfl⟩, if_pos (by omega), ML_2, hmkN.out]
                  · rw [if_neg h2]
                    by_cases h1 : l = k ∧ j = i * 4 + 1
                    · obtain ⟨rfl, rfl⟩ := h1
                      rw [if_pos ⟨rfl, rfl⟩, if_pos (by omega), ML_1]
                    · rw [if_neg h1]
                      by_cases h0 : l = k ∧ j = i * 4
                      · obtain ⟨rfl, rfl⟩ := h0
                        rw [if_pos ⟨rfl, rfl⟩, if_pos (by omega), ML_0]
                      · rw [if_neg h0]
                        have h4 : (l < k ∨ l = k ∧ j < i * 4) ↔ (l < k ∨ l = k ∧ j < (i + 1) * 4) := by omega
                        simp only [h4]
              case measure => simp [intOf]; omega
            · exact AllReadyH.nil
          · exact AllReadyH.nil
        · obtain rfl : i = x.n := by omega
          go_wp2
          go_roundw
          case rel => exact ⟨k + 1, by omega, by simp, hid (hX2.out.congr (fun l y j hl hj => by
                        by_cases h1 : l = k
                        · subst h1
                          obtain rfl : y = x := by rw [hx'.out] at hl; exact (Option.some.inj hl).symm
                          simp [hj]
                        · have h2 : (l < k ∨ l = k ∧ j < x.n * 4) ↔ l < k + 1 := by omega
                          simp only [h2])), hB2⟩
          case measure => simp [intOf]; omega
    · obtain rfl : k = n := by omega
      have hM : Hid (RowsJ 25 4 wr B rs ML) := hid (hX.out.congr (fun l y j hl _ => by
        have := (List.getElem?_eq_some_iff.1 hl).1
        rw [if_pos (by have := hn'.out; omega)]))
      clear hX hR'
      go_wp2
      go_loopw [5, 6, 7, 8] (fun gv kk _ _ wr => ∃ (l : Nat) (ys : List GrJ), l ≤ k ∧ kk = .int .i64 (l : Int) ∧ Hid (ys.length = l) ∧ Hid (GsJ 25 22 4 ML wr w.heap.size gv rs ys (fun x => x.n + 64)) ∧ Hid (RowsJ 25 4 wr B rs ML) ∧ Hid (ApartJ B rs w wr)) (fun _ kk _ _ _ => k - (intOf kk).toNat)
      case atStart => exact ⟨0, [], Nat.zero_le _, rfl, rfl, hid (GsJ.nil _ _ _ _ _ _ _ _), hM, hB⟩
      case round =>
        clear hM hB
        obtain ⟨l, ys, hlk, rfl, hyl, hGs, hM, hB⟩ := hrel
        by_cases hlt : l < k
        · have hki : (l : Int) < (k : Int) := by omega
          obtain ⟨x, hx⟩ : ∃ x, rs[l]? = some x := ⟨_, List.getElem?_eq_getElem (by have := hn'.out; omega)⟩
          have hx' := hid hx
          have hxr := hr'.out x (List.mem_of_getElem? hx)
          obtain ⟨w3, rfl⟩ : ∃ w3, w3 = wr := ⟨_, rfl⟩
          obtain ⟨so, cp, hxv⟩ := hsl.out l x hx
          have hxv' := hid hxv
          have c0 : w3.cell? ⟨G, l, none⟩ = some (.slice so x.n cp) := by rw [← hxv]; exact hGc.out w3 hB.out l x hx
          have hzw := hid hB.out.size
          have hxlt : Hid (∀ g, x.v.ownBlock = some g → g < w3.heap.size) := fun g hg => by have := (hgw.out l x g hx hg).2; have := hzw.out; omega
          clear hx hxv
          go_wp2
          go_loopw [7, 8] (fun v ii wr => ∃ i : Nat, i ≤ 64 ∧ ii = .int .i64 (i : Int) ∧ Hid (GrowJ 25 4 wr B w3.heap.size (ML l) x i v) ∧ Hid (w3.grownBy wr x.v.ownBlock) ∧ Hid (wr.ownsRow B 25 4 x.v x.n (celL (x.n * 4) (ML l)))) (fun _ ii _ => 64 - (intOf ii).toNat)
          case atStart => exact ⟨0, by decide, rfl, hid ⟨by rw [← hxv'.out]; exact hM.out.1 l x hx'.out, .inl ⟨so, cp, hxv'.out, rfl⟩⟩, hid (World.grownBy.refl _ _), hid (hM.out.1 l x hx'.out)⟩
          case round =>
            obtain ⟨i, hi64, rfl, hv, hBi, hxo⟩ := hrel
            have hBr : Hid (ApartJ B rs w wr) := hid (hB.out.grown hBi.out (fun r e => ⟨(hgw.out l x r hx'.out e).1, .inr ⟨l, x, hx'.out, e⟩⟩) hBw'.out)
            have c1 : wr.cell? ⟨G, l, none⟩ = some (.slice so x.n cp) := by rw [← hxv'.out]; exact hGc.out wr hBr.out l x hx'.out
            clear c0
            by_cases hi : i < 64
            · obtain ⟨P, hP⟩ : ∃ P, Hid (x.n + i = P) := ⟨_, rfl⟩
              have hsum : (x.n : Int) + (i : Int) = (P : Int) := by have := hP.out; omega
              have hPl : P ≤ 17592186044416 := by have := hP.out; omega
              have hmk := hid (mark_calls l P (by omega) hPl)
              obtain ⟨mk, hmkN⟩ : ∃ mk, Hid (markN l P = mk) := ⟨_, rfl⟩
              rw [hmkN.out] at hmk
              have hii : (i : Int) < 64 := by omega
              have hz := hid hBi.out.size
              have hv4 : Hid (GrowJ 25 4 (wr.alloc (.cells #[.string ⟨#[]⟩, .string ⟨#[110, 111]⟩, .int .i64 (mk : Int), .int .i64 0] 25)) B w3.heap.size (ML l) x i u7) := ⟨World.ownsRow.alloc hv.out.1 _, hv.out.2⟩
              have hxo4 : Hid ((wr.alloc (.cells #[.string ⟨#[]⟩, .string ⟨#[110, 111]⟩, .int .i64 (mk : Int), .int .i64 0] 25)).ownsRow B 25 4 x.v x.n (celL (x.n * 4) (ML l))) := World.ownsRow.alloc hxo.out _
              have hBz : Hid (B ≤ (wr.alloc (.cells #[.string ⟨#[]⟩, .string ⟨#[110, 111]⟩, .int .i64 (mk : Int), .int .i64 0] 25)).heap.size) := by
                show _ ≤ _
                rw [World.size_alloc]; have := hz.out; have := hzw.out; have := hBw'.out; omega
              have hcl := hid (ML_new l (x.n + i) mk (by rw [hP.out]; exact hmkN.out) wr)
              have hvb : Hid (∀ r, u7.ownBlock = some r → w3.heap.size ≤ r ∨ x.v.ownBlock = some r) := fun r e => by
                rcases hv.out.2 with ⟨so', cap', h1, h2⟩ | h1
                · right
                  rw [h1, own_len so' x.n (x.n + i) cap' cap', ← h2]
                  exact e
                · exact .inl (h1 r e)
              go_wp2_with (first
                | (go_at_call 40; refine Calls.mono (hmk.out _) ?_; rintro e w' ⟨rfl, hw'⟩; obtain rfl := hw'.symm)
                | (at_builtin; refine wpList_growLr rfl _ _ rfl rfl hv4.out hxo4.out hxlt.out (by rw [World.size_alloc]; have := hz.out; omega) hBz.out ⟨wr.heap.size, 0, none⟩ 1 rfl hcl.out (by omega) ?_)
                | go_in)
              intro v' w' hv' hb' hx2'
              have hv'' := hid hv'
              have hx'' := hid hx2'
              have hb'' := hid ((hBi.out.andThen (World.grownBy_alloc wr (.cells #[.string ⟨#[]⟩, .string ⟨#[110, 111]⟩, .int .i64 (mk : Int), .int .i64 0] 25) none) (fun j e => by cases e)).andThen hb' (fun j e => hvb.out j e))
              clear hv' hb' hx2'
              go_wp2
              go_roundw
              case rel => exact ⟨i + 1, by omega, by simp, hv'', hb'', hx''⟩
              case measure => simp [intOf]; omega
            · obtain rfl : i = 64 := by omega
              obtain ⟨g4, cap4, _, rfl, -, -, -⟩ := rowz_new hv.out.1 (by omega)
              have hv' := hid hv.out
              have hz := hid hBi.out.size
              have hxo' := hid hxo.out
              have hM4 : Hid (RowsJ 25 4 wr B rs ML) := hid (hM.out.growRow hx'.out hBi.out hxo.out)
              have hG4 : Hid (GsJ 25 22 4 ML wr w.heap.size u5 rs ys (fun x => x.n + 64)) := hid (hGs.out.growRow hM.out (fun k' x' g' hk' hg' => (hgw.out k' x' g' hk' hg').2) hx'.out hBi.out hxo.out (fun h => by have := hyl.out; omega))
              have hlt5 : Hid (∀ r, u5.ownBlock = some r → w.heap.size ≤ r ∧ r < w3.heap.size) := fun r e => hGs.out.1.lt r e
              have hal : Hid (Below wr.heap.size wr (wr.alloc (.cells #[.slice (some ⟨g4, 0, none⟩) (x.n + 64) cap4] 22))) := (Below.refl _ wr).alloc (Nat.le_refl _) _
              have hyn : ys.length < 1000000 := by have := hyl.out; omega
              have hbs : w.heap.size ≤ (wr.alloc (.cells #[.slice (some ⟨g4, 0, none⟩) (x.n + 64) cap4] 22)).heap.size := by
                rw [World.size_alloc]; have := hBr.out.size; omega
              clear hv hGs hM hB hxo
              have hge : ¬ (64 : Int) < 64 := by decide
              go_wp2_with (first
                | (at_builtin; refine wpList_appendSLr rfl _ _ rfl w.heap.size u5 (.slice (some ⟨g4, 0, none⟩) (x.n + 64) cap4) ys.length (List.zipWith slH rs ys) rfl (World.ownsRow.alloc hG4.out.1 _) ⟨wr.heap.size, 0, none⟩ 1 rfl ((At.new wr #[.slice (some ⟨g4, 0, none⟩) (x.n + 64) cap4] 22).cell 0) rfl hyn hbs ?_)
                | go_in)
              intro v' w' hown' hgr' hnew'
              obtain ⟨y, -, hpush⟩ := hG4.out.push (wb := w3.heap.size) (by rw [hyl.out]; exact hx'.out) (by rw [hyl.out]; exact hv'.out.1) (fun g e => by
                rcases hv'.out.2 with ⟨so', cap', h1, h2⟩ | h1
                · left
                  rw [h1, own_len so' x.n (x.n + 64) cap' cap', ← h2]
                  exact e
                · exact .inr (h1 g e)) hzw.out hlt5.out (fun g e => (hgw.out l x g hx'.out e).2) (Nat.le_refl _) hgr' hown' (by
                rcases hnew' with h1 | ⟨g1, h1, h2⟩
                · exact .inl h1
                · exact .inr ⟨g1, h1, by first | omega | (rw [World.size_alloc] at h2; omega)⟩)
              have hpush' := hid hpush
              have hMn := hid ((hM4.out.kept hal.out).grown hgr' (fun k' x' g' hk' hgx e => by have h1 := (hgw.out k' x' g' hk' hgx).2; have h2 := (hlt5.out g' e).1; omega))
              have hBn := hid ((hBr.out.kept hal.out hBw'.out).grown hgr' (fun r e => by have h1 := (hlt5.out r e).1; have h2 := hBw'.out; exact ⟨by omega, .inl h1⟩) hBw'.out)
              clear hown' hgr' hnew' hpush hG4 hM4 hBr
              go_wp2
              go_roundw
              case rel => exact ⟨l + 1, ys ++ [y], by omega, by simp, by show _ = _; rw [List.length_append, List.length_singleton, hyl.out], hpush', hMn, hBn⟩
              case measure => simp [intOf]; omega
        · obtain rfl : l = k := by omega
          go_wp2
          go_loopw [9, 10] (fun kk _ wr => ∃ k : Nat, k ≤ l ∧ kk = .int .i64 (k : Int) ∧ Hid (GsJ 25 22 4 ML wr w.heap.size u5 rs ys (fun x => x.n + 64)) ∧ Hid (RowsJ 25 4 wr B rs ML) ∧ Hid (ApartJ B rs w wr)) (fun kk _ _ => l - (intOf kk).toNat)
          case atStart => exact ⟨0, Nat.zero_le _, rfl, hGs, hM, hB⟩
          case round =>
            clear hGs hM hB
            obtain ⟨k, hkl, rfl, hGs, hM, hB⟩ := hrel
            by_cases hlt : k < l
            · have hki : (k : Int) < (l : Int) := by omega
              obtain ⟨x, hx⟩ : ∃ x, rs[k]? = some x := ⟨_, List.getElem?_eq_getElem (by have := hn'.out; omega)⟩
              obtain ⟨y, hy⟩ : ∃ y, ys[k]? = some y := ⟨_, List.getElem?_eq_getElem (by have := hyl.out; omega)⟩
              have hx' := hid hx
              have hy' := hid hy
              have hxr := hr'.out x (List.mem_of_getElem? hx)
              obtain ⟨so, cp, hxv⟩ := hsl.out k x hx
              have hxv' := hid hxv
              obtain ⟨gg, cg, hgv, -, -, -, -⟩ := hGs.out.at hx hy
              rw [hyl.out] at hgv
              clear hx hy hxv
              go_wp2
              go_loopw [10] (fun ii wr => ∃ i : Nat, i ≤ x.n + 64 ∧ ii = .int .i64 (i : Int) ∧ Hid (GsJ 25 22 4 ML wr w.heap.size u5 rs ys (fun x => x.n + 64)) ∧ Hid (RowsJ 25 4 wr B rs ML) ∧ Hid (ApartJ B rs w wr)) (fun ii _ => x.n + 64 - (intOf ii).toNat)
              case atStart => exact ⟨0, Nat.zero_le _, rfl, hGs, hM, hB⟩
              case round =>
                clear hGs hM hB
                obtain ⟨i, hi, rfl, hGs, hM, hB⟩ := hrel
                subst hgv
                obtain ⟨Q, hQ⟩ : ∃ Q, Hid (x.n + 64 = Q) := ⟨_, rfl⟩
                have c2 : wr.cell? ⟨gg, k, none⟩ = some (.slice (some ⟨y.b, 0, none⟩) Q y.c) := by
                  obtain ⟨gg', cg', e, -, -, h, -⟩ := hGs.out.at hx'.out hy'.out
                  cases e
                  rw [← hQ.out]
                  exact h
                have c1 : wr.cell? ⟨G, k, none⟩ = some (.slice so x.n cp) := by rw [← hxv'.out]; exact hGc.out wr hB.out k x hx'.out
                have hQl : Q ≤ 2000000 := by have := hQ.out; omega
                by_cases hiQ : i < Q
                · have hii : (i : Int) < (Q : Int) := by omega
                  have hiq' : i < x.n + 64 := by have := hQ.out; omega
                  have hmk := hid (mark_calls k i (by omega) (by omega))
                  obtain ⟨mk, hmkN⟩ : ∃ mk, Hid (markN k i = mk) := ⟨_, rfl⟩
                  rw [hmkN.out] at hmk
                  have emk : ((mk : Int) == (mk : Int)) = true := by simp
                  have R1 := hid (show wr.rangeAt y.b (i * 4) [.string ⟨#[]⟩, .string ⟨#[110, 111]⟩, .int .i64 (mk : Int), .int .i64 0] from fun j u hj => by
                    obtain ⟨h4, e4⟩ := ML_get hmkN.out hj
                    rw [← e4]
                    exact hGs.out.word hx'.out hy'.out (by have := hQ.out; omega))
                  have ad1 : (⟨y.b, 0, none⟩ : Addr).add (i * 4) = ⟨y.b, i * 4, none⟩ := by by_cases h : i * 4 = 0 <;> simp [Addr.add, h]
                  have eqs := eqLr ⟨#[]⟩ ⟨#[110, 111]⟩ (mk : Int) 0
                  by_cases hir : i < x.n
                  · obtain ⟨g, cp', hg, -, -, -, -⟩ := hM.out.at hx'.out (j := i * 4) (by omega)
                    obtain ⟨rfl, rfl⟩ : so = some ⟨g, 0, none⟩ ∧ cp = cp' := by
                      have := hxv'.out
                      rw [hg] at this
                      simpa [eq_comm] using this
                    have R2 := hid (show wr.rangeAt g (i * 4) [.string ⟨#[]⟩, .string ⟨#[110, 111]⟩, .int .i64 (mk : Int), .int .i64 0] from fun j u hj => by
                      obtain ⟨h4, e4⟩ := ML_get hmkN.out hj
                      rw [← e4]
                      obtain ⟨g', cp'', hg', -, -, m1, -⟩ := hM.out.at hx'.out (j := i * 4 + j) (by omega)
                      rw [hg] at hg'
                      simp only [Value.slice.injEq, Option.some.injEq, Addr.mk.injEq, and_true, true_and] at hg'
                      rw [hg'.1]
                      exact m1)
                    have ad2 : (⟨g, 0, none⟩ : Addr).add (i * 4) = ⟨g, i * 4, none⟩ := by by_cases h : i * 4 = 0 <;> simp [Addr.add, h]
                    clear hg
                    have hiri : (i : Int) < (x.n : Int) := by omega
                    have c1q := fun (wq : World) (h : Below wr.heap.size wr wq) => ((h.cell (block_lt_of_cell c1)).trans c1)
                    have c2q := fun (wq : World) (h : Below wr.heap.size wr wq) => ((h.cell (block_lt_of_cell c2)).trans c2)
                    go_wp2_with fail
                    clear c1 c2
                    refine wp_region_quiet (C := (fun w' => Below wr.heap.size wr w')) (by kernel_rfl) (by kernel_rfl) ((Below.refl _ _).drew) ?_
                    dsimp only
                    repeat (first
                      | go_big_quiet_skip
                      | (refine' wpQuiet_take (by rfl) ?_ ?_
                         rotate_left
                         · (intro wq hq; (try dsimp only at hq); go_simp
                            first
                              | done
                              | with_reducible rfl
                              | (go_at_call 40; with_reducible refine (hmk.out _).mono ?_; rintro e wz ⟨rfl, hb⟩; subst hb; exact ⟨rfl, hq⟩)
                           )
                         simp only [Act.put, List.setIfInBounds_toArray, List.set_cons_zero, List.set_cons_succ])
                      | (refine wpQuiet_load 25 _ (y.b) (i * 4) [.string ⟨#[]⟩, .string ⟨#[110, 111]⟩, .int .i64 (mk : Int), .int .i64 0] _ (fun wq hq => range_kept R1.out hq) Try.underlying25 sizeLr rfl rfl rfl (by rfl) ?_; simp only [Act.put, List.setIfInBounds_toArray, List.set_cons_zero, List.set_cons_succ])
                      | (refine wpQuiet_load 25 _ (g) (i * 4) [.string ⟨#[]⟩, .string ⟨#[110, 111]⟩, .int .i64 (mk : Int), .int .i64 0] _ (fun wq hq => range_kept R2.out hq) Try.underlying25 sizeLr rfl rfl rfl (by rfl) ?_; simp only [Act.put, List.setIfInBounds_toArray, List.set_cons_zero, List.set_cons_succ]))
                    refine wpQuiet_nil ?_
                    intro wz hwz
                    have hb := hid hwz
                    clear hwz
                    go_wp2
                    go_roundw
                    case rel => exact ⟨i + 1, by omega, by simp, hid (hGs.out.kept hb.out), hid (hM.out.kept hb.out), hid (hB.out.kept hb.out hBw'.out)⟩
                    case measure => simp [intOf]; omega
                  · have er1 : decide (i < x.n) = false := by simp; omega
                    have er2 : decide ((i : Int) < (x.n : Int)) = false := by simp; omega
                    have c1q := fun (wq : World) (h : Below wr.heap.size wr wq) => ((h.cell (block_lt_of_cell c1)).trans c1)
                    have c2q := fun (wq : World) (h : Below wr.heap.size wr wq) => ((h.cell (block_lt_of_cell c2)).trans c2)
                    go_wp2_with fail
                    clear c1 c2
                    refine wp_region_quiet (C := (fun w' => Below wr.heap.size wr w')) (by kernel_rfl) (by kernel_rfl) ((Below.refl _ _).drew) ?_
                    dsimp only
                    repeat (first
                      | go_big_quiet_skip
                      | (refine' wpQuiet_take (by rfl) ?_ ?_
                         rotate_left
                         · (intro wq hq; (try dsimp only at hq); go_simp
                            first
                              | done
                              | with_reducible rfl
                              | (go_at_call 40; with_reducible refine (hmk.out _).mono ?_; rintro e wz ⟨rfl, hb⟩; subst hb; exact ⟨rfl, hq⟩)
                           )
                         simp only [Act.put, List.setIfInBounds_toArray, List.set_cons_zero, List.set_cons_succ])
                      | (refine wpQuiet_load 25 _ (y.b) (i * 4) [.string ⟨#[]⟩, .string ⟨#[110, 111]⟩, .int .i64 (mk : Int), .int .i64 0] _ (fun wq hq => range_kept R1.out hq) Try.underlying25 sizeLr rfl rfl rfl (by rfl) ?_; simp only [Act.put, List.setIfInBounds_toArray, List.set_cons_zero, List.set_cons_succ]))
                    refine wpQuiet_nil ?_
                    intro wz hwz
                    have hb := hid hwz
                    clear hwz
                    go_wp2
                    go_roundw
                    case rel => exact ⟨i + 1, by omega, by simp, hid (hGs.out.kept hb.out), hid (hM.out.kept hb.out), hid (hB.out.kept hb.out hBw'.out)⟩
                    case measure => simp [intOf]; omega
                · obtain rfl : i = Q := by have := hQ.out; omega
                  clear c1
                  go_wp2
                  go_roundw
                  case rel => exact ⟨k + 1, by omega, by simp, hGs, hM, hB⟩
                  case measure => simp [intOf]; omega
            · obtain rfl : k = l := by omega
              have hGw : Hid (GsJ 25 22 4 ML wr w.heap.size u5 rs ys (fun x => x.n)) := hid (hGs.out.weaken (fun x => Nat.le_add_right _ _))
              clear hGs
              go_wp2
              go_loopw [11, 12, 13] (fun kk _ _ wr => ∃ (l : Nat) (ys : List GrJ), l ≤ k ∧ kk = .int .i64 (l : Int) ∧ Hid (ys.length = k) ∧ Hid (GsJ 25 22 4 ML wr w.heap.size u5 rs ys (fun x => x.n)) ∧ Hid (RowsJ 25 4 wr B rs ML) ∧ Hid (ApartJ B rs w wr)) (fun kk _ _ _ => k - (intOf kk).toNat)
              case atStart => exact ⟨0, ys, Nat.zero_le _, rfl, hyl, hGw, hM, hB⟩
              case round =>
                clear hGw hM hB hyl
                obtain ⟨l, zs, hlk, rfl, hyl, hGs, hM, hB⟩ := hrel
                by_cases hlt : l < k
                · have hki : (l : Int) < (k : Int) := by omega
                  obtain ⟨x, hx⟩ : ∃ x, rs[l]? = some x := ⟨_, List.getElem?_eq_getElem (by have := hn'.out; omega)⟩
                  obtain ⟨y, hy⟩ : ∃ y, zs[l]? = some y := ⟨_, List.getElem?_eq_getElem (by have := hyl.out; omega)⟩
                  have hx' := hid hx
                  have hy' := hid hy
                  have hxr := hr'.out x (List.mem_of_getElem? hx)
                  obtain ⟨so, cp, hxv⟩ := hsl.out l x hx
                  have hxv' := hid hxv
                  clear hx hy hxv
                  obtain ⟨w3, rfl⟩ : ∃ w3, w3 = wr := ⟨_, rfl⟩
                  go_wp2
                  go_loopw [12, 13] (fun v ii wr => ∃ i : Nat, i ≤ 64 ∧ ii = .int .i64 (i : Int) ∧ Hid (wr.ownsRow w3.heap.size 25 4 v i (celL (i * 4) (ML (l + k)))) ∧ Hid (Below w3.heap.size w3 wr)) (fun _ ii _ => 64 - (intOf ii).toNat)
                  case atStart => exact ⟨0, by decide, rfl, hid (by simpa [celL] using World.ownsRow_nil w3 w3.heap.size 25 4), hid (Below.refl _ _)⟩
                  case round =>
                    obtain ⟨i, hi64, rfl, hv, hBi⟩ := hrel
                    by_cases hi : i < 64
                    · obtain ⟨P, hP⟩ : ∃ P, Hid (l + k = P) := ⟨_, rfl⟩
                      have hsum : (l : Int) + (k : Int) = (P : Int) := by have := hP.out; omega
                      have hPl : P ≤ 1000000 := by have := hP.out; omega
                      have hmk := hid (mark_calls P i hPl (by omega))
                      obtain ⟨mk, hmkN⟩ : ∃ mk, Hid (markN P i = mk) := ⟨_, rfl⟩
                      rw [hmkN.out] at hmk
                      rw [hP.out] at hv
                      have hii : (i : Int) < 64 := by omega
                      have hz := hid hBi.out.size
                      obtain ⟨i0, hi0, hz0, hz1, hz2⟩ := info_parts infoLr
                      have hz0' := hid hz0
                      have hz1' := hid hz1
                      have hz2' := hid hz2
                      have hi0' := hid hi0
                      clear hz0 hz1 hz2 hi0
                      go_wp2_with (first
                        | (go_at_call 40; refine Calls.mono (hmk.out _) ?_; rintro e w' ⟨rfl, hw'⟩; obtain rfl := hw'.symm)
                        | (at_builtin; refine wpList_append_own _ rfl _ _ 22 rfl w3.heap.size 25 i0 (.agg #[.string ⟨#[]⟩, .string ⟨#[]⟩, .int .i64 0, .int .i64 0]) 4 48 Try.underlying22 hi0'.out hz0'.out hz1'.out hz2'.out rfl (by decide) _ _ _ rfl (World.ownsRow.alloc hv.out _) ⟨wr.heap.size, 0, none⟩ 1 1 [.string ⟨#[]⟩, .string ⟨#[110, 111]⟩, .int .i64 (mk : Int), .int .i64 0] rfl rfl (fun j u hj => by match j, hj with | 0, hj => simp at hj; subst hj; simp [Addr.add] | 1, hj => simp at hj; subst hj; simp [Addr.add] | 2, hj => simp at hj; subst hj; simp [Addr.add] | 3, hj => simp at hj; subst hj; simp [Addr.add] | j + 4, hj => simp at hj) (fun u hu => by simp at hu; rcases hu with rfl | rfl | rfl | rfl <;> rfl) (by unfold maxLen; omega) (by omega) (by rw [World.size_alloc]; have := hz.out; omega) ?_)
                        | go_in)
                      intro v' w' hown1 hgrow _
                      have hb'' := hid ((hBi.out.alloc hz.out (.cells #[.string ⟨#[]⟩, .string ⟨#[110, 111]⟩, .int .i64 (mk : Int), .int .i64 0] 25)).grown hgrow (by rw [World.size_alloc]; have := hz.out; omega) (fun b e => (hv.out.lt b e).1))
                      have hown2 : Hid (w'.ownsRow w3.heap.size 25 4 v' (i + 1) (celL ((i + 1) * 4) (ML (l + k)))) := by
                        rw [hP.out, show (i + 1) * 4 = i * 4 + 4 by omega, ← celL_snoc, ML_cel P i mk hmkN.out]
                        exact hown1
                      clear hown1 hgrow
                      go_wp2
                      go_roundw
                      case rel => exact ⟨i + 1, by omega, by simp, hown2, hb''⟩
                      case measure => simp [intOf]; omega
                    · obtain rfl : i = 64 := by omega
                      have hrow := hv.out
                      obtain ⟨gm, cm, _, rfl, -, -, -⟩ := rowz_new hrow (by decide)
                      have hcl := hid (hrow.cells (g := gm) rfl)
                      clear hrow hv
                      have hz := hid hBi.out.size
                      have hG4 := hid (hGs.out.kept hBi.out)
                      have hM4 := hid (hM.out.kept hBi.out)
                      have hB4 := hid (hB.out.kept hBi.out hBw'.out)
                      have c1 : wr.cell? ⟨G, l, none⟩ = some (.slice so x.n cp) := by rw [← hxv'.out]; exact hGc.out wr hB4.out l x hx'.out
                      have hlt5 : Hid (∀ r, u5.ownBlock = some r → w.heap.size ≤ r ∧ r < w3.heap.size) := fun r e => hGs.out.1.lt r e
                      obtain ⟨gg, cg, hgv, hgb, hgl, -, -⟩ := hG4.out.at hx'.out hy'.out
                      rw [hyl.out] at hgv
                      subst hgv
                      have hgb' := hid hgb
                      have hgl' := hid hgl
                      clear hGs hM hB hgb hgl
                      have hge : ¬ (64 : Int) < 64 := by decide
                      have hM5 : Hid (wr.ownsRow B 25 4 x.v x.n (celL (x.n * 4) (ML l))) := by
                        exact hM4.out.1 l x hx'.out
                      have hBz : Hid (B ≤ wr.heap.size) := Nat.le_trans hBw'.out hB4.out.size
                      go_wp2_with (first
                        | (at_builtin; refine wpList_manyLr rfl _ _ rfl hxv'.out rfl hM5.out hBz.out ⟨gm, 0, none⟩ 64 cm (celL (64 * 4) (ML (l + k))) rfl (celL_len _ _) hcl.out (fun u hu => by simp only [celL, List.mem_map] at hu; obtain ⟨_, _, rfl⟩ := hu; exact ML_one _ _) (by omega) ?_)
                        | go_in)
                      intro v' w' hown' hvb' hgr' hxo'
                      have hGn : Hid (GsJ 25 22 4 ML w' w.heap.size (.slice (some ⟨gg, 0, none⟩) k cg) rs zs (fun x => x.n)) := hid (hG4.out.growRow hM4.out (fun k' x' g' hk' hg' => (hgw.out k' x' g' hk' hg').2) hx'.out hgr' hxo' (fun _ => Nat.le_refl _))
                      have hMn := hid (hM4.out.growRow hx'.out hgr' hxo')
                      have hBn := hid (hB4.out.grown hgr' (fun r e => ⟨(hgw.out l x r hx'.out e).1, .inr ⟨l, x, hx'.out, e⟩⟩) hBw'.out)
                      obtain ⟨gn, cn, _, rfl, -, -, -⟩ := rowz_new hown' (by omega)
                      obtain ⟨y', -, hset⟩ := hGn.out.set (nb := wr.heap.size) hx'.out hy'.out (news := celL (64 * 4) (ML (l + k))) hown' hvb' hB4.out.size (fun r e => ⟨(hlt5.out r e).1, by have h1 := (hlt5.out r e).2; have h2 := hz.out; omega⟩) (fun g e => (hgw.out l x g hx'.out e).2) (Nat.le_refl _) (gg := gg) (cap := cg) (by rw [hyl.out])
                      have hset' := hid hset
                      have hMs := hid (hMn.out.off (b := gg) (i := l) (fun k' x' g' hk' hg' => by have h1 := (hgw.out k' x' g' hk' hg').2; have h2 := hgb'.out; omega) (.slice (some ⟨gn, 0, none⟩) (x.n + 64) cn))
                      have hBs := hid (hBn.out.set (b := gg) ⟨Nat.le_trans hBw'.out hgb'.out, .inl hgb'.out⟩ hBw'.out l (.slice (some ⟨gn, 0, none⟩) (x.n + 64) cn))
                      obtain ⟨gg2, cg2, e2, -, -, c2, f2⟩ := hGn.out.at hx'.out hy'.out
                      obtain ⟨rfl, rfl⟩ : gg2 = gg ∧ cg2 = cg := by
                        rw [hyl.out] at e2
                        cases e2
                        exact ⟨rfl, rfl⟩
                      clear e2 hown' hvb' hgr' hxo' hset hG4 hM4 hB4 hGn hMn hBn c1
                      go_wp2
                      go_roundw
                      case rel => exact ⟨l + 1, zs.set l y', by omega, by simp, by show _ = _; rw [List.length_set, hyl.out], hset', hMs, hBs⟩
                      case measure => simp [intOf]; omega
                · obtain rfl : l = k := by omega
                  go_wp2
                  go_loopw [14, 15] (fun kk _ wr => ∃ k : Nat, k ≤ l ∧ kk = .int .i64 (k : Int) ∧ Hid (GsJ 25 22 4 ML wr w.heap.size u5 rs zs (fun x => x.n)) ∧ Hid (RowsJ 25 4 wr B rs ML) ∧ Hid (ApartJ B rs w wr)) (fun kk _ _ => l - (intOf kk).toNat)
                  case atStart => exact ⟨0, Nat.zero_le _, rfl, hGs, hM, hB⟩
                  case round =>
                    clear hGs hM hB
                    obtain ⟨k, hkl, rfl, hGs, hM, hB⟩ := hrel
                    by_cases hlt : k < l
                    · have hki : (k : Int) < (l : Int) := by omega
                      obtain ⟨x, hx⟩ : ∃ x, rs[k]? = some x := ⟨_, List.getElem?_eq_getElem (by have := hn'.out; omega)⟩
                      obtain ⟨y, hy⟩ : ∃ y, zs[k]? = some y := ⟨_, List.getElem?_eq_getElem (by have := hyl.out; omega)⟩
                      have hx' := hid hx
                      have hy' := hid hy
                      have hxr := hr'.out x (List.mem_of_getElem? hx)
                      obtain ⟨so, cp, hxv⟩ := hsl.out k x hx
                      have hxv' := hid hxv
                      obtain ⟨gg, cg, hgv, -, -, -, -⟩ := hGs.out.at hx hy
                      rw [hyl.out] at hgv
                      clear hx hy hxv
                      go_wp2
                      go_loopw [15] (fun ii wr => ∃ i : Nat, i ≤ x.n ∧ ii = .int .i64 (i : Int) ∧ Hid (GsJ 25 22 4 ML wr w.heap.size u5 rs zs (fun x => x.n)) ∧ Hid (RowsJ 25 4 wr B rs ML) ∧ Hid (ApartJ B rs w wr)) (fun ii _ => x.n - (intOf ii).toNat)
                      case atStart => exact ⟨0, Nat.zero_le _, rfl, hGs, hM, hB⟩
                      case round =>
                        clear hGs hM hB
                        obtain ⟨i, hi, rfl, hGs, hM, hB⟩ := hrel
                        subst hgv
                        have c1 : wr.cell? ⟨G, k, none⟩ = some (.slice so x.n cp) := by rw [← hxv'.out]; exact hGc.out wr hB.out k x hx'.out
                        by_cases hir : i < x.n
                        · obtain ⟨Q, hQ⟩ : ∃ Q, Hid (x.n + 64 = Q) := ⟨_, rfl⟩
                          have c2 : wr.cell? ⟨gg, k, none⟩ = some (.slice (some ⟨y.b, 0, none⟩) Q y.c) := by
                            obtain ⟨gg', cg', e, -, -, h, -⟩ := hGs.out.at hx'.out hy'.out
                            cases e
                            rw [← hQ.out]
                            exact h
                          have hii : (i : Int) < (Q : Int) := by have := hQ.out; omega
                          have hmk := hid (mark_calls k i (by omega) (by omega))
                          obtain ⟨mk, hmkN⟩ : ∃ mk, Hid (markN k i = mk) := ⟨_, rfl⟩
                          rw [hmkN.out] at hmk
                          have emk : ((mk : Int) == (mk : Int)) = true := by simp
                          have R1 := hid (show wr.rangeAt y.b (i * 4) [.string ⟨#[]⟩, .string ⟨#[110, 111]⟩, .int .i64 (mk : Int), .int .i64 0] from fun j u hj => by
                            obtain ⟨h4, e4⟩ := ML_get hmkN.out hj
                            rw [← e4]
                            exact hGs.out.word hx'.out hy'.out (by omega))
                          have ad1 : (⟨y.b, 0, none⟩ : Addr).add (i * 4) = ⟨y.b, i * 4, none⟩ := by by_cases h : i * 4 = 0 <;> simp [Addr.add, h]
                          have eqs := eqLr ⟨#[]⟩ ⟨#[110, 111]⟩ (mk : Int) 0
                          obtain ⟨g, cp', hg, -, -, -, -⟩ := hM.out.at hx'.out (j := i * 4) (by omega)
                          obtain ⟨rfl, rfl⟩ : so = some ⟨g, 0, none⟩ ∧ cp = cp' := by
                            have := hxv'.out
                            rw [hg] at this
                            simpa [eq_comm] using this
                          have R2 := hid (show wr.rangeAt g (i * 4) [.string ⟨#[]⟩, .string ⟨#[110, 111]⟩, .int .i64 (mk : Int), .int .i64 0] from fun j u hj => by
                            obtain ⟨h4, e4⟩ := ML_get hmkN.out hj
                            rw [← e4]
                            obtain ⟨g', cp'', hg', -, -, m1, -⟩ := hM.out.at hx'.out (j := i * 4 + j) (by omega)
                            rw [hg] at hg'
                            simp only [Value.slice.injEq, Option.some.injEq, Addr.mk.injEq, and_true, true_and] at hg'
                            rw [hg'.1]
                            exact m1)
                          have ad2 : (⟨g, 0, none⟩ : Addr).add (i * 4) = ⟨g, i * 4, none⟩ := by by_cases h : i * 4 = 0 <;> simp [Addr.add, h]
                          clear hg
                          have hiri : (i : Int) < (x.n : Int) := by omega
                          have c1q := fun (wq : World) (h : Below wr.heap.size wr wq) => ((h.cell (block_lt_of_cell c1)).trans c1)
                          have c2q := fun (wq : World) (h : Below wr.heap.size wr wq) => ((h.cell (block_lt_of_cell c2)).trans c2)
                          go_wp2_with fail
                          clear c1 c2
                          refine wp_region_quiet (C := (fun w' => Below wr.heap.size wr w')) (by kernel_rfl) (by kernel_rfl) ((Below.refl _ _).drew) ?_
                          dsimp only
                          repeat (first
                            | go_big_quiet_skip
                            | (refine' wpQuiet_take (by rfl) ?_ ?_
                               rotate_left
                               · (intro wq hq; (try dsimp only at hq); go_simp
                                  first
                                    | done
                                    | with_reducible rfl
                                    | (go_at_call 40; with_reducible refine (hmk.out _).mono ?_; rintro e wz ⟨rfl, hb⟩; subst hb; exact ⟨rfl, hq⟩)
                                 )
                               simp only [Act.put, List.setIfInBounds_toArray, List.set_cons_zero, List.set_cons_succ])
                            | (refine wpQuiet_load 25 _ (y.b) (i * 4) [.string ⟨#[]⟩, .string ⟨#[110, 111]⟩, .int .i64 (mk : Int), .int .i64 0] _ (fun wq hq => range_kept R1.out hq) Try.underlying25 sizeLr rfl rfl rfl (by rfl) ?_; simp only [Act.put, List.setIfInBounds_toArray, List.set_cons_zero, List.set_cons_succ])
                            | (refine wpQuiet_load 25 _ (g) (i * 4) [.string ⟨#[]⟩, .string ⟨#[110, 111]⟩, .int .i64 (mk : Int), .int .i64 0] _ (fun wq hq => range_kept R2.out hq) Try.underlying25 sizeLr rfl rfl rfl (by rfl) ?_; simp only [Act.put, List.setIfInBounds_toArray, List.set_cons_zero, List.set_cons_succ]))
                          refine wpQuiet_nil ?_
                          intro wz hwz
                          have hb := hid hwz
                          clear hwz
                          go_wp2
                          go_roundw
                          case rel => exact ⟨i + 1, by omega, by simp, hid (hGs.out.kept hb.out), hid (hM.out.kept hb.out), hid (hB.out.kept hb.out hBw'.out)⟩
                          case measure => simp [intOf]; omega
                        · obtain rfl : i = x.n := by omega
                          go_wp2
                          go_roundw
                          case rel => exact ⟨k + 1, by omega, by simp, hGs, hM, hB⟩
                          case measure => simp [intOf]; omega
                    · obtain rfl : k = l := by omega
                      go_wp2
                      go_ret
                      exact ⟨rfl, hB.out⟩
end Go.Proofs.Ytiggfigjibggaaa
