/-
  What quarrykit.ApartBits answers of lists of rows that lie apart (with room behind them): true.
-/
import Derived.Test.YtodhekdnbenobaaDoorApartJ
namespace Go.Proofs.YtodhekdnbenobaaDoor
open Go.RowKit Go.Shelf

/-- The mark of a place, as a cell. -/
def MB (k j : Nat) : Value := if j % 2 = 0 then .int .i64 ((markN k (j / 2) : Nat) : Int) else .slice none 0 0
theorem MB_one (k j : Nat) : (MB k j).oneCell' = true := by
  unfold MB
  split <;> rfl
theorem MB_even (k i : Nat) : MB k (i * 2) = .int .i64 ((markN k i : Nat) : Int) := by
  unfold MB
  rw [if_pos (by omega), show i * 2 / 2 = i by omega]
theorem MB_odd (k i : Nat) : MB k (i * 2 + 1) = .slice none 0 0 := by
  unfold MB
  rw [if_neg (by omega)]
theorem infoBt : (Tryd.prog.info? 50).map (fun i => (i.zero, i.size, i.bytes)) = some (some (.agg #[.int .i64 0, .slice none 0 0]), 2, 32) := by kernel_rfl
theorem infoSBt : (Tryd.prog.info? 32).map (fun i => (i.zero, i.size, i.bytes)) = some (some (.slice none 0 0), 1, 24) := by kernel_rfl
theorem appendSBt_apart {w : World} {base n : Nat} {ty : TypeId} {v x : Value} {xs : List Value} (hown : w.ownsRow base 32 1 v n xs) (ad : Addr) (c : Nat) (hcell : w.cell? (ad.add 0) = some x) (h1 : x.oneCell' = true) (hn : n < 1000000) (hbase : base ≤ w.heap.size) :
    ∃ v' w', (Builtin.append_ #[62, 62] ty #[v, .slice (some ad) 1 c]).run Tryd.prog w = .ok v' w' ∧ w'.ownsRow base 32 1 v' (n + 1) (xs ++ [x]) ∧ w.grownBy w' v.ownBlock ∧ (v'.ownBlock = v.ownBlock ∨ ∃ g, v'.ownBlock = some g ∧ w.heap.size ≤ g) := by
  obtain ⟨i0, hi, hz0, hz1, hz2⟩ := info_parts infoSBt
  obtain ⟨v', w', hr, r1, r2⟩ := appendJ (P := Tryd.prog) (ty := ty) Tryd.underlying62 hi hz0 hz1 hz2 rfl (by decide) hown ad 1 c [x] rfl (by
    intro j u hj
    match j, hj with
    | 0, hj => simp at hj; subst hj; exact hcell) (by intro u hu; simp at hu; subst hu; exact h1) (by unfold maxLen; omega) (by omega) hbase
  refine ⟨v', w', hr, r1, ?_⟩
  rcases r2 with ⟨g, cap, rfl, rfl, h3⟩ | ⟨h3, h4⟩
  · exact ⟨h3, .inl rfl⟩
  · obtain ⟨g, _, _, rfl, _⟩ := rowz_new r1 (by omega)
    exact ⟨h4.but _, .inr ⟨g, rfl, h3 g rfl⟩⟩
theorem wpList_appendSBt {ops : Array Oper} {rest : List Oper} {o : Oper} {a : Act} {w : World} {Q : Exit → Act → World → Prop} (hgd : o.guard = none) (s y : Operand)
    (ho : o.op = .call { callee := .builtin .append, args := #[s, y], argTypes := #[62, 62] }) (base : Nat) (v x : Value) (n : Nat) (xs : List Value) (hs : a.eval s = v) (hown : w.ownsRow base 32 1 v n xs)
    (ad : Addr) (c : Nat) (hy : a.eval y = .slice (some ad) 1 c) (hcell : w.cell? (ad.add 0) = some x) (h1 : x.oneCell' = true) (hn : n < 1000000) (hbase : base ≤ w.heap.size)
    (h : ∀ v' w', w'.ownsRow base 32 1 v' (n + 1) (xs ++ [x]) → w.grownBy w' v.ownBlock → (v'.ownBlock = v.ownBlock ∨ ∃ g, v'.ownBlock = some g ∧ w.heap.size ≤ g) → wpList Tryd.prog ops Q rest (a.put o.dst v') w') : wpList Tryd.prog ops Q (o :: rest) a w := by
  refine wpList_plain hgd fun K hK => ?_
  obtain ⟨v', w', hr, r1, r2, r3⟩ := appendSBt_apart (ty := o.type) hown ad c hcell h1 hn hbase
  unfold Oper.wp
  simp [execOp, ho, resolve, invoke, builtin, hs, hy, hr, Result.andThen]
  exact hK _ _ (h v' w' r1 r2 r3)
theorem wpList_growBt {ops : Array Oper} {rest : List Oper} {o : Oper} {a : Act} {W : World} {Q : Exit → Act → World → Prop} (hgd : o.guard = none) (s y : Operand)
    (ho : o.op = .call { callee := .builtin .append, args := #[s, y], argTypes := #[32, 32] }) {B wb i k : Nat} {x : RowJ} {v : Value} (hs : a.eval s = v) (hv : GrowJ 50 2 W B wb (MB k) x i v) (hx : W.ownsRow B 50 2 x.v x.n (celL (x.n * 2) (MB k))) (hxlt : ∀ g, x.v.ownBlock = some g → g < wb) (hwb : wb ≤ W.heap.size) (hBw : B ≤ W.heap.size) (ad : Addr) (c : Nat) (hy : a.eval y = .slice (some ad) 1 c) (hcell : W.cell? (ad.add 0) = some (MB k ((x.n + i) * 2))) (hcell1 : W.cell? (ad.add 1) = some (MB k ((x.n + i) * 2 + 1))) (hr : x.n + i + 1 ≤ 2000000)
    (hQ : ∀ v' w', GrowJ 50 2 w' B wb (MB k) x (i + 1) v' → W.grownBy w' v.ownBlock → w'.ownsRow B 50 2 x.v x.n (celL (x.n * 2) (MB k)) → wpList Tryd.prog ops Q rest (a.put o.dst v') w') : wpList Tryd.prog ops Q (o :: rest) a W := by
  refine wpList_plain hgd fun K hK => ?_
  obtain ⟨i0, hi, hz0, hz1, hz2⟩ := info_parts infoBt
  obtain ⟨v', w', hr, r1, r2, r3⟩ := growJ_append (P := Tryd.prog) (ty := o.type) Tryd.underlying32 hi hz0 hz1 hz2 rfl (by decide) hv hx hxlt hwb hBw ad c (fun j hj => by
    match j, hj with
    | 0, _ => exact hcell
    | 1, _ => exact hcell1) (MB_one k) (by unfold maxLen; omega) (by omega)
  unfold Oper.wp
  simp [execOp, ho, resolve, invoke, builtin, hs, hy, hr, Result.andThen]
  exact hK _ _ (hQ v' w' r1 r2 r3)
theorem wpList_manyBt {ops : Array Oper} {rest : List Oper} {o : Oper} {a : Act} {W : World} {Q : Exit → Act → World → Prop} (hgd : o.guard = none) (s y : Operand)
    (ho : o.op = .call { callee := .builtin .append, args := #[s, y], argTypes := #[32, 32] }) {B k : Nat} {x : RowJ} {v : Value} (hxv : x.v = v) (hs : a.eval s = v) (hx : W.ownsRow B 50 2 x.v x.n (celL (x.n * 2) (MB k))) (hBw : B ≤ W.heap.size) (ad : Addr) (m c : Nat) (news : List Value) (hy : a.eval y = .slice (some ad) m c) (hl : news.length = m * 2) (hnews : ∀ j u, news[j]? = some u → W.cell? (ad.add j) = some u) (h1 : ∀ u ∈ news, u.oneCell' = true) (hr : x.n + m ≤ 2000000)
    (hQ : ∀ v' w', w'.ownsRow B 50 2 v' (x.n + m) (celL (x.n * 2) (MB k) ++ news) → (∀ g, v'.ownBlock = some g → x.v.ownBlock = some g ∨ W.heap.size ≤ g) → W.grownBy w' x.v.ownBlock → w'.ownsRow B 50 2 x.v x.n (celL (x.n * 2) (MB k)) → wpList Tryd.prog ops Q rest (a.put o.dst v') w') : wpList Tryd.prog ops Q (o :: rest) a W := by
  subst hxv
  refine wpList_plain hgd fun K hK => ?_
  obtain ⟨i0, hi, hz0, hz1, hz2⟩ := info_parts infoBt
  obtain ⟨v', w', hr, r1, r2, r3, r4⟩ := manyJ_append (P := Tryd.prog) (ty := o.type) Tryd.underlying32 hi hz0 hz1 hz2 rfl (by decide) hx hBw ad m c news hl hnews h1 (by unfold maxLen; omega) (by omega)
  unfold Oper.wp
  simp [execOp, ho, resolve, invoke, builtin, hs, hy, hr, Result.andThen]
  exact hK _ _ (hQ v' w' r1 r2 r3 r4)

set_option maxRecDepth 10000 in
set_option maxHeartbeats 8000000 in
theorem apartB_calls (w : World) (G n cap B : Nat) (rs : List RowJ) (F : Nat → Nat → Value) (cs : Array Value) (ty : TypeId) (hn : rs.length = n) (hn2 : n ≤ 100) (hr : ∀ x ∈ rs, x.n ≤ 1000000) (hBw : B ≤ w.heap.size) (hGa : At w G cs ty) (hGr : ∀ (k : Nat) (x : RowJ), rs[k]? = some x → x.v.ownBlock ≠ some G) (hG : ∀ (k : Nat) (x : RowJ), rs[k]? = some x → cs[k]? = some x.v) (hR : RowsJ 50 2 w B rs F) :
    Calls Tryd.prog 34 #[.slice (some ⟨G, 0, none⟩) n cap] w fun e w' => e = .returned (.bool true) ∧ ApartJ B rs w w' := by
  have hGc : Hid (∀ (W : World), ApartJ B rs w W → ∀ (k : Nat) (x : RowJ), rs[k]? = some x → W.cell? ⟨G, k, none⟩ = some x.v) := fun W h k x hk => by
    rw [(h.2 G cs ty hGa hGr).cell k, hG k x hk]
  have hR' := hid hR
  have hn' := hid hn
  have hr' := hid hr
  have hBw' := hid hBw
  have hGr' := hid hGr
  have hgw : Hid (∀ (k : Nat) (x : RowJ) (g : Nat), rs[k]? = some x → x.v.ownBlock = some g → B ≤ g ∧ g < w.heap.size) := fun k x g hk hg => hR.lt hk hg
  have hsl : Hid (∀ (k : Nat) (x : RowJ), rs[k]? = some x → ∃ so cap, x.v = .slice so x.n cap) := fun k x hk => hR.slice hk
  clear hG hR hn hr hGa hGr hBw
  go_enter Tryd.func34, Tryd.ntmps34
  go_wp2
  go_loopw [3, 4] (fun kk _ wr => ∃ k : Nat, k ≤ n ∧ kk = .int .i64 (k : Int) ∧ Hid (RowsJ 50 2 wr B rs (fun l j => if l < k then MB l j else F l j)) ∧ Hid (ApartJ B rs w wr)) (fun kk _ _ => n - (intOf kk).toNat)
  case atStart => exact ⟨0, Nat.zero_le _, rfl, hid (hR'.out.congr (fun k x j _ _ => by simp)), hid (ApartJ.refl _ _ _)⟩
  case round =>
    obtain ⟨k, hkn, rfl, hX, hB⟩ := hrel
    by_cases hlt : k < n
    · have hki : (k : Int) < (n : Int) := by omega
      obtain ⟨x, hx⟩ : ∃ x, rs[k]? = some x := ⟨_, List.getElem?_eq_getElem (by have := hn'.out; omega)⟩
      have hx' := hid hx
      have hxr := hr'.out x (List.mem_of_getElem? hx)
      obtain ⟨so, cp, hxv⟩ := hsl.out k x hx
      have hxv' := hid hxv
      clear hx hxv
      go_wp2
      go_loopw [4] (fun ii wr => ∃ i : Nat, i ≤ x.n ∧ ii = .int .i64 (i : Int) ∧ Hid (RowsJ 50 2 wr B rs (fun l j => if l < k ∨ (l = k ∧ j < i * 2) then MB l j else F l j)) ∧ Hid (ApartJ B rs w wr)) (fun ii _ => x.n - (intOf ii).toNat)
      case atStart => exact ⟨0, Nat.zero_le _, rfl, hid (hX.out.congr (fun l y j _ _ => by simp)), hB⟩
      case round =>
        obtain ⟨i, hir, rfl, hX2, hB2⟩ := hrel
        have c0 : wr.cell? ⟨G, k, none⟩ = some (.slice so x.n cp) := by rw [← hxv'.out]; exact hGc.out wr hB2.out k x hx'.out
        by_cases hil : i < x.n
        · have hii : (i : Int) < (x.n : Int) := by omega
          obtain ⟨g, cp', hg, hgB, hgl, m0, f0⟩ := hX2.out.at hx'.out (j := i * 2) (by omega)
          obtain ⟨g', cp'', hg', -, -, m1, f1⟩ := hX2.out.at hx'.out (j := i * 2 + 1) (by omega)
          obtain ⟨rfl, rfl⟩ : g = g' ∧ cp' = cp'' := by
            rw [hg] at hg'
            simpa using hg'
          clear hg'
          obtain ⟨rfl, rfl⟩ : so = some ⟨g, 0, none⟩ ∧ cp = cp' := by
            have := hxv'.out
            rw [hg] at this
            simpa [eq_comm] using this
          have hmk := hid (mark_calls k i (by omega) (by omega))
          obtain ⟨mk, hmkN⟩ : ∃ mk, Hid (markN k i = mk) := ⟨_, rfl⟩
          rw [hmkN.out] at hmk
          have hst := hid ((hX2.out.set hx'.out hg (i * 2) (.int .i64 ((mk : Nat) : Int))).set hx'.out hg (i * 2 + 1) (.slice none 0 0))
          have hBs := hid (hB2.out.set (b := g) ⟨hgB, .inr ⟨k, x, hx'.out, by rw [hg]; rfl⟩⟩ hBw'.out (i * 2) (.int .i64 ((mk : Nat) : Int)))
          have hBs2 := hid (hBs.out.set (b := g) ⟨hgB, .inr ⟨k, x, hx'.out, by rw [hg]; rfl⟩⟩ hBw'.out (i * 2 + 1) (.slice none 0 0))
          have hgG : Hid (g ≠ G) := fun e => hGr'.out k x hx'.out (by rw [hg, e]; rfl)
          have cs' : ∀ u v, ((wr.setCell ⟨g, i * 2, none⟩ u).setCell ⟨g, i * 2 + 1, none⟩ v).cell? ⟨G, k, none⟩ = some (.slice (some ⟨g, 0, none⟩) x.n cp) := fun u v => by
            rw [World.cell?_setCell_other _ _ _ _ (by simp; intro e; exact absurd e hgG.out), World.cell?_setCell_other _ _ _ _ (by simp; intro e; exact absurd e hgG.out)]; exact c0
          have cs'' := hid cs'
          have hg' := hid hg
          clear cs' hg
          go_wp2_with fail
          rename_i K7 hK7
          refine wp_region_held_drew (S := fun w' => w'.cell? ⟨G, k, none⟩ = some (.slice (some ⟨g, 0, none⟩) x.n cp)) (by kernel_rfl) c0 (fun hHeld => ?_)
          (refine' wpAnyH_take (i := 0) rfl (by kernel_rfl) (by kernel_rfl) (by kernel_rfl) (fun _ _ _ h => h) (Or.inl ⟨by rfl, ?_⟩) (by assumption) ?_; rotate_left; (· (intro wq hq; (try dsimp only at hq); go_simp; first | done | with_reducible rfl)); simp only [Act.put, List.getElem_toArray, List.getElem_cons_zero, List.setIfInBounds_toArray, List.set_cons_zero, List.set_cons_succ])
          (refine' wpAnyH_take (i := 1) rfl (by kernel_rfl) (by kernel_rfl) (by kernel_rfl) (fun _ _ _ h => h) (Or.inl ⟨by rfl, ?_⟩) (by assumption) ?_; rotate_left; (· (intro wq hq; (try dsimp only at hq); go_simp; first | done | with_reducible rfl)); simp only [Act.put, List.getElem_toArray, List.getElem_cons_zero, List.getElem_cons_succ, List.setIfInBounds_toArray, List.set_cons_zero, List.set_cons_succ])
          (refine' wpAnyH_take (i := 2) rfl (by kernel_rfl) (by kernel_rfl) (by kernel_rfl) (fun _ _ _ h => h) (Or.inl ⟨by rfl, ?_⟩) (by assumption) ?_; rotate_left; (· (intro wq hq; (try dsimp only at hq); go_simp; first | done | with_reducible rfl)); simp only [Act.put, List.getElem_toArray, List.getElem_cons_zero, List.getElem_cons_succ, List.setIfInBounds_toArray, List.set_cons_zero, List.set_cons_succ])
          (refine' wpAnyH_take (i := 3) rfl (by kernel_rfl) (by kernel_rfl) (by kernel_rfl) (fun _ _ _ h => h) (Or.inl ⟨by rfl, ?_⟩) (by assumption) ?_; rotate_left; (· (intro wq hq; (try dsimp only at hq); go_simp; first | done | with_reducible rfl)); simp only [Act.put, List.getElem_toArray, List.getElem_cons_zero, List.getElem_cons_succ, List.setIfInBounds_toArray, List.set_cons_zero, List.set_cons_succ])
          (refine' wpAnyH_take (i := 4) rfl (by kernel_rfl) (by kernel_rfl) (by kernel_rfl) (fun _ _ _ h => h) (Or.inl ⟨by rfl, ?_⟩) (by assumption) ?_; rotate_left; (· (intro wq hq; (try dsimp only at hq); go_simp; first | done | with_reducible rfl)); simp only [Act.put, List.getElem_toArray, List.getElem_cons_zero, List.getElem_cons_succ, List.setIfInBounds_toArray, List.set_cons_zero, List.set_cons_succ])
          (refine' wpAnyH_take (i := 5) rfl (by kernel_rfl) (by kernel_rfl) (by kernel_rfl) (fun _ _ _ h => h) (Or.inl ⟨by rfl, ?_⟩) (by assumption) ?_; rotate_left; (· (intro wq hq; (try dsimp only at hq); go_simp; first | done | with_reducible rfl)); simp only [Act.put, List.getElem_toArray, List.getElem_cons_zero, List.getElem_cons_succ, List.setIfInBounds_toArray, List.set_cons_zero, List.set_cons_succ])
          (refine' wpAnyH_take (i := 6) rfl (by kernel_rfl) (by kernel_rfl) (by kernel_rfl) (fun _ _ _ h => h) (Or.inl ⟨by rfl, ?_⟩) (by assumption) ?_; rotate_left; (· (intro wq hq; (try dsimp only at hq); go_simp; first | done | with_reducible rfl)); simp only [Act.put, List.getElem_toArray, List.getElem_cons_zero, List.getElem_cons_succ, List.setIfInBounds_toArray, List.set_cons_zero, List.set_cons_succ])
          refine wpAnyH_ready (rs := [7]) (by kernel_rfl) (by simp) ?_
          refine AllReadyH.cons rfl (fun K hK => ?_) ?_
          · rw [if_pos (by rfl)]
            go_simp
            refine (hmk.out _).mono ?_
            rintro e wq ⟨rfl, hwq⟩
            rw [hwq]
            clear hwq
            refine hK.out _ _ hHeld (fun hH => ?_)
            clear hK K
            (refine' wpAnyH_take (i := 8) rfl (by kernel_rfl) (by kernel_rfl) (by kernel_rfl) (fun _ _ _ h => h) (Or.inl ⟨by rfl, ?_⟩) (by assumption) ?_; rotate_left; (· (intro wq hq; (try dsimp only at hq); go_simp; first | done | with_reducible rfl)); simp only [Act.put, List.getElem_toArray, List.getElem_cons_zero, List.getElem_cons_succ, List.setIfInBounds_toArray, List.set_cons_zero, List.set_cons_succ])
            (refine' wpAnyH_take (i := 9) rfl (by kernel_rfl) (by kernel_rfl) (by kernel_rfl) (fun _ _ _ h => h) (Or.inl ⟨by rfl, ?_⟩) (by assumption) ?_; rotate_left; (· (intro wq hq; (try dsimp only at hq); go_simp; first | done | with_reducible rfl)); simp only [Act.put, List.getElem_toArray, List.getElem_cons_zero, List.getElem_cons_succ, List.setIfInBounds_toArray, List.set_cons_zero, List.set_cons_succ])
            refine wpAnyH_ready (rs := [10]) (by kernel_rfl) (by simp) ?_
            refine AllReadyH.cons rfl (fun K hK => ?_) ?_
            · go_simp
              refine hK.out _ _ (cs''.out _ _) (fun hH2 => ?_)
              clear hK K
              refine wpAnyH_done (by kernel_rfl) ?_ _
              refine hK7 _ _ ?_
              go_wp2
              go_roundw
              case rel =>
                refine ⟨i + 1, by omega, by simp, hid (hst.out.drew.congr (fun l y j _ _ => ?_)), hid hBs2.out.drew⟩
                by_cases h1 : l = k ∧ j = i * 2 + 1
                · obtain ⟨rfl, rfl⟩ := h1
                  rw [if_pos ⟨rfl, rfl⟩, if_pos (by omega), MB_odd]
                · rw [if_neg h1]
                  by_cases h3 : l = k ∧ j = i * 2
                  · obtain ⟨rfl, rfl⟩ := h3
                    rw [if_pos ⟨rfl, rfl⟩, if_pos (by omega), MB_even, hmkN.out]
                  · have h2 : (l < k ∨ l = k ∧ j < i * 2) ↔ (l < k ∨ l = k ∧ j < (i + 1) * 2) := by omega
                    simp only [h3, if_false, h2]
              case measure => simp [intOf]; omega
            · exact AllReadyH.nil
          · exact AllReadyH.nil
        · obtain rfl : i = x.n := by omega
          go_wp2
          go_roundw
          case rel => exact ⟨k + 1, by omega, by simp, hid (hX2.out.congr (fun l y j hl hj => by
                        by_cases h1 : l = k
                        · subst h1
                          obtain rfl : y = x := by rw [hx'.out] at hl; exact (Option.some.inj hl).symm
                          simp [hj]
                        · have h2 : (l < k ∨ l = k ∧ j < x.n * 2) ↔ l < k + 1 := by omega
                          simp only [h2])), hB2⟩
          case measure => simp [intOf]; omega
    · obtain rfl : k = n := by omega
      have hM : Hid (RowsJ 50 2 wr B rs MB) := hid (hX.out.congr (fun l y j hl _ => by
        have := (List.getElem?_eq_some_iff.1 hl).1
        rw [if_pos (by have := hn'.out; omega)]))
      clear hX hR'
      go_wp2
      go_loopw [5, 6, 7, 8] (fun gv kk _ _ wr => ∃ (l : Nat) (ys : List GrJ), l ≤ k ∧ kk = .int .i64 (l : Int) ∧ Hid (ys.length = l) ∧ Hid (GsJ 50 32 2 MB wr w.heap.size gv rs ys (fun x => x.n + 64)) ∧ Hid (RowsJ 50 2 wr B rs MB) ∧ Hid (ApartJ B rs w wr)) (fun _ kk _ _ _ => k - (intOf kk).toNat)
      case atStart => exact ⟨0, [], Nat.zero_le _, rfl, rfl, hid (GsJ.nil _ _ _ _ _ _ _ _), hM, hB⟩
      case round =>
        clear hM hB
        obtain ⟨l, ys, hlk, rfl, hyl, hGs, hM, hB⟩ := hrel
        by_cases hlt : l < k
        · have hki : (l : Int) < (k : Int) := by omega
          obtain ⟨x, hx⟩ : ∃ x, rs[l]? = some x := ⟨_, List.getElem?_eq_getElem (by have := hn'.out; omega)⟩
          have hx' := hid hx
          have hxr := hr'.out x (List.mem_of_getElem? hx)
          obtain ⟨w3, rfl⟩ : ∃ w3, w3 = wr := ⟨_, rfl⟩
          obtain ⟨so, cp, hxv⟩ := hsl.out l x hx
          have hxv' := hid hxv
          have c0 : w3.cell? ⟨G, l, none⟩ = some (.slice so x.n cp) := by rw [← hxv]; exact hGc.out w3 hB.out l x hx
          have hzw := hid hB.out.size
          have hxlt : Hid (∀ g, x.v.ownBlock = some g → g < w3.heap.size) := fun g hg => by have := (hgw.out l x g hx hg).2; have := hzw.out; omega
          clear hx hxv
          go_wp2
          go_loopw [7, 8] (fun v ii wr => ∃ i : Nat, i ≤ 64 ∧ ii = .int .i64 (i : Int) ∧ Hid (GrowJ 50 2 wr B w3.heap.size (MB l) x i v) ∧ Hid (w3.grownBy wr x.v.ownBlock) ∧ Hid (wr.ownsRow B 50 2 x.v x.n (celL (x.n * 2) (MB l)))) (fun _ ii _ => 64 - (intOf ii).toNat)
          case atStart => exact ⟨0, by decide, rfl, hid ⟨by rw [← hxv'.out]; exact hM.out.1 l x hx'.out, .inl ⟨so, cp, hxv'.out, rfl⟩⟩, hid (World.grownBy.refl _ _), hid (hM.out.1 l x hx'.out)⟩
          case round =>
            obtain ⟨i, hi64, rfl, hv, hBi, hxo⟩ := hrel
            have hBr : Hid (ApartJ B rs w wr) := hid (hB.out.grown hBi.out (fun r e => ⟨(hgw.out l x r hx'.out e).1, .inr ⟨l, x, hx'.out, e⟩⟩) hBw'.out)
            have c1 : wr.cell? ⟨G, l, none⟩ = some (.slice so x.n cp) := by rw [← hxv'.out]; exact hGc.out wr hBr.out l x hx'.out
            clear c0
            by_cases hi : i < 64
            · obtain ⟨P, hP⟩ : ∃ P, Hid (x.n + i = P) := ⟨_, rfl⟩
              have hsum : (x.n : Int) + (i : Int) = (P : Int) := by have := hP.out; omega
              have hPl : P ≤ 17592186044416 := by have := hP.out; omega
              have hmk := hid (mark_calls l P (by omega) hPl)
              obtain ⟨mk, hmkN⟩ : ∃ mk, Hid (markN l P = mk) := ⟨_, rfl⟩
              rw [hmkN.out] at hmk
              have hii : (i : Int) < 64 := by omega
              have hz := hid hBi.out.size
              have hv4 : Hid (GrowJ 50 2 (wr.alloc (.cells #[.int .i64 (mk : Int), .slice none 0 0] 50)) B w3.heap.size (MB l) x i u7) := ⟨World.ownsRow.alloc hv.out.1 _, hv.out.2⟩
              have hxo4 : Hid ((wr.alloc (.cells #[.int .i64 (mk : Int), .slice none 0 0] 50)).ownsRow B 50 2 x.v x.n (celL (x.n * 2) (MB l))) := World.ownsRow.alloc hxo.out _
              have hBz : Hid (B ≤ (wr.alloc (.cells #[.int .i64 (mk : Int), .slice none 0 0] 50)).heap.size) := by
                show _ ≤ _
                rw [World.size_alloc]; have := hz.out; have := hzw.out; have := hBw'.out; omega
              have hcl : Hid ((wr.alloc (.cells #[.int .i64 (mk : Int), .slice none 0 0] 50)).cell? ((⟨wr.heap.size, 0, none⟩ : Addr).add 0) = some (MB l ((x.n + i) * 2))) := by
                show _ = _
                rw [MB_even, hP.out, hmkN.out]
                exact (At.new wr #[.int .i64 (mk : Int), .slice none 0 0] 50).cell 0
              have hcl1 : Hid ((wr.alloc (.cells #[.int .i64 (mk : Int), .slice none 0 0] 50)).cell? ((⟨wr.heap.size, 0, none⟩ : Addr).add 1) = some (MB l ((x.n + i) * 2 + 1))) := by
                show _ = _
                rw [MB_odd]
                exact (At.new wr #[.int .i64 (mk : Int), .slice none 0 0] 50).cell 1
              have hvb : Hid (∀ r, u7.ownBlock = some r → w3.heap.size ≤ r ∨ x.v.ownBlock = some r) := fun r e => by
                rcases hv.out.2 with ⟨so', cap', h1, h2⟩ | h1
                · right
                  rw [h1, own_len so' x.n (x.n + i) cap' cap', ← h2]
                  exact e
                · exact .inl (h1 r e)
              go_wp2_with (first
                | (go_at_call 32; refine Calls.mono (hmk.out _) ?_; rintro e w' ⟨rfl, hw'⟩; obtain rfl := hw'.symm)
                | (at_builtin; refine wpList_growBt rfl _ _ rfl rfl hv4.out hxo4.out hxlt.out (by rw [World.size_alloc]; have := hz.out; omega) hBz.out ⟨wr.heap.size, 0, none⟩ 1 rfl hcl.out hcl1.out (by omega) ?_)
                | go_in)
              intro v' w' hv' hb' hx2'
              have hv'' := hid hv'
              have hx'' := hid hx2'
              have hb'' := hid ((hBi.out.andThen (World.grownBy_alloc wr (.cells #[.int .i64 (mk : Int), .slice none 0 0] 50) none) (fun j e => by cases e)).andThen hb' (fun j e => hvb.out j e))
              clear hv' hb' hx2'
              go_wp2
              go_roundw
              case rel => exact ⟨i + 1, by omega, by simp, hv'', hb'', hx''⟩
              case measure => simp [intOf]; omega
            · obtain rfl : i = 64 := by omega
              obtain ⟨g4, cap4, _, rfl, -, -, -⟩ := rowz_new hv.out.1 (by omega)
              have hv' := hid hv.out
              have hz := hid hBi.out.size
              have hxo' := hid hxo.out
              have hM4 : Hid (RowsJ 50 2 wr B rs MB) := hid (hM.out.growRow hx'.out hBi.out hxo.out)
              have hG4 : Hid (GsJ 50 32 2 MB wr w.heap.size u5 rs ys (fun x => x.n + 64)) := hid (hGs.out.growRow hM.out (fun k' x' g' hk' hg' => (hgw.out k' x' g' hk' hg').2) hx'.out hBi.out hxo.out (fun h => by have := hyl.out; omega))
              have hlt5 : Hid (∀ r, u5.ownBlock = some r → w.heap.size ≤ r ∧ r < w3.heap.size) := fun r e => hGs.out.1.lt r e
              have hal : Hid (Below wr.heap.size wr (wr.alloc (.cells #[.slice (some ⟨g4, 0, none⟩) (x.n + 64) cap4] 32))) := (Below.refl _ wr).alloc (Nat.le_refl _) _
              have hyn : ys.length < 1000000 := by have := hyl.out; omega
              have hbs : w.heap.size ≤ (wr.alloc (.cells #[.slice (some ⟨g4, 0, none⟩) (x.n + 64) cap4] 32)).heap.size := by
                rw [World.size_alloc]; have := hBr.out.size; omega
              clear hv hGs hM hB hxo
              have hge : ¬ (64 : Int) < 64 := by decide
              go_wp2_with (first
                | (at_builtin; refine wpList_appendSBt rfl _ _ rfl w.heap.size u5 (.slice (some ⟨g4, 0, none⟩) (x.n + 64) cap4) ys.length (List.zipWith slH rs ys) rfl (World.ownsRow.alloc hG4.out.1 _) ⟨wr.heap.size, 0, none⟩ 1 rfl ((At.new wr #[.slice (some ⟨g4, 0, none⟩) (x.n + 64) cap4] 32).cell 0) rfl hyn hbs ?_)
                | go_in)
              intro v' w' hown' hgr' hnew'
              obtain ⟨y, -, hpush⟩ := hG4.out.push (wb := w3.heap.size) (by rw [hyl.out]; exact hx'.out) (by rw [hyl.out]; exact hv'.out.1) (fun g e => by
                rcases hv'.out.2 with ⟨so', cap', h1, h2⟩ | h1
                · left
                  rw [h1, own_len so' x.n (x.n + 64) cap' cap', ← h2]
                  exact e
                · exact .inr (h1 g e)) hzw.out hlt5.out (fun g e => (hgw.out l x g hx'.out e).2) (Nat.le_refl _) hgr' hown' (by
                rcases hnew' with h1 | ⟨g1, h1, h2⟩
                · exact .inl h1
                · exact .inr ⟨g1, h1, by first | omega | (rw [World.size_alloc] at h2; omega)⟩)
              have hpush' := hid hpush
              have hMn := hid ((hM4.out.kept hal.out).grown hgr' (fun k' x' g' hk' hgx e => by have h1 := (hgw.out k' x' g' hk' hgx).2; have h2 := (hlt5.out g' e).1; omega))
              have hBn := hid ((hBr.out.kept hal.out hBw'.out).grown hgr' (fun r e => by have h1 := (hlt5.out r e).1; have h2 := hBw'.out; exact ⟨by omega, .inl h1⟩) hBw'.out)
              clear hown' hgr' hnew' hpush hG4 hM4 hBr
              go_wp2
              go_roundw
              case rel => exact ⟨l + 1, ys ++ [y], by omega, by simp, by show _ = _; rw [List.length_append, List.length_singleton, hyl.out], hpush', hMn, hBn⟩
              case measure => simp [intOf]; omega
        · obtain rfl : l = k := by omega
          go_wp2
          go_loopw [9, 10] (fun kk _ wr => ∃ k : Nat, k ≤ l ∧ kk = .int .i64 (k : Int) ∧ Hid (GsJ 50 32 2 MB wr w.heap.size u5 rs ys (fun x => x.n + 64)) ∧ Hid (RowsJ 50 2 wr B rs MB) ∧ Hid (ApartJ B rs w wr)) (fun kk _ _ => l - (intOf kk).toNat)
          case atStart => exact ⟨0, Nat.zero_le _, rfl, hGs, hM, hB⟩
          case round =>
            clear hGs hM hB
            obtain ⟨k, hkl, rfl, hGs, hM, hB⟩ := hrel
            by_cases hlt : k < l
            · have hki : (k : Int) < (l : Int) := by omega
              obtain ⟨x, hx⟩ : ∃ x, rs[k]? = some x := ⟨_, List.getElem?_eq_getElem (by have := hn'.out; omega)⟩
              obtain ⟨y, hy⟩ : ∃ y, ys[k]? = some y := ⟨_, List.getElem?_eq_getElem (by have := hyl.out; omega)⟩
              have hx' := hid hx
              have hy' := hid hy
              have hxr := hr'.out x (List.mem_of_getElem? hx)
              obtain ⟨so, cp, hxv⟩ := hsl.out k x hx
              have hxv' := hid hxv
              obtain ⟨gg, cg, hgv, -, -, -, -⟩ := hGs.out.at hx hy
              rw [hyl.out] at hgv
              clear hx hy hxv
              go_wp2
              go_loopw [10] (fun ii wr => ∃ i : Nat, i ≤ x.n + 64 ∧ ii = .int .i64 (i : Int) ∧ Hid (GsJ 50 32 2 MB wr w.heap.size u5 rs ys (fun x => x.n + 64)) ∧ Hid (RowsJ 50 2 wr B rs MB) ∧ Hid (ApartJ B rs w wr)) (fun ii _ => x.n + 64 - (intOf ii).toNat)
              case atStart => exact ⟨0, Nat.zero_le _, rfl, hGs, hM, hB⟩
              case round =>
                clear hGs hM hB
                obtain ⟨i, hi, rfl, hGs, hM, hB⟩ := hrel
                subst hgv
                obtain ⟨Q, hQ⟩ : ∃ Q, Hid (x.n + 64 = Q) := ⟨_, rfl⟩
                have c2 : wr.cell? ⟨gg, k, none⟩ = some (.slice (some ⟨y.b, 0, none⟩) Q y.c) := by
                  obtain ⟨gg', cg', e, -, -, h, -⟩ := hGs.out.at hx'.out hy'.out
                  cases e
                  rw [← hQ.out]
                  exact h
                have c1 : wr.cell? ⟨G, k, none⟩ = some (.slice so x.n cp) := by rw [← hxv'.out]; exact hGc.out wr hB.out k x hx'.out
                have hQl : Q ≤ 2000000 := by have := hQ.out; omega
                by_cases hiQ : i < Q
                · have hii : (i : Int) < (Q : Int) := by omega
                  have hiq' : i < x.n + 64 := by have := hQ.out; omega
                  have hmk := hid (mark_calls k i (by omega) (by omega))
                  obtain ⟨mk, hmkN⟩ : ∃ mk, Hid (markN k i = mk) := ⟨_, rfl⟩
                  rw [hmkN.out] at hmk
                  have emk : ((mk : Int) == (mk : Int)) = true := by simp
                  have c3 : wr.cell? ⟨y.b, i * 2, none⟩ = some (.int .i64 (mk : Int)) := by
                    rw [← hmkN.out, ← MB_even]
                    exact hGs.out.word hx'.out hy'.out (by have := hQ.out; omega)
                  have c4 : wr.cell? ⟨y.b, i * 2 + 1, none⟩ = some (.slice none 0 0) := by
                    rw [← MB_odd k i]
                    exact hGs.out.word hx'.out hy'.out (by have := hQ.out; omega)
                  by_cases hir : i < x.n
                  · obtain ⟨g, cp', hg, -, -, m0, -⟩ := hM.out.at hx'.out (j := i * 2) (by omega)
                    obtain ⟨rfl, rfl⟩ : so = some ⟨g, 0, none⟩ ∧ cp = cp' := by
                      have := hxv'.out
                      rw [hg] at this
                      simpa [eq_comm] using this
                    have m1 : wr.cell? ⟨g, i * 2 + 1, none⟩ = some (.slice none 0 0) := by
                      obtain ⟨g', cp'', hg', -, -, m1, -⟩ := hM.out.at hx'.out (j := i * 2 + 1) (by omega)
                      rw [hg] at hg'
                      simp only [Value.slice.injEq, Option.some.injEq, Addr.mk.injEq, and_true, true_and] at hg'
                      rw [hg'.1, m1, MB_odd]
                    clear hg
                    rw [MB_even, hmkN.out] at m0
                    have hiri : (i : Int) < (x.n : Int) := by omega
                    go_wp2_with fail
                    go_quiet ((go_at_call 32; refine (hmk.out _).mono ?_; rintro e w' ⟨rfl, rfl⟩; exact ⟨rfl, _, rfl⟩))
                    have hb := hid (below_drewN (Below.refl wr.heap.size wr) nq)
                    clear c1 c2 c3 c4 m0 m1
                    go_wp2
                    go_roundw
                    case rel => exact ⟨i + 1, by omega, by simp, hid (hGs.out.kept hb.out), hid (hM.out.kept hb.out), hid (hB.out.kept hb.out hBw'.out)⟩
                    case measure => simp [intOf]; omega
                  · have er1 : decide (i < x.n) = false := by simp; omega
                    have er2 : decide ((i : Int) < (x.n : Int)) = false := by simp; omega
                    go_wp2_with fail
                    go_quiet ((go_at_call 32; refine (hmk.out _).mono ?_; rintro e w' ⟨rfl, rfl⟩; exact ⟨rfl, _, rfl⟩))
                    have hb := hid (below_drewN (Below.refl wr.heap.size wr) nq)
                    clear c1 c2 c3 c4
                    go_wp2
                    go_roundw
                    case rel => exact ⟨i + 1, by omega, by simp, hid (hGs.out.kept hb.out), hid (hM.out.kept hb.out), hid (hB.out.kept hb.out hBw'.out)⟩
                    case measure => simp [intOf]; omega
                · obtain rfl : i = Q := by have := hQ.out; omega
                  clear c1
                  go_wp2
                  go_roundw
                  case rel => exact ⟨k + 1, by omega, by simp, hGs, hM, hB⟩
                  case measure => simp [intOf]; omega
            · obtain rfl : k = l := by omega
              have hGw : Hid (GsJ 50 32 2 MB wr w.heap.size u5 rs ys (fun x => x.n)) := hid (hGs.out.weaken (fun x => Nat.le_add_right _ _))
              clear hGs
              go_wp2
              go_loopw [11, 12, 13] (fun kk _ _ wr => ∃ (l : Nat) (ys : List GrJ), l ≤ k ∧ kk = .int .i64 (l : Int) ∧ Hid (ys.length = k) ∧ Hid (GsJ 50 32 2 MB wr w.heap.size u5 rs ys (fun x => x.n)) ∧ Hid (RowsJ 50 2 wr B rs MB) ∧ Hid (ApartJ B rs w wr)) (fun kk _ _ _ => k - (intOf kk).toNat)
              case atStart => exact ⟨0, ys, Nat.zero_le _, rfl, hyl, hGw, hM, hB⟩
              case round =>
                clear hGw hM hB hyl
                obtain ⟨l, zs, hlk, rfl, hyl, hGs, hM, hB⟩ := hrel
                by_cases hlt : l < k
                · have hki : (l : Int) < (k : Int) := by omega
                  obtain ⟨x, hx⟩ : ∃ x, rs[l]? = some x := ⟨_, List.getElem?_eq_getElem (by have := hn'.out; omega)⟩
                  obtain ⟨y, hy⟩ : ∃ y, zs[l]? = some y := ⟨_, List.getElem?_eq_getElem (by have := hyl.out; omega)⟩
                  have hx' := hid hx
                  have hy' := hid hy
                  have hxr := hr'.out x (List.mem_of_getElem? hx)
                  obtain ⟨so, cp, hxv⟩ := hsl.out l x hx
                  have hxv' := hid hxv
                  clear hx hy hxv
                  obtain ⟨w3, rfl⟩ : ∃ w3, w3 = wr := ⟨_, rfl⟩
                  go_wp2
                  go_loopw [12, 13] (fun v ii wr => ∃ i : Nat, i ≤ 64 ∧ ii = .int .i64 (i : Int) ∧ Hid (wr.ownsRow w3.heap.size 50 2 v i (celL (i * 2) (MB (l + k)))) ∧ Hid (Below w3.heap.size w3 wr)) (fun _ ii _ => 64 - (intOf ii).toNat)
                  case atStart => exact ⟨0, by decide, rfl, hid (by simpa [celL] using World.ownsRow_nil w3 w3.heap.size 50 2), hid (Below.refl _ _)⟩
                  case round =>
                    obtain ⟨i, hi64, rfl, hv, hBi⟩ := hrel
                    by_cases hi : i < 64
                    · obtain ⟨P, hP⟩ : ∃ P, Hid (l + k = P) := ⟨_, rfl⟩
                      have hsum : (l : Int) + (k : Int) = (P : Int) := by have := hP.out; omega
                      have hPl : P ≤ 1000000 := by have := hP.out; omega
                      have hmk := hid (mark_calls P i hPl (by omega))
                      obtain ⟨mk, hmkN⟩ : ∃ mk, Hid (markN P i = mk) := ⟨_, rfl⟩
                      rw [hmkN.out] at hmk
                      rw [hP.out] at hv
                      have hii : (i : Int) < 64 := by omega
                      have hz := hid hBi.out.size
                      obtain ⟨i0, hi0, hz0, hz1, hz2⟩ := info_parts infoBt
                      have hz0' := hid hz0
                      have hz1' := hid hz1
                      have hz2' := hid hz2
                      have hi0' := hid hi0
                      clear hz0 hz1 hz2 hi0
                      go_wp2_with (first
                        | (go_at_call 32; refine Calls.mono (hmk.out _) ?_; rintro e w' ⟨rfl, hw'⟩; obtain rfl := hw'.symm)
                        | (at_builtin; refine wpList_append_own _ rfl _ _ 32 rfl w3.heap.size 50 i0 (.agg #[.int .i64 0, .slice none 0 0]) 2 32 Tryd.underlying32 hi0'.out hz0'.out hz1'.out hz2'.out rfl (by decide) _ _ _ rfl (World.ownsRow.alloc hv.out _) ⟨wr.heap.size, 0, none⟩ 1 1 [.int .i64 (mk : Int), .slice none 0 0] rfl rfl (fun j u hj => by match j, hj with | 0, hj => simp at hj; subst hj; simp [Addr.add] | 1, hj => simp at hj; subst hj; simp [Addr.add]) (fun u hu => by simp at hu; rcases hu with rfl | rfl <;> rfl) (by unfold maxLen; omega) (by omega) (by rw [World.size_alloc]; have := hz.out; omega) ?_)
                        | go_in)
                      intro v' w' hown1 hgrow _
                      have hb'' := hid ((hBi.out.alloc hz.out (.cells #[.int .i64 (mk : Int), .slice none 0 0] 50)).grown hgrow (by rw [World.size_alloc]; have := hz.out; omega) (fun b e => (hv.out.lt b e).1))
                      have hown2 : Hid (w'.ownsRow w3.heap.size 50 2 v' (i + 1) (celL ((i + 1) * 2) (MB (l + k)))) := by
                        rw [hP.out, show (i + 1) * 2 = i * 2 + 2 by omega, ← celL_snoc]
                        have e1 : celL 2 (fun j => MB P (i * 2 + j)) = [.int .i64 (mk : Int), .slice none 0 0] := by
                          show [MB P (i * 2), MB P (i * 2 + 1)] = _
                          rw [MB_even, MB_odd, hmkN.out]
                        rw [e1]
                        exact hown1
                      clear hown1 hgrow
                      go_wp2
                      go_roundw
                      case rel => exact ⟨i + 1, by omega, by simp, hown2, hb''⟩
                      case measure => simp [intOf]; omega
                    · obtain rfl : i = 64 := by omega
                      have hrow := hv.out
                      obtain ⟨gm, cm, _, rfl, -, -, -⟩ := rowz_new hrow (by decide)
                      have hcl := hid (hrow.cells (g := gm) rfl)
                      clear hrow hv
                      have hz := hid hBi.out.size
                      have hG4 := hid (hGs.out.kept hBi.out)
                      have hM4 := hid (hM.out.kept hBi.out)
                      have hB4 := hid (hB.out.kept hBi.out hBw'.out)
                      have c1 : wr.cell? ⟨G, l, none⟩ = some (.slice so x.n cp) := by rw [← hxv'.out]; exact hGc.out wr hB4.out l x hx'.out
                      have hlt5 : Hid (∀ r, u5.ownBlock = some r → w.heap.size ≤ r ∧ r < w3.heap.size) := fun r e => hGs.out.1.lt r e
                      obtain ⟨gg, cg, hgv, hgb, hgl, -, -⟩ := hG4.out.at hx'.out hy'.out
                      rw [hyl.out] at hgv
                      subst hgv
                      have hgb' := hid hgb
                      have hgl' := hid hgl
                      clear hGs hM hB hgb hgl
                      have hge : ¬ (64 : Int) < 64 := by decide
                      have hM5 : Hid (wr.ownsRow B 50 2 x.v x.n (celL (x.n * 2) (MB l))) := by
                        exact hM4.out.1 l x hx'.out
                      have hBz : Hid (B ≤ wr.heap.size) := Nat.le_trans hBw'.out hB4.out.size
                      go_wp2_with (first
                        | (at_builtin; refine wpList_manyBt rfl _ _ rfl hxv'.out rfl hM5.out hBz.out ⟨gm, 0, none⟩ 64 cm (celL (64 * 2) (MB (l + k))) rfl (celL_len _ _) hcl.out (fun u hu => by simp only [celL, List.mem_map] at hu; obtain ⟨_, _, rfl⟩ := hu; exact MB_one _ _) (by omega) ?_)
                        | go_in)
                      intro v' w' hown' hvb' hgr' hxo'
                      have hGn : Hid (GsJ 50 32 2 MB w' w.heap.size (.slice (some ⟨gg, 0, none⟩) k cg) rs zs (fun x => x.n)) := hid (hG4.out.growRow hM4.out (fun k' x' g' hk' hg' => (hgw.out k' x' g' hk' hg').2) hx'.out hgr' hxo' (fun _ => Nat.le_refl _))
                      have hMn := hid (hM4.out.growRow hx'.out hgr' hxo')
                      have hBn := hid (hB4.out.grown hgr' (fun r e => ⟨(hgw.out l x r hx'.out e).1, .inr ⟨l, x, hx'.out, e⟩⟩) hBw'.out)
                      obtain ⟨gn, cn, _, rfl, -, -, -⟩ := rowz_new hown' (by omega)
                      obtain ⟨y', -, hset⟩ := hGn.out.set (nb := wr.heap.size) hx'.out hy'.out (news := celL (64 * 2) (MB (l + k))) hown' hvb' hB4.out.size (fun r e => ⟨(hlt5.out r e).1, by have h1 := (hlt5.out r e).2; have h2 := hz.out; omega⟩) (fun g e => (hgw.out l x g hx'.out e).2) (Nat.le_refl _) (gg := gg) (cap := cg) (by rw [hyl.out])
                      have hset' := hid hset
                      have hMs := hid (hMn.out.off (b := gg) (i := l) (fun k' x' g' hk' hg' => by have h1 := (hgw.out k' x' g' hk' hg').2; have h2 := hgb'.out; omega) (.slice (some ⟨gn, 0, none⟩) (x.n + 64) cn))
                      have hBs := hid (hBn.out.set (b := gg) ⟨Nat.le_trans hBw'.out hgb'.out, .inl hgb'.out⟩ hBw'.out l (.slice (some ⟨gn, 0, none⟩) (x.n + 64) cn))
                      obtain ⟨gg2, cg2, e2, -, -, c2, f2⟩ := hGn.out.at hx'.out hy'.out
                      obtain ⟨rfl, rfl⟩ : gg2 = gg ∧ cg2 = cg := by
                        rw [hyl.out] at e2
                        cases e2
                        exact ⟨rfl, rfl⟩
                      clear e2 hown' hvb' hgr' hxo' hset hG4 hM4 hB4 hGn hMn hBn c1
                      go_wp2
                      go_roundw
                      case rel => exact ⟨l + 1, zs.set l y', by omega, by simp, by show _ = _; rw [List.length_set, hyl.out], hset', hMs, hBs⟩
                      case measure => simp [intOf]; omega
                · obtain rfl : l = k := by omega
                  go_wp2
                  go_loopw [14, 15] (fun kk _ wr => ∃ k : Nat, k ≤ l ∧ kk = .int .i64 (k : Int) ∧ Hid (GsJ 50 32 2 MB wr w.heap.size u5 rs zs (fun x => x.n)) ∧ Hid (RowsJ 50 2 wr B rs MB) ∧ Hid (ApartJ B rs w wr)) (fun kk _ _ => l - (intOf kk).toNat)
                  case atStart => exact ⟨0, Nat.zero_le _, rfl, hGs, hM, hB⟩
                  case round =>
                    clear hGs hM hB
                    obtain ⟨k, hkl, rfl, hGs, hM, hB⟩ := hrel
                    by_cases hlt : k < l
                    · have hki : (k : Int) < (l : Int) := by omega
                      obtain ⟨x, hx⟩ : ∃ x, rs[k]? = some x := ⟨_, List.getElem?_eq_getElem (by have := hn'.out; omega)⟩
                      obtain ⟨y, hy⟩ : ∃ y, zs[k]? = some y := ⟨_, List.getElem?_eq_getElem (by have := hyl.out; omega)⟩
                      have hx' := hid hx
                      have hy' := hid hy
                      have hxr := hr'.out x (List.mem_of_getElem? hx)
                      obtain ⟨so, cp, hxv⟩ := hsl.out k x hx
                      have hxv' := hid hxv
                      obtain ⟨gg, cg, hgv, -, -, -, -⟩ := hGs.out.at hx hy
                      rw [hyl.out] at hgv
                      clear hx hy hxv
                      go_wp2
                      go_loopw [15] (fun ii wr => ∃ i : Nat, i ≤ x.n ∧ ii = .int .i64 (i : Int) ∧ Hid (GsJ 50 32 2 MB wr w.heap.size u5 rs zs (fun x => x.n)) ∧ Hid (RowsJ 50 2 wr B rs MB) ∧ Hid (ApartJ B rs w wr)) (fun ii _ => x.n - (intOf ii).toNat)
                      case atStart => exact ⟨0, Nat.zero_le _, rfl, hGs, hM, hB⟩
                      case round =>
                        clear hGs hM hB
                        obtain ⟨i, hi, rfl, hGs, hM, hB⟩ := hrel
                        subst hgv
                        have c1 : wr.cell? ⟨G, k, none⟩ = some (.slice so x.n cp) := by rw [← hxv'.out]; exact hGc.out wr hB.out k x hx'.out
                        by_cases hir : i < x.n
                        · obtain ⟨Q, hQ⟩ : ∃ Q, Hid (x.n + 64 = Q) := ⟨_, rfl⟩
                          have c2 : wr.cell? ⟨gg, k, none⟩ = some (.slice (some ⟨y.b, 0, none⟩) Q y.c) := by
                            obtain ⟨gg', cg', e, -, -, h, -⟩ := hGs.out.at hx'.out hy'.out
                            cases e
                            rw [← hQ.out]
                            exact h
                          have hii : (i : Int) < (Q : Int) := by have := hQ.out; omega
                          have hmk := hid (mark_calls k i (by omega) (by omega))
                          obtain ⟨mk, hmkN⟩ : ∃ mk, Hid (markN k i = mk) := ⟨_, rfl⟩
                          rw [hmkN.out] at hmk
                          have emk : ((mk : Int) == (mk : Int)) = true := by simp
                          have c3 : wr.cell? ⟨y.b, i * 2, none⟩ = some (.int .i64 (mk : Int)) := by
                            rw [← hmkN.out, ← MB_even]
                            exact hGs.out.word hx'.out hy'.out (by omega)
                          have c4 : wr.cell? ⟨y.b, i * 2 + 1, none⟩ = some (.slice none 0 0) := by
                            rw [← MB_odd k i]
                            exact hGs.out.word hx'.out hy'.out (by omega)
                          obtain ⟨g, cp', hg, -, -, m0, -⟩ := hM.out.at hx'.out (j := i * 2) (by omega)
                          obtain ⟨rfl, rfl⟩ : so = some ⟨g, 0, none⟩ ∧ cp = cp' := by
                            have := hxv'.out
                            rw [hg] at this
                            simpa [eq_comm] using this
                          have m1 : wr.cell? ⟨g, i * 2 + 1, none⟩ = some (.slice none 0 0) := by
                            obtain ⟨g', cp'', hg', -, -, m1, -⟩ := hM.out.at hx'.out (j := i * 2 + 1) (by omega)
                            rw [hg] at hg'
                            simp only [Value.slice.injEq, Option.some.injEq, Addr.mk.injEq, and_true, true_and] at hg'
                            rw [hg'.1, m1, MB_odd]
                          clear hg
                          rw [MB_even, hmkN.out] at m0
                          have hiri : (i : Int) < (x.n : Int) := by omega
                          go_wp2_with fail
                          go_quiet ((go_at_call 32; refine (hmk.out _).mono ?_; rintro e w' ⟨rfl, rfl⟩; exact ⟨rfl, _, rfl⟩))
                          have hb := hid (below_drewN (Below.refl wr.heap.size wr) nq)
                          clear c1 c2 c3 c4 m0 m1
                          go_wp2
                          go_roundw
                          case rel => exact ⟨i + 1, by omega, by simp, hid (hGs.out.kept hb.out), hid (hM.out.kept hb.out), hid (hB.out.kept hb.out hBw'.out)⟩
                          case measure => simp [intOf]; omega
                        · obtain rfl : i = x.n := by omega
                          go_wp2
                          go_roundw
                          case rel => exact ⟨k + 1, by omega, by simp, hGs, hM, hB⟩
                          case measure => simp [intOf]; omega
                    · obtain rfl : k = l := by omega
                      go_wp2
                      go_ret
                      exact ⟨rfl, hB.out⟩
end Go.Proofs.YtodhekdnbenobaaDoor
