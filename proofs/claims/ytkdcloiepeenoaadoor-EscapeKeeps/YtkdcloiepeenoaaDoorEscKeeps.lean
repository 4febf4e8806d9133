/-
  The walk of quarrylaw06.EscapeKeeps.
-/
import Derived.Test.YtkdcloiepeenoaaDoorEscB
import Derived.Test.YtkdcloiepeenoaaDoorApartRows
import Derived.SizedLaws
import Derived.Deep.DeepCutAuto
namespace Go.Proofs.YtkdcloiepeenoaaDoor
open Go.RowKit Go.Shelf

theorem own_apart {B base n : Nat} {rs : List RowX} {A W : World} {v : Value} {L : List Value} (h : A.ownsRow base 39 1 v n L) (hA : ApartK B rs A W) (hr : ∀ (k : Nat) (x : RowX) (g : Nat), rs[k]? = some x → x.g = some g → g < base) : W.ownsRow base 39 1 v n L := by
  refine ⟨h.1, ?_⟩
  rcases h.2 with h2 | ⟨g, cap, cur, rfl, hb, hgb, h3⟩
  · exact .inl h2
  · exact .inr ⟨g, cap, cur, rfl, hb, hA.2 g cur _ hgb (fun k x hk e => by have := hr k x g hk e; omega), h3⟩
theorem rows4 {W : World} {B : Nat} {s t : ByteArray} {ga gb gc gd : Nat} (ha : B ≤ ga) (h1 : ga < gb) (h2 : gb < gc) (h3 : gc < gd) (A : At W ga (rowCells (need s.size) (rowOf (escS s) s.size)) 39) (Bt : At W gb (rowCells (need s.size) (rowOf (escS s) s.size)) 39) (C : At W gc (rowCells (need t.size) (rowOf (escS t) t.size)) 39) (D : At W gd (rowCells (need s.size) (rowOf (escS s) s.size)) 39) :
    RowsX W B [⟨some ga, need s.size⟩, ⟨some gb, need s.size⟩, ⟨some gc, need t.size⟩, ⟨some gd, need s.size⟩] (fun k => if k = 2 then rowOf (escS t) t.size else rowOf (escS s) s.size) := by
  refine ⟨fun k x hk => ?_, fun k l x y g hk hl hx hy => ?_⟩
  · match k, hk with
    | 0, hk => simp at hk; subst hk; exact ⟨(fun e => by cases e), fun g e => by cases e; exact ⟨by omega, A⟩⟩
    | 1, hk => simp at hk; subst hk; exact ⟨(fun e => by cases e), fun g e => by cases e; exact ⟨by omega, Bt⟩⟩
    | 2, hk => simp at hk; subst hk; exact ⟨(fun e => by cases e), fun g e => by cases e; exact ⟨by omega, C⟩⟩
    | 3, hk => simp at hk; subst hk; exact ⟨(fun e => by cases e), fun g e => by cases e; exact ⟨by omega, D⟩⟩
    | k + 4, hk => simp at hk
  · have key : ∀ (k : Nat) (x : RowX), ([⟨some ga, need s.size⟩, ⟨some gb, need s.size⟩, ⟨some gc, need t.size⟩, ⟨some gd, need s.size⟩] : List RowX)[k]? = some x → (k = 0 ∧ x.g = some ga) ∨ (k = 1 ∧ x.g = some gb) ∨ (k = 2 ∧ x.g = some gc) ∨ (k = 3 ∧ x.g = some gd) := by
      intro k x hk
      match k, hk with
      | 0, hk => simp at hk; subst hk; exact .inl ⟨rfl, rfl⟩
      | 1, hk => simp at hk; subst hk; exact .inr (.inl ⟨rfl, rfl⟩)
      | 2, hk => simp at hk; subst hk; exact .inr (.inr (.inl ⟨rfl, rfl⟩))
      | 3, hk => simp at hk; subst hk; exact .inr (.inr (.inr ⟨rfl, rfl⟩))
      | k + 4, hk => simp at hk
    have ka := key k x hk
    have la := key l y hl
    rw [hx] at ka
    rw [hy] at la
    simp only [Option.some.injEq] at ka la
    omega

set_option maxRecDepth 10000 in
set_option maxHeartbeats 8000000 in
theorem escapeKeeps_walk (s : ByteArray) (hs : s.size ≤ reachBytes) (t : ByteArray) (ht : t.size ≤ reachBytes) (w : World) (hT : Tab w) (h0 : 0 < w.heap.size) :
    Calls Tryd.prog 5 #[.string s, .string t] w fun e w' => e = .returned (.bool true) ∧ Below w.heap.size w w' := by
  have hs1 : s.size ≤ 140737488351232 := hs
  have ht1 : t.size ≤ 140737488351232 := ht
  have hT' := hid hT
  have h0' := hid h0
  clear hs ht hT h0
  go_enter Tryd.func5, Tryd.ntmps5
  have hB0 := hid (Below.refl w.heap.size w)
  go_wp2_with fail
  have za := hid hB0.out.size
  refine Calls.mono (escapedS_calls s (by omega) _ (hT'.out.below hB0.out h0'.out) (by have h1 := h0'.out; have h2 := za.out; first | exact h1 | (simp only [World.size_alloc] at h2 ⊢; omega) | omega)) ?_
  rintro e w1 ⟨ga, hga, rfl, hA, hb⟩
  have la := hid hA.lt
  have ra_1 := hid (hA.alloc (.cells #[.int .i64 (s.size : Int), .slice (some ⟨ga, 0, none⟩) (need s.size) (need s.size)] 24))
  have va_1 := hid (At.new w1 #[.int .i64 (s.size : Int), .slice (some ⟨ga, 0, none⟩) (need s.size) (need s.size)] 24)
  have hBb := hB0.out.trans (hb.mono hB0.out.size)
  have hB1 := hid (hBb.alloc hBb.size (.cells #[.int .i64 (s.size : Int), .slice (some ⟨ga, 0, none⟩) (need s.size) (need s.size)] 24))
  have ya := hid hb.size
  clear hA hb hBb hB0
  go_wp2_with fail
  have zb := hid hB1.out.size
  refine Calls.mono (escapedS_calls s (by omega) _ (hT'.out.below hB1.out h0'.out) (by have h1 := h0'.out; have h2 := zb.out; first | exact h1 | (simp only [World.size_alloc] at h2 ⊢; omega) | omega)) ?_
  rintro e w2 ⟨gb, hgb, rfl, hA, hb⟩
  have ra_2 := hid ((ra_1.out.keptAll hb).alloc (.cells #[.int .i64 (s.size : Int), .slice (some ⟨gb, 0, none⟩) (need s.size) (need s.size)] 24))
  have va_2 := hid ((va_1.out.keptAll hb).alloc (.cells #[.int .i64 (s.size : Int), .slice (some ⟨gb, 0, none⟩) (need s.size) (need s.size)] 24))
  clear ra_1 va_1
  have lb := hid hA.lt
  have rb_2 := hid (hA.alloc (.cells #[.int .i64 (s.size : Int), .slice (some ⟨gb, 0, none⟩) (need s.size) (need s.size)] 24))
  have vb_2 := hid (At.new w2 #[.int .i64 (s.size : Int), .slice (some ⟨gb, 0, none⟩) (need s.size) (need s.size)] 24)
  have hBb := hB1.out.trans (hb.mono hB1.out.size)
  have hB2 := hid (hBb.alloc hBb.size (.cells #[.int .i64 (s.size : Int), .slice (some ⟨gb, 0, none⟩) (need s.size) (need s.size)] 24))
  have yb := hid hb.size
  clear hA hb hBb hB1
  go_wp2_with fail
  have zc := hid hB2.out.size
  refine Calls.mono (escapedS_calls t (by omega) _ (hT'.out.below hB2.out h0'.out) (by have h1 := h0'.out; have h2 := zc.out; first | exact h1 | (simp only [World.size_alloc] at h2 ⊢; omega) | omega)) ?_
  rintro e w3 ⟨gc, hgc, rfl, hA, hb⟩
  have ra_3 := hid ((ra_2.out.keptAll hb).alloc (.cells #[.int .i64 (t.size : Int), .slice (some ⟨gc, 0, none⟩) (need t.size) (need t.size)] 24))
  have va_3 := hid ((va_2.out.keptAll hb).alloc (.cells #[.int .i64 (t.size : Int), .slice (some ⟨gc, 0, none⟩) (need t.size) (need t.size)] 24))
  have rb_3 := hid ((rb_2.out.keptAll hb).alloc (.cells #[.int .i64 (t.size : Int), .slice (some ⟨gc, 0, none⟩) (need t.size) (need t.size)] 24))
  have vb_3 := hid ((vb_2.out.keptAll hb).alloc (.cells #[.int .i64 (t.size : Int), .slice (some ⟨gc, 0, none⟩) (need t.size) (need t.size)] 24))
  clear ra_2 va_2 rb_2 vb_2
  have lc := hid hA.lt
  have rc_3 := hid (hA.alloc (.cells #[.int .i64 (t.size : Int), .slice (some ⟨gc, 0, none⟩) (need t.size) (need t.size)] 24))
  have vc_3 := hid (At.new w3 #[.int .i64 (t.size : Int), .slice (some ⟨gc, 0, none⟩) (need t.size) (need t.size)] 24)
  have hBb := hB2.out.trans (hb.mono hB2.out.size)
  have hB3 := hid (hBb.alloc hBb.size (.cells #[.int .i64 (t.size : Int), .slice (some ⟨gc, 0, none⟩) (need t.size) (need t.size)] 24))
  have yc := hid hb.size
  clear hA hb hBb hB2
  go_wp2_with fail
  have zd := hid hB3.out.size
  refine Calls.mono (escapedS_calls s (by omega) _ (hT'.out.below hB3.out h0'.out) (by have h1 := h0'.out; have h2 := zd.out; first | exact h1 | (simp only [World.size_alloc] at h2 ⊢; omega) | omega)) ?_
  rintro e w4 ⟨gd, hgd, rfl, hA, hb⟩
  have ra_4 := hid ((ra_3.out.keptAll hb).alloc (.cells #[.int .i64 (s.size : Int), .slice (some ⟨gd, 0, none⟩) (need s.size) (need s.size)] 24))
  have va_4 := hid ((va_3.out.keptAll hb).alloc (.cells #[.int .i64 (s.size : Int), .slice (some ⟨gd, 0, none⟩) (need s.size) (need s.size)] 24))
  have rb_4 := hid ((rb_3.out.keptAll hb).alloc (.cells #[.int .i64 (s.size : Int), .slice (some ⟨gd, 0, none⟩) (need s.size) (need s.size)] 24))
  have vb_4 := hid ((vb_3.out.keptAll hb).alloc (.cells #[.int .i64 (s.size : Int), .slice (some ⟨gd, 0, none⟩) (need s.size) (need s.size)] 24))
  have rc_4 := hid ((rc_3.out.keptAll hb).alloc (.cells #[.int .i64 (s.size : Int), .slice (some ⟨gd, 0, none⟩) (need s.size) (need s.size)] 24))
  have vc_4 := hid ((vc_3.out.keptAll hb).alloc (.cells #[.int .i64 (s.size : Int), .slice (some ⟨gd, 0, none⟩) (need s.size) (need s.size)] 24))
  clear ra_3 va_3 rb_3 vb_3 rc_3 vc_3
  have ld := hid hA.lt
  have rd_4 := hid (hA.alloc (.cells #[.int .i64 (s.size : Int), .slice (some ⟨gd, 0, none⟩) (need s.size) (need s.size)] 24))
  have vd_4 := hid (At.new w4 #[.int .i64 (s.size : Int), .slice (some ⟨gd, 0, none⟩) (need s.size) (need s.size)] 24)
  have hBb := hB3.out.trans (hb.mono hB3.out.size)
  have hB4 := hid (hBb.alloc hBb.size (.cells #[.int .i64 (s.size : Int), .slice (some ⟨gd, 0, none⟩) (need s.size) (need s.size)] 24))
  have yd := hid hb.size
  clear hA hb hBb hB3
  go_wp2_with fail
  have zw := hid hB4.out.size
  refine Calls.mono (refEsc_calls s hs1 _) ?_
  rintro e w5 ⟨vw, rfl, hA, hb⟩
  obtain ⟨ro, rc, rfl⟩ := row_slice hA
  have ra_5 := hid ((ra_4.out.keptAll hb).alloc (.cells #[.int .i64 (s.size : Int), .slice ro (need s.size) rc] 24))
  have va_5 := hid ((va_4.out.keptAll hb).alloc (.cells #[.int .i64 (s.size : Int), .slice ro (need s.size) rc] 24))
  have rb_5 := hid ((rb_4.out.keptAll hb).alloc (.cells #[.int .i64 (s.size : Int), .slice ro (need s.size) rc] 24))
  have vb_5 := hid ((vb_4.out.keptAll hb).alloc (.cells #[.int .i64 (s.size : Int), .slice ro (need s.size) rc] 24))
  have rc_5 := hid ((rc_4.out.keptAll hb).alloc (.cells #[.int .i64 (s.size : Int), .slice ro (need s.size) rc] 24))
  have vc_5 := hid ((vc_4.out.keptAll hb).alloc (.cells #[.int .i64 (s.size : Int), .slice ro (need s.size) rc] 24))
  have rd_5 := hid ((rd_4.out.keptAll hb).alloc (.cells #[.int .i64 (s.size : Int), .slice ro (need s.size) rc] 24))
  have vd_5 := hid ((vd_4.out.keptAll hb).alloc (.cells #[.int .i64 (s.size : Int), .slice ro (need s.size) rc] 24))
  clear ra_4 va_4 rb_4 vb_4 rc_4 vc_4 rd_4 vd_4
  have hrow := hid (World.ownsRow.alloc hA (.cells #[.int .i64 (s.size : Int), .slice ro (need s.size) rc] 24))
  have vw_5 := hid (At.new w5 #[.int .i64 (s.size : Int), .slice ro (need s.size) rc] 24)
  have hBb := hB4.out.trans (hb.mono hB4.out.size)
  have hB5 := hid (hBb.alloc hBb.size (.cells #[.int .i64 (s.size : Int), .slice ro (need s.size) rc] 24))
  have yw := hid hb.size
  clear hA hb hBb hB4
  simp only [World.size_alloc] at hga hgb hgc hgd hrow ya yb yc yd yw za zb zc zd zw
  go_wp2_with fail
  obtain ⟨W, hW⟩ : ∃ W, w5.alloc (.cells #[.int .i64 (s.size : Int), .slice ro (need s.size) rc] 24) = W := ⟨_, rfl⟩
  rw [hW] at ra_5 va_5 rb_5 vb_5 rc_5 vc_5 rd_5 vd_5 vw_5 hrow hB5
  rw [hW]
  have hcells : Hid (∀ W' : World, Below W.heap.size W W' → ((W'.cell? ⟨w1.heap.size, 0, none⟩ = some (.int .i64 (s.size : Int)) ∧ W'.cell? ⟨w1.heap.size, 1, none⟩ = some (.slice (some ⟨ga, 0, none⟩) (need s.size) (need s.size))) ∧ (W'.cell? ⟨w2.heap.size, 0, none⟩ = some (.int .i64 (s.size : Int)) ∧ W'.cell? ⟨w2.heap.size, 1, none⟩ = some (.slice (some ⟨gb, 0, none⟩) (need s.size) (need s.size))) ∧ (W'.cell? ⟨w3.heap.size, 0, none⟩ = some (.int .i64 (t.size : Int)) ∧ W'.cell? ⟨w3.heap.size, 1, none⟩ = some (.slice (some ⟨gc, 0, none⟩) (need t.size) (need t.size))) ∧ (W'.cell? ⟨w4.heap.size, 0, none⟩ = some (.int .i64 (s.size : Int)) ∧ W'.cell? ⟨w4.heap.size, 1, none⟩ = some (.slice (some ⟨gd, 0, none⟩) (need s.size) (need s.size))) ∧ (W'.cell? ⟨w5.heap.size, 0, none⟩ = some (.int .i64 (s.size : Int)) ∧ W'.cell? ⟨w5.heap.size, 1, none⟩ = some (.slice ro (need s.size) rc)))) := fun W' h => ⟨⟨(va_5.out.keptAll h).facts.1, (va_5.out.keptAll h).facts.2.1⟩, ⟨(vb_5.out.keptAll h).facts.1, (vb_5.out.keptAll h).facts.2.1⟩, ⟨(vc_5.out.keptAll h).facts.1, (vc_5.out.keptAll h).facts.2.1⟩, ⟨(vd_5.out.keptAll h).facts.1, (vd_5.out.keptAll h).facts.2.1⟩, ⟨(vw_5.out.keptAll h).facts.1, (vw_5.out.keptAll h).facts.2.1⟩⟩
  have hs0 := hcells.out W.drew (Below.refl _ _).drew
  rename_i K6 hK6
  refine wp_region_held_drew (S := fun W' => (W'.cell? ⟨w1.heap.size, 0, none⟩ = some (.int .i64 (s.size : Int)) ∧ W'.cell? ⟨w1.heap.size, 1, none⟩ = some (.slice (some ⟨ga, 0, none⟩) (need s.size) (need s.size))) ∧ (W'.cell? ⟨w2.heap.size, 0, none⟩ = some (.int .i64 (s.size : Int)) ∧ W'.cell? ⟨w2.heap.size, 1, none⟩ = some (.slice (some ⟨gb, 0, none⟩) (need s.size) (need s.size))) ∧ (W'.cell? ⟨w3.heap.size, 0, none⟩ = some (.int .i64 (t.size : Int)) ∧ W'.cell? ⟨w3.heap.size, 1, none⟩ = some (.slice (some ⟨gc, 0, none⟩) (need t.size) (need t.size))) ∧ (W'.cell? ⟨w4.heap.size, 0, none⟩ = some (.int .i64 (s.size : Int)) ∧ W'.cell? ⟨w4.heap.size, 1, none⟩ = some (.slice (some ⟨gd, 0, none⟩) (need s.size) (need s.size))) ∧ (W'.cell? ⟨w5.heap.size, 0, none⟩ = some (.int .i64 (s.size : Int)) ∧ W'.cell? ⟨w5.heap.size, 1, none⟩ = some (.slice ro (need s.size) rc))) (by kernel_rfl) hs0 (fun hHeld => ?_)
  (refine' wpAnyH_take (i := 0) rfl (by kernel_rfl) (by kernel_rfl) (by kernel_rfl) (fun _ _ _ h => h) (Or.inl ⟨by rfl, ?_⟩) (by assumption) ?_; rotate_left; (· (intro wq hq; (try dsimp only at hq); go_simp; first | done | with_reducible rfl)); simp only [Act.put, List.getElem_toArray, List.getElem_cons_zero, List.setIfInBounds_toArray, List.set_cons_zero, List.set_cons_succ])
  (refine' wpAnyH_take (i := 1) rfl (by kernel_rfl) (by kernel_rfl) (by kernel_rfl) (fun _ _ _ h => h) (Or.inl ⟨by rfl, ?_⟩) (by assumption) ?_; rotate_left; (· (intro wq hq; (try dsimp only at hq); go_simp; first | done | with_reducible rfl)); simp only [Act.put, List.getElem_toArray, List.getElem_cons_zero, List.getElem_cons_succ, List.setIfInBounds_toArray, List.set_cons_zero, List.set_cons_succ])
  have q0 : Hid (Below W.heap.size W W.drew) := (Below.refl _ W).drew
  refine wpAnyH_ready (rs := [2]) (by kernel_rfl) (by simp) ?_
  refine AllReadyH.cons rfl (fun K hK => ?_) ?_
  · rw [if_pos (by rfl)]
    go_simp
    refine (same6 (by omega) _ _ _ _ _ (ra_5.out.keptAll q0.out).row6 (wds_own (row_keptAll hrow.out q0.out))).mono ?_
    rintro e x1 ⟨rfl, hbx⟩
    have q1 : Hid (Below W.heap.size W x1) := q0.out.trans (hbx.mono q0.out.size)
    refine hK.out _ _ (hcells.out _ q1.out) (fun hH1 => ?_)
    clear hK K hbx
    (refine' wpAnyH_take (i := 3) rfl (by kernel_rfl) (by kernel_rfl) (by kernel_rfl) (fun _ _ _ h => h) (Or.inl ⟨by rfl, ?_⟩) (by assumption) ?_; rotate_left; (· (intro wq hq; (try dsimp only at hq); go_simp; first | done | with_reducible rfl)); simp only [Act.put, List.getElem_toArray, List.getElem_cons_zero, List.getElem_cons_succ, List.setIfInBounds_toArray, List.set_cons_zero, List.set_cons_succ])
    (refine' wpAnyH_take (i := 4) rfl (by kernel_rfl) (by kernel_rfl) (by kernel_rfl) (fun _ _ _ h => h) (Or.inl ⟨by rfl, ?_⟩) (by assumption) ?_; rotate_left; (· (intro wq hq; (try dsimp only at hq); go_simp; first | done | with_reducible rfl)); simp only [Act.put, List.getElem_toArray, List.getElem_cons_zero, List.getElem_cons_succ, List.setIfInBounds_toArray, List.set_cons_zero, List.set_cons_succ])
    (refine' wpAnyH_take (i := 5) rfl (by kernel_rfl) (by kernel_rfl) (by kernel_rfl) (fun _ _ _ h => h) (Or.inl ⟨by rfl, ?_⟩) (by assumption) ?_; rotate_left; (· (intro wq hq; (try dsimp only at hq); go_simp; first | done | with_reducible rfl)); simp only [Act.put, List.getElem_toArray, List.getElem_cons_zero, List.getElem_cons_succ, List.setIfInBounds_toArray, List.set_cons_zero, List.set_cons_succ])
    (refine' wpAnyH_take (i := 6) rfl (by kernel_rfl) (by kernel_rfl) (by kernel_rfl) (fun _ _ _ h => h) (Or.inl ⟨by rfl, ?_⟩) (by assumption) ?_; rotate_left; (· (intro wq hq; (try dsimp only at hq); go_simp; first | done | with_reducible rfl)); simp only [Act.put, List.getElem_toArray, List.getElem_cons_zero, List.getElem_cons_succ, List.setIfInBounds_toArray, List.set_cons_zero, List.set_cons_succ])
    refine wpAnyH_ready (rs := [7]) (by kernel_rfl) (by simp) ?_
    refine AllReadyH.cons rfl (fun K hK => ?_) ?_
    · rw [if_pos (by rfl)]
      go_simp
      refine (same6 (by omega) _ _ _ _ _ (rb_5.out.keptAll q1.out).row6 (wds_own (row_keptAll hrow.out q1.out))).mono ?_
      rintro e x2 ⟨rfl, hbx⟩
      have q2 : Hid (Below W.heap.size W x2) := q1.out.trans (hbx.mono q1.out.size)
      refine hK.out _ _ (hcells.out _ q2.out) (fun hH2 => ?_)
      clear hK K hbx
      (refine' wpAnyH_take (i := 8) rfl (by kernel_rfl) (by kernel_rfl) (by kernel_rfl) (fun _ _ _ h => h) (Or.inl ⟨by rfl, ?_⟩) (by assumption) ?_; rotate_left; (· (intro wq hq; (try dsimp only at hq); go_simp; first | done | with_reducible rfl)); simp only [Act.put, List.getElem_toArray, List.getElem_cons_zero, List.getElem_cons_succ, List.setIfInBounds_toArray, List.set_cons_zero, List.set_cons_succ])
      (refine' wpAnyH_take (i := 9) rfl (by kernel_rfl) (by kernel_rfl) (by kernel_rfl) (fun _ _ _ h => h) (Or.inl ⟨by rfl, ?_⟩) (by assumption) ?_; rotate_left; (· (intro wq hq; (try dsimp only at hq); go_simp; first | done | with_reducible rfl)); simp only [Act.put, List.getElem_toArray, List.getElem_cons_zero, List.getElem_cons_succ, List.setIfInBounds_toArray, List.set_cons_zero, List.set_cons_succ])
      (refine' wpAnyH_take (i := 10) rfl (by kernel_rfl) (by kernel_rfl) (by kernel_rfl) (fun _ _ _ h => h) (Or.inl ⟨by rfl, ?_⟩) (by assumption) ?_; rotate_left; (· (intro wq hq; (try dsimp only at hq); go_simp; first | done | with_reducible rfl)); simp only [Act.put, List.getElem_toArray, List.getElem_cons_zero, List.getElem_cons_succ, List.setIfInBounds_toArray, List.set_cons_zero, List.set_cons_succ])
      (refine' wpAnyH_take (i := 11) rfl (by kernel_rfl) (by kernel_rfl) (by kernel_rfl) (fun _ _ _ h => h) (Or.inl ⟨by rfl, ?_⟩) (by assumption) ?_; rotate_left; (· (intro wq hq; (try dsimp only at hq); go_simp; first | done | with_reducible rfl)); simp only [Act.put, List.getElem_toArray, List.getElem_cons_zero, List.getElem_cons_succ, List.setIfInBounds_toArray, List.set_cons_zero, List.set_cons_succ])
      (refine' wpAnyH_take (i := 12) rfl (by kernel_rfl) (by kernel_rfl) (by kernel_rfl) (fun _ _ _ h => h) (Or.inl ⟨by rfl, ?_⟩) (by assumption) ?_; rotate_left; (· (intro wq hq; (try dsimp only at hq); go_simp; first | done | with_reducible rfl)); simp only [Act.put, List.getElem_toArray, List.getElem_cons_zero, List.getElem_cons_succ, List.setIfInBounds_toArray, List.set_cons_zero, List.set_cons_succ])
      refine wpAnyH_ready (rs := [13]) (by kernel_rfl) (by simp) ?_
      refine AllReadyH.cons rfl (fun K hK => ?_) ?_
      · rw [if_pos (by rfl)]
        go_simp
        refine (same6 (by omega) _ _ _ _ _ (rd_5.out.keptAll q2.out).row6 (wds_own (row_keptAll hrow.out q2.out))).mono ?_
        rintro e x3 ⟨rfl, hbx⟩
        have q3 : Hid (Below W.heap.size W x3) := q2.out.trans (hbx.mono q2.out.size)
        refine hK.out _ _ (hcells.out _ q3.out) (fun hH3 => ?_)
        clear hK K hbx
        (refine' wpAnyH_take (i := 14) rfl (by kernel_rfl) (by kernel_rfl) (by kernel_rfl) (fun _ _ _ h => h) (Or.inl ⟨by rfl, ?_⟩) (by assumption) ?_; rotate_left; (· (intro wq hq; (try dsimp only at hq); go_simp; first | done | with_reducible rfl)); simp only [Act.put, List.getElem_toArray, List.getElem_cons_zero, List.getElem_cons_succ, List.setIfInBounds_toArray, List.set_cons_zero, List.set_cons_succ])
        (refine' wpAnyH_take (i := 15) rfl (by kernel_rfl) (by kernel_rfl) (by kernel_rfl) (fun _ _ _ h => h) (Or.inl ⟨by rfl, ?_⟩) (by assumption) ?_; rotate_left; (· (intro wq hq; (try dsimp only at hq); go_simp; first | done | with_reducible rfl)); simp only [Act.put, List.getElem_toArray, List.getElem_cons_zero, List.getElem_cons_succ, List.setIfInBounds_toArray, List.set_cons_zero, List.set_cons_succ])
        (refine' wpAnyH_take (i := 16) rfl (by kernel_rfl) (by kernel_rfl) (by kernel_rfl) (fun _ _ _ h => h) (Or.inl ⟨by rfl, ?_⟩) (by assumption) ?_; rotate_left; (· (intro wq hq; (try dsimp only at hq); go_simp; first | done | with_reducible rfl)); simp only [Act.put, List.getElem_toArray, List.getElem_cons_zero, List.getElem_cons_succ, List.setIfInBounds_toArray, List.set_cons_zero, List.set_cons_succ])
        (refine' wpAnyH_take (i := 17) rfl (by kernel_rfl) (by kernel_rfl) (by kernel_rfl) (fun _ _ _ h => h) (Or.inl ⟨by rfl, ?_⟩) (by assumption) ?_; rotate_left; (· (intro wq hq; (try dsimp only at hq); go_simp; first | done | with_reducible rfl)); simp only [Act.put, List.getElem_toArray, List.getElem_cons_zero, List.getElem_cons_succ, List.setIfInBounds_toArray, List.set_cons_zero, List.set_cons_succ])
        (refine' wpAnyH_take (i := 18) rfl (by kernel_rfl) (by kernel_rfl) (by kernel_rfl) (fun _ _ _ h => h) (Or.inl ⟨by rfl, ?_⟩) (by assumption) ?_; rotate_left; (· (intro wq hq; (try dsimp only at hq); go_simp; first | done | with_reducible rfl)); simp only [Act.put, List.getElem_toArray, List.getElem_cons_zero, List.getElem_cons_succ, List.setIfInBounds_toArray, List.set_cons_zero, List.set_cons_succ])
        refine wpAnyH_ready (rs := [19]) (by kernel_rfl) (by simp) ?_
        refine AllReadyH.cons rfl (fun K hK => ?_) ?_
        · rw [if_pos (by rfl)]
          go_simp
          refine (refEsc_calls t ht1 _).mono ?_
          rintro e x4 ⟨vt, rfl, hrt, hbx⟩
          obtain ⟨ro2, rc2, rfl⟩ := row_slice hrt
          have hrt' := hid hrt
          have q4 : Hid (Below W.heap.size W x4) := q3.out.trans (hbx.mono q3.out.size)
          refine hK.out _ _ (hcells.out _ q4.out) (fun hH4 => ?_)
          clear hK K hbx hrt
          refine wpAnyH_ready (rs := [20]) (by kernel_rfl) (by simp) ?_
          refine AllReadyH.cons rfl (fun K hK => ?_) ?_
          · rw [if_pos (by rfl)]
            go_simp
            refine (same6 (by omega) _ _ _ _ _ (rc_5.out.keptAll q4.out).row6 (wds_own hrt'.out)).mono ?_
            rintro e x5 ⟨rfl, hbx⟩
            have q5 : Hid (Below W.heap.size W x5) := q4.out.trans (hbx.mono q4.out.size)
            refine hK.out _ _ (hcells.out _ q5.out) (fun hH5 => ?_)
            clear hK K hbx
            (refine' wpAnyH_take (i := 21) rfl (by kernel_rfl) (by kernel_rfl) (by kernel_rfl) (fun _ _ _ h => h) (Or.inl ⟨by rfl, ?_⟩) (by assumption) ?_; rotate_left; (· (intro wq hq; (try dsimp only at hq); go_simp; first | done | with_reducible rfl)); simp only [Act.put, List.getElem_toArray, List.getElem_cons_zero, List.getElem_cons_succ, List.setIfInBounds_toArray, List.set_cons_zero, List.set_cons_succ])
            (refine' wpAnyH_take (i := 22) rfl (by kernel_rfl) (by kernel_rfl) (by kernel_rfl) (fun _ _ _ h => h) (Or.inl ⟨by rfl, ?_⟩) (by assumption) ?_; rotate_left; (· (intro wq hq; (try dsimp only at hq); go_simp; first | done | with_reducible rfl)); simp only [Act.put, List.getElem_toArray, List.getElem_cons_zero, List.getElem_cons_succ, List.setIfInBounds_toArray, List.set_cons_zero, List.set_cons_succ])
            refine wpAnyH_done (by kernel_rfl) ?_ _
            refine hK6 _ _ ?_
            have mra := hid (ra_5.out.keptAll q5.out)
            have mva := hid (va_5.out.keptAll q5.out)
            have mrb := hid (rb_5.out.keptAll q5.out)
            have mvb := hid (vb_5.out.keptAll q5.out)
            have mrc := hid (rc_5.out.keptAll q5.out)
            have mvc := hid (vc_5.out.keptAll q5.out)
            have mrd := hid (rd_5.out.keptAll q5.out)
            have mvd := hid (vd_5.out.keptAll q5.out)
            have mvw := hid (vw_5.out.keptAll q5.out)
            have mrow := hid (row_keptAll hrow.out q5.out)
            have mB := hid (hB5.out.trans (q5.out.mono hB5.out.size))
            clear hs0 hHeld hcells hH1 hH2 hH3 hH4 hH5 ra_5 va_5 rb_5 vb_5 rc_5 vc_5 rd_5 vd_5 vw_5 hrow hB5 hK6 hrt'
            obtain ⟨c0a, c1a, -, -⟩ := mva.out.facts
            obtain ⟨c0b, c1b, -, -⟩ := mvb.out.facts
            obtain ⟨c0c, c1c, -, -⟩ := mvc.out.facts
            obtain ⟨c0d, c1d, -, -⟩ := mvd.out.facts
            go_wp2_with fail
            have lla := la.out
            have llb := lb.out
            have llc := lc.out
            have lld := ld.out
            have yyb := yb.out
            have yyc := yc.out
            have yyd := yd.out
            have yyw := yw.out
            have al : Below x5.heap.size x5 (x5.alloc (.cells #[.int .i64 (s.size : Int), .slice (some ⟨ga, 0, none⟩) (need s.size) (need s.size), .int .i64 (s.size : Int), .slice (some ⟨gb, 0, none⟩) (need s.size) (need s.size), .int .i64 (t.size : Int), .slice (some ⟨gc, 0, none⟩) (need t.size) (need t.size), .int .i64 (s.size : Int), .slice (some ⟨gd, 0, none⟩) (need s.size) (need s.size)] 24)) := (Below.refl _ _).alloc (Nat.le_refl _) _
            have hB8 := hid (mB.out.alloc mB.out.size (.cells #[.int .i64 (s.size : Int), .slice (some ⟨ga, 0, none⟩) (need s.size) (need s.size), .int .i64 (s.size : Int), .slice (some ⟨gb, 0, none⟩) (need s.size) (need s.size), .int .i64 (t.size : Int), .slice (some ⟨gc, 0, none⟩) (need t.size) (need t.size), .int .i64 (s.size : Int), .slice (some ⟨gd, 0, none⟩) (need s.size) (need s.size)] 24))
            have hRX := (rows4 hga (by omega) (by omega) (by omega) mra.out mrb.out mrc.out mrd.out).kept al
            have hAl := At.new x5 #[.int .i64 (s.size : Int), .slice (some ⟨ga, 0, none⟩) (need s.size) (need s.size), .int .i64 (s.size : Int), .slice (some ⟨gb, 0, none⟩) (need s.size) (need s.size), .int .i64 (t.size : Int), .slice (some ⟨gc, 0, none⟩) (need t.size) (need t.size), .int .i64 (s.size : Int), .slice (some ⟨gd, 0, none⟩) (need s.size) (need s.size)] 24
            have hlow : Hid (∀ (k : Nat) (x : RowX) (g : Nat), ([⟨some ga, need s.size⟩, ⟨some gb, need s.size⟩, ⟨some gc, need t.size⟩, ⟨some gd, need s.size⟩] : List RowX)[k]? = some x → x.g = some g → g < w4.heap.size) := fun k x g hk hg => by
              match k, hk with
              | 0, hk => simp at hk; subst hk; cases hg; omega
              | 1, hk => simp at hk; subst hk; cases hg; omega
              | 2, hk => simp at hk; subst hk; cases hg; omega
              | 3, hk => simp at hk; subst hk; cases hg; omega
              | k + 4, hk => simp at hk
            refine Calls.mono (apartR_calls _ x5.heap.size 4 4 w.heap.size [⟨some ga, need s.size⟩, ⟨some gb, need s.size⟩, ⟨some gc, need t.size⟩, ⟨some gd, need s.size⟩] _ rfl (by decide) (by decide) (fun x hx => by
                have h1 : need s.size ≤ 2199023255553 := by unfold need; omega
                have h2 : need t.size ≤ 2199023255553 := by unfold need; omega
                simp at hx
                rcases hx with rfl | rfl | rfl | rfl
                · show need s.size ≤ _; omega
                · show need s.size ≤ _; omega
                · show need t.size ≤ _; omega
                · show need s.size ≤ _; omega) hB8.out.size (fun k x hk => by
                rw [hAl.cell (k * 2 + 1)]
                match k, hk with
                | 0, hk => simp at hk; subst hk; rfl
                | 1, hk => simp at hk; subst hk; rfl
                | 2, hk => simp at hk; subst hk; rfl
                | 3, hk => simp at hk; subst hk; rfl
                | k + 4, hk => simp at hk) hRX) ?_
            rintro e W7 ⟨rfl, hK7⟩
            have hB7 := hid (hB8.out.trans hK7.1)
            have vw7 := hid (hK7.2 _ _ _ (mvw.out.alloc (.cells #[.int .i64 (s.size : Int), .slice (some ⟨ga, 0, none⟩) (need s.size) (need s.size), .int .i64 (s.size : Int), .slice (some ⟨gb, 0, none⟩) (need s.size) (need s.size), .int .i64 (t.size : Int), .slice (some ⟨gc, 0, none⟩) (need t.size) (need t.size), .int .i64 (s.size : Int), .slice (some ⟨gd, 0, none⟩) (need s.size) (need s.size)] 24)) (fun k x hk e => by have := hlow.out k x _ hk e; omega))
            have row7 := hid (own_apart (World.ownsRow.alloc mrow.out (.cells #[.int .i64 (s.size : Int), .slice (some ⟨ga, 0, none⟩) (need s.size) (need s.size), .int .i64 (s.size : Int), .slice (some ⟨gb, 0, none⟩) (need s.size) (need s.size), .int .i64 (t.size : Int), .slice (some ⟨gc, 0, none⟩) (need t.size) (need t.size), .int .i64 (s.size : Int), .slice (some ⟨gd, 0, none⟩) (need s.size) (need s.size)] 24)) hK7 (fun k x g hk hg => by have := hlow.out k x g hk hg; omega))
            clear hK7 hRX hAl al mva mvb mvc mvd mra mrb mrc mrd mvw mrow mB c0a c1a c0b c1b c0c c1c c0d c1d
            go_wp2_with fail
            have z7 := hid hB7.out.size
            refine Calls.mono (escapedS_calls s (by omega) _ (hT'.out.below hB7.out h0'.out) (by have h1 := h0'.out; have h2 := z7.out; omega)) ?_
            rintro e w8 ⟨g8, hg8, rfl, hA8, hb8⟩
            have vw8 := hid ((vw7.out.keptAll hb8).alloc (.cells #[.int .i64 (s.size : Int), .slice (some ⟨g8, 0, none⟩) (need s.size) (need s.size)] 24))
            have row8 := hid (World.ownsRow.alloc (row_keptAll row7.out hb8) (.cells #[.int .i64 (s.size : Int), .slice (some ⟨g8, 0, none⟩) (need s.size) (need s.size)] 24))
            have v8 := hid (At.new w8 #[.int .i64 (s.size : Int), .slice (some ⟨g8, 0, none⟩) (need s.size) (need s.size)] 24)
            have r8 := hid (hA8.alloc (.cells #[.int .i64 (s.size : Int), .slice (some ⟨g8, 0, none⟩) (need s.size) (need s.size)] 24))
            have hBb := hB7.out.trans (hb8.mono hB7.out.size)
            have hB9 := hid (hBb.alloc hBb.size (.cells #[.int .i64 (s.size : Int), .slice (some ⟨g8, 0, none⟩) (need s.size) (need s.size)] 24))
            clear hA8 hb8 hBb vw7 row7 hB7
            obtain ⟨c0w, c1w, -, -⟩ := vw8.out.facts
            obtain ⟨c08, c18, -, -⟩ := v8.out.facts
            go_wp2_with fail
            refine Calls.mono (same6 (by omega) _ _ _ _ _ r8.out.row6 (wds_own row8.out)) ?_
            rintro e w9 ⟨rfl, hb9⟩
            have hB10 := hid (hB9.out.trans (hb9.mono hB9.out.size))
            clear hb9 hB9 c0w c1w c08 c18
            go_wp2_with fail
            refine Calls.mono (behind_calls ⟨#[92]⟩ false true (by decide) (hid (by decide)) _) ?_
            rintro e w10 ⟨rfl, rfl⟩
            go_wp2
            go_ret
            exact ⟨rfl, hB10.out⟩
          · exact AllReadyH.nil
        · exact AllReadyH.nil
      · exact AllReadyH.nil
    · exact AllReadyH.nil
  · exact AllReadyH.nil
end Go.Proofs.YtkdcloiepeenoaaDoor
