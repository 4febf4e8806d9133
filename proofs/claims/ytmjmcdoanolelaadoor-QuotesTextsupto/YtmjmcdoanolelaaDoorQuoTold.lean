/-
  What quarrylaw07.told answers of the spans of a text and their list: true.
-/
import Derived.Test.YtmjmcdoanolelaaDoorQuoTexts
namespace Go.Proofs.YtmjmcdoanolelaaDoor
open Go.RowKit Go.Shelf

attribute [local go_sem] Oper.semAt_some

/-- The list holds the spans. -/
def SpansAt (w : World) (ao : Option Addr) (T : List (Nat × Nat)) : Prop := ∀ (j P C : Nat), T[j]? = some (P, C) → ∃ g, ao = some ⟨g, 0, none⟩ ∧ g < w.heap.size ∧ w.cell? ⟨g, j * 2, none⟩ = some (.int .i64 (P : Int)) ∧ w.cell? ⟨g, j * 2 + 1, none⟩ = some (.int .i64 (C : Int))
theorem SpansAt.kept {n : Nat} {w w' : World} {ao : Option Addr} {T : List (Nat × Nat)} (h : SpansAt w ao T) (hn : n = w.heap.size) (hb : Below n w w') : SpansAt w' ao T := fun j P C hj => by
  subst hn
  obtain ⟨g, h1, h3, h5, h6⟩ := h j P C hj
  exact ⟨g, h1, Nat.lt_of_lt_of_le h3 hb.size, (hb.cell (p := ⟨g, j * 2, none⟩) h3).trans h5, (hb.cell (p := ⟨g, j * 2 + 1, none⟩) h3).trans h6⟩
theorem spn_at {s : ByteArray} {r N : Nat} (hN : (spansS s).length = N) (h : r < N) : (spansS s)[r]? = some ((spn s r).1, (spn s r).2) := by
  unfold spn
  rw [List.getD_eq_getElem?_getD, List.getElem?_eq_getElem (by omega)]
  rfl

/-- Between two rounds. -/
def ToI (w : World) (ao : Option Addr) (N cap : Nat) (r : Nat) (W : World) : Prop :=
  (At W w.heap.size #[.slice ao N cap] 30 ∧ At W (w.heap.size + 1) #[.bool false] 4 ∧ At W (w.heap.size + 1 + 1) #[.int .i64 (r : Int)] 3 ∧ w.heap.size + 3 ≤ W.heap.size) ∧ Below w.heap.size w W
/-- The frame in which a round's body begins. -/
def ToA (w : World) (s : ByteArray) (bm bs : Nat) (ao : Option Addr) (N cap : Nat) (x : Nat) (a' : Act) (W : World) : Prop :=
  ∃ (gx A C : Nat), Hid (spn s x = (A, C)) ∧ w.heap.size + 3 ≤ gx ∧ At W gx #[.int .i64 (A : Int), .int .i64 (C : Int)] 36 ∧ a' = { tmps := #[.func (.func 37) #[] #[.pointer (some ⟨bm, 0, none⟩), .pointer (some ⟨bs, 0, none⟩)], .slice ao N cap, undef, .pointer (some ⟨w.heap.size, 0, none⟩), .pointer (some ⟨w.heap.size + 1, 0, none⟩), .pointer (some ⟨w.heap.size + 1 + 1, 0, none⟩), .pointer (some ⟨gx, 0, none⟩), .func (.func 37) #[] #[.pointer (some ⟨bm, 0, none⟩), .pointer (some ⟨bs, 0, none⟩)], .agg #[.int .i64 (A : Int), .int .i64 (C : Int)], undef, undef, undef, undef, undef, undef, undef, undef, undef, undef, undef, undef, undef, undef, undef, undef, undef, undef], defers := [] }
section
variable {w : World} {s : ByteArray} {bm bs N cap B : Nat} {ao : Option Addr}
theorem toI_own (hB : w.heap.size ≤ B) : OwnFrom B (ToI w ao N cap) := fun t X Z row hs hg hr => by
  obtain ⟨⟨h1, h2, h3, h6⟩, hb⟩ := hs
  have hr' := fun r e => (hr r e).2
  exact ⟨⟨h1.own hg hr', h2.own hg hr', h3.own hg hr', Nat.le_trans h6 hg.size⟩, ownFrom_below (β := List Nat) (Nat.le_refl _) hB [] X Z row hb hg hr⟩
theorem toA_own (x : Nat) (a' : Act) : OwnFrom B (fun (_ : Unit) W => ToA w s bm bs ao N cap x a' W) := fun _ X Y row hs hg hr => by
  obtain ⟨gx, A, C, h1, h4, h5, h6⟩ := hs
  exact ⟨gx, A, C, h1, h4, h5.own hg (fun r e => (hr r e).2), h6⟩
theorem toI_kept {r : Nat} {X Z : World} (h : ToI w ao N cap r X) (hb : Below X.heap.size X Z) : ToI w ao N cap r Z := by
  obtain ⟨⟨h1, h2, h3, h6⟩, hB⟩ := h
  exact ⟨⟨h1.keptAll hb, h2.keptAll hb, h3.keptAll hb, Nat.le_trans h6 hb.size⟩, hB.trans (hb.mono hB.size)⟩
end

set_option maxRecDepth 100000 in
set_option maxHeartbeats 8000000 in
theorem told7_in (s : ByteArray) (hs : s.size ≤ 281474976710656) (bm bs g N cap : Nat) (ao : Option Addr) (w : World) (hN : Hid ((spansS s).length = N)) (hX : TxAt w s bm bs g) (hT : Tab w) (hw0 : 0 < w.heap.size) (hL : SpansAt w ao (spansS s)) :
    CallsIn Fence.wide 3 Tryd.prog 21 #[.func (.func 37) #[] #[.pointer (some ⟨bm, 0, none⟩), .pointer (some ⟨bs, 0, none⟩)], .slice ao N cap] w fun e w' => e = .returned (.bool true) ∧ Below w.heap.size w w' := by
  have hL' := hid hL
  have hX' := hid hX
  have hT' := hid hT
  have hNs : N ≤ 281474976710657 := by rw [← hN.out]; have := spansS_len s; omega
  have l1 := hX.1.lt
  have l2 := hX.2.1.lt
  have l3 := hX.2.2.lt
  clear hL hX hT
  refine callsIn_of_wp_marks Tryd.func21 rfl trivial ?_ rfl
  simp only [Tryd.ntmps21, List.size_toArray, List.length_cons, List.length_nil, Nat.reduceAdd, Nat.reduceSub, Array.replicate_succ, Array.replicate_zero, List.push_toArray, List.append_toArray, List.nil_append, List.cons_append]
  gi_wp2
  have hI0 : ToI w ao N cap 0 (((w.alloc (.cells #[.slice ao N cap] 30)).alloc (.cells #[.bool false] 4)).alloc (.cells #[.int .i64 0] 3)) := by
    refine ⟨⟨?_, ?_, ?_, by simp⟩, by repeat (first | with_reducible exact Below.refl _ _ | with_reducible refine Below.setCell ?_ (by first | (simp; done) | (simp; omega)) _ | with_reducible refine below_drewN ?_ _ | with_reducible refine Below.alloc ?_ (by first | (simp; done) | (simp; omega)) _ | with_reducible refine Below.drew ?_)⟩
    · exact ((At.new w _ _).alloc _).alloc _
    · have h := (At.new (w.alloc (.cells #[.slice ao N cap] 30)) #[.bool false] 4).alloc (.cells #[.int .i64 0] 3)
      simpa using h
    · have h := At.new ((w.alloc (.cells #[.slice ao N cap] 30)).alloc (.cells #[.bool false] 4)) #[.int .i64 0] 3
      simpa using h
  have hz0 : (((w.alloc (.cells #[.slice ao N cap] 30)).alloc (.cells #[.bool false] 4)).alloc (.cells #[.int .i64 0] 3)).heap.size = w.heap.size + 3 := by simp
  generalize (((w.alloc (.cells #[.slice ao N cap] 30)).alloc (.cells #[.bool false] 4)).alloc (.cells #[.int .i64 0] 3)) = w1 at *
  have hB0 := hI0.2
  refine range_tell (n := 3) (by decide) (gf := 37) (lb := #[.pointer (some ⟨bm, 0, none⟩), .pointer (some ⟨bs, 0, none⟩)]) rfl (enters_of Tryd.func37 (by kernel_rfl) rfl)
    (texts_tell (3 - 1) bm bs g s hs w1 (hX'.out.kept hB0) (hT'.out.below hB0 hw0) (by omega)) (Below.refl _ _) (fun _ => rfl) KeepT.trans (keepT_l (w := w1) (by omega))
    (ToI w ao N cap) (fun _ _ _ => False) (toI_own hB0.size) (fun _ _ _ _ _ h _ _ => h) hI0 (ToA w s bm bs ao N cap) (fun x a' => toA_own x a') ?assign ?body ?done ?stop
  case assign =>
    intro l x W KK hx hI hKK
    obtain ⟨⟨A, C⟩, hAC⟩ : ∃ y, Hid (spn s x = y) := ⟨_, rfl⟩
    rw [encT, hAC.out]
    have hb : Below W.heap.size W (W.alloc (.cells #[.int .i64 (A : Int), .int .i64 (C : Int)] 36)) := by repeat (first | with_reducible exact Below.refl _ _ | with_reducible refine Below.setCell ?_ (by first | (simp; done) | (simp; omega)) _ | with_reducible refine below_drewN ?_ _ | with_reducible refine Below.alloc ?_ (by first | (simp; done) | (simp; omega)) _ | with_reducible refine Below.drew ?_)
    have hK2 := fun a' => hKK a' _ ((keeps_below hb).from _) (KeepT.of_below hb) (toI_kept hI hb)
    have hgt : w.heap.size + 3 ≤ W.heap.size := hI.1.2.2.2
    clear hKK hI hb
    gi_wp2
    exact ⟨W.heap.size, A, C, hAC, hgt, At.new W _ _, rfl⟩
  case body =>
    rintro l r a' W hll ⟨rec, hrec⟩ hlt ⟨⟨h0, h1, h2, hzW⟩, hB⟩ ⟨gx, A, C, hAC, hgx, hAt, rfl⟩
    rw [hN.out] at hlt
    have hT := spn_at hN.out hlt
    rw [hAC.out] at hT
    obtain ⟨gl, rfl, hg, cg, ch⟩ := hL'.out _ _ _ hT
    have hli : (r : Int) < (N : Int) := by omega
    have hge : decide ((N : Int) ≤ (r : Int)) = false := by simp; omega
    have hge' : (decide (N ≤ r)) = false := by simp; omega
    have cg' := (hB.cell (p := ⟨gl, r * 2, none⟩) hg).trans cg
    have ch' := (hB.cell (p := ⟨gl, r * 2 + 1, none⟩) hg).trans ch
    have k0 := h0.cell 0
    have k2 := h2.cell 0
    have x0 := hAt.cell 0
    have x1 := hAt.cell 1
    simp only [List.getElem?_toArray, List.getElem?_cons_zero, List.getElem?_cons_succ] at k0 k2 x0 x1
    have t0 := hid h0
    have t1 := hid h1
    have t2 := hid h2
    clear hT cg ch h0 h1 h2 hAC hAt
    have hS0 : W.drew.cell? ⟨w.heap.size, 0, none⟩ = some (.slice (some ⟨gl, 0, none⟩) N cap) ∧ W.drew.cell? ⟨w.heap.size + 1 + 1, 0, none⟩ = some (.int .i64 (r : Int)) ∧ W.drew.cell? ⟨gx, 0, none⟩ = some (.int .i64 (A : Int)) ∧ W.drew.cell? ⟨gx, 1, none⟩ = some (.int .i64 (C : Int)) ∧ W.drew.cell? ⟨gl, r * 2, none⟩ = some (.int .i64 (A : Int)) ∧ W.drew.cell? ⟨gl, r * 2 + 1, none⟩ = some (.int .i64 (C : Int)) := ⟨k0, k2, x0, x1, cg', ch'⟩
    clear k0 k2 x0 x1 cg' ch'
    gi_wp2_with fail
    refine wpIn_region_round (S := fun W' => W'.cell? ⟨w.heap.size, 0, none⟩ = some (.slice (some ⟨gl, 0, none⟩) N cap) ∧ W'.cell? ⟨w.heap.size + 1 + 1, 0, none⟩ = some (.int .i64 (r : Int)) ∧ W'.cell? ⟨gx, 0, none⟩ = some (.int .i64 (A : Int)) ∧ W'.cell? ⟨gx, 1, none⟩ = some (.int .i64 (C : Int)) ∧ W'.cell? ⟨gl, r * 2, none⟩ = some (.int .i64 (A : Int)) ∧ W'.cell? ⟨gl, r * 2 + 1, none⟩ = some (.int .i64 (C : Int))) (by kernel_rfl) (by kernel_rfl) (fun _ _ h => h) hS0 (fun hHeld => ?_)
    (refine' wpAnyH_take (i := 0) rfl (by kernel_rfl) (by kernel_rfl) (by kernel_rfl) (fun _ _ _ h => h) (Or.inl ⟨by rfl, ?_⟩) (by assumption) ?_; rotate_left; (· (intro wq hq; (try dsimp only at hq); go_simp; first | done | with_reducible rfl)); simp only [Act.put, List.getElem_toArray, List.getElem_cons_zero, List.setIfInBounds_toArray, List.set_cons_zero, List.set_cons_succ])
    (refine' wpAnyH_take (i := 1) rfl (by kernel_rfl) (by kernel_rfl) (by kernel_rfl) (fun _ _ _ h => h) (Or.inl ⟨by rfl, ?_⟩) (by assumption) ?_; rotate_left; (· (intro wq hq; (try dsimp only at hq); go_simp; first | done | with_reducible rfl)); simp only [Act.put, List.getElem_toArray, List.getElem_cons_zero, List.getElem_cons_succ, List.setIfInBounds_toArray, List.set_cons_zero, List.set_cons_succ])
    (refine' wpAnyH_take (i := 2) rfl (by kernel_rfl) (by kernel_rfl) (by kernel_rfl) (fun _ _ _ h => h) (Or.inl ⟨by rfl, ?_⟩) (by assumption) ?_; rotate_left; (· (intro wq hq; (try dsimp only at hq); go_simp; first | done | with_reducible rfl)); simp only [Act.put, List.getElem_toArray, List.getElem_cons_zero, List.getElem_cons_succ, List.setIfInBounds_toArray, List.set_cons_zero, List.set_cons_succ])
    (refine' wpAnyH_take (i := 3) rfl (by kernel_rfl) (by kernel_rfl) (by kernel_rfl) (fun _ _ _ h => h) (Or.inl ⟨by rfl, ?_⟩) (by assumption) ?_; rotate_left; (· (intro wq hq; (try dsimp only at hq); go_simp; first | done | with_reducible rfl)); simp only [Act.put, List.getElem_toArray, List.getElem_cons_zero, List.getElem_cons_succ, List.setIfInBounds_toArray, List.set_cons_zero, List.set_cons_succ])
    (refine' wpAnyH_take (i := 4) rfl (by kernel_rfl) (by kernel_rfl) (by kernel_rfl) (fun _ _ _ h => h) (Or.inl ⟨by rfl, ?_⟩) (by assumption) ?_; rotate_left; (· (intro wq hq; (try dsimp only at hq); go_simp; first | done | with_reducible rfl)); simp only [Act.put, List.getElem_toArray, List.getElem_cons_zero, List.getElem_cons_succ, List.setIfInBounds_toArray, List.set_cons_zero, List.set_cons_succ])
    (refine' wpAnyH_take (i := 5) rfl (by kernel_rfl) (by kernel_rfl) (by kernel_rfl) (fun _ _ _ h => h) (Or.inl ⟨by rfl, ?_⟩) (by assumption) ?_; rotate_left; (· (intro wq hq; (try dsimp only at hq); go_simp; first | done | with_reducible rfl)); simp only [Act.put, List.getElem_toArray, List.getElem_cons_zero, List.getElem_cons_succ, List.setIfInBounds_toArray, List.set_cons_zero, List.set_cons_succ])
    (refine' wpAnyH_take (i := 6) rfl (by kernel_rfl) (by kernel_rfl) (by kernel_rfl) (fun _ _ _ h => h) (Or.inl ⟨by rfl, ?_⟩) (by assumption) ?_; rotate_left; (· (intro wq hq; (try dsimp only at hq); go_simp; first | done | with_reducible rfl)); simp only [Act.put, List.getElem_toArray, List.getElem_cons_zero, List.getElem_cons_succ, List.setIfInBounds_toArray, List.set_cons_zero, List.set_cons_succ])
    (refine' wpAnyH_take (i := 7) rfl (by kernel_rfl) (by kernel_rfl) (by kernel_rfl) (fun _ _ _ h => h) (Or.inl ⟨by rfl, ?_⟩) (by assumption) ?_; rotate_left; (· (intro wq hq; (try dsimp only at hq); go_simp; first | done | with_reducible rfl)); simp only [Act.put, List.getElem_toArray, List.getElem_cons_zero, List.getElem_cons_succ, List.setIfInBounds_toArray, List.set_cons_zero, List.set_cons_succ])
    (refine' wpAnyH_take (i := 8) rfl (by kernel_rfl) (by kernel_rfl) (by kernel_rfl) (fun _ _ _ h => h) (Or.inl ⟨by rfl, ?_⟩) (by assumption) ?_; rotate_left; (· (intro wq hq; (try dsimp only at hq); go_simp; first | done | with_reducible rfl)); simp only [Act.put, List.getElem_toArray, List.getElem_cons_zero, List.getElem_cons_succ, List.setIfInBounds_toArray, List.set_cons_zero, List.set_cons_succ])
    (refine' wpAnyH_take (i := 9) rfl (by kernel_rfl) (by kernel_rfl) (by kernel_rfl) (fun _ _ _ h => h) (Or.inl ⟨by rfl, ?_⟩) (by assumption) ?_; rotate_left; (· (intro wq hq; (try dsimp only at hq); go_simp; first | done | with_reducible rfl)); simp only [Act.put, List.getElem_toArray, List.getElem_cons_zero, List.getElem_cons_succ, List.setIfInBounds_toArray, List.set_cons_zero, List.set_cons_succ])
    (refine' wpAnyH_take (i := 10) rfl (by kernel_rfl) (by kernel_rfl) (by kernel_rfl) (fun _ _ _ h => h) (Or.inl ⟨by rfl, ?_⟩) (by assumption) ?_; rotate_left; (· (intro wq hq; (try dsimp only at hq); go_simp; first | done | with_reducible rfl)); simp only [Act.put, List.getElem_toArray, List.getElem_cons_zero, List.getElem_cons_succ, List.setIfInBounds_toArray, List.set_cons_zero, List.set_cons_succ])
    (refine' wpAnyH_take (i := 11) rfl (by kernel_rfl) (by kernel_rfl) (by kernel_rfl) (fun _ _ _ h => h) (Or.inl ⟨by rfl, ?_⟩) (by assumption) ?_; rotate_left; (· (intro wq hq; (try dsimp only at hq); go_simp; first | done | with_reducible rfl)); simp only [Act.put, List.getElem_toArray, List.getElem_cons_zero, List.getElem_cons_succ, List.setIfInBounds_toArray, List.set_cons_zero, List.set_cons_succ])
    refine wpAnyH_done (by kernel_rfl) ?_ _
    rename_i Kz hKz
    refine hKz _ _ ?_
    clear hKz Kz hHeld hS0
    have k2 := t2.out.cell 0
    have f2 := t2.out.frozen 0
    simp only [List.getElem?_toArray, List.getElem?_cons_zero] at k2
    gi_wp2
    refine ⟨((KeepsOthers.setCell _ _ _).trans (KeepsOthers.drew _)).from _, (KeepT.setCell (p := ⟨w.heap.size + 1 + 1, 0, none⟩) (by show bs ≠ w.heap.size + 1 + 1; omega) (by show bm ≠ w.heap.size + 1 + 1; omega) (by show g ≠ w.heap.size + 1 + 1; omega) (by show 0 < w.heap.size + 1 + 1; omega) _).trans (KeepT.drew _), ⟨?_, ?_, ?_, ?_⟩, ?_⟩
    · exact t0.out.other (p := ⟨w.heap.size + 1 + 1, 0, none⟩) (by show w.heap.size ≠ w.heap.size + 1 + 1; omega) _
    · exact t1.out.other (p := ⟨w.heap.size + 1 + 1, 0, none⟩) (by show w.heap.size + 1 ≠ w.heap.size + 1 + 1; omega) _
    · exact t2.out.set 0 _
    · exact Nat.le_trans hzW (KeepsOthers.setCell _ _ _).1
    · exact (hB.setCell (p := ⟨w.heap.size + 1 + 1, 0, none⟩) (by show w.heap.size ≤ w.heap.size + 1 + 1; omega) _).drew
  case done =>
    rintro D W hD ⟨⟨h0, h1, h2, hzW⟩, hB⟩ hK
    rw [hN.out] at h2
    have c0 := h0.cell 0
    have c1 := h1.cell 0
    have c2 := h2.cell 0
    have f1 := h1.frozen 0
    simp only [List.getElem?_toArray, List.getElem?_cons_zero] at c0 c1 c2
    have hB2 := hB.setCell (p := ⟨w.heap.size + 1, 0, none⟩) (by show w.heap.size ≤ w.heap.size + 1; omega) (.bool true)
    have hK' : (W.setCell ⟨w.heap.size + 1, 0, none⟩ (.bool true)).heap[D]? = some (.deferred (some [])) := (Below.heap_setCell W ⟨w.heap.size + 1, 0, none⟩ _ D (by show D ≠ w.heap.size + 1; omega)).trans hK
    gi_wp2
    refine ⟨by simp, .inl ⟨_, _, rfl, run_takeDeferred hK', ?_⟩⟩
    have hc5 := cell_kept (World.cell?_setCell_same' W ⟨w.heap.size + 1, 0, none⟩ (.bool true) (by rw [c1]; rfl)) (grownBy_putObj' _ D (.deferred none)) (fun r e => by cases e; exact ⟨_, hK', rfl⟩)
    refine ⟨.bool true, ?_, rfl, hB2.trans (belowK_b (w := w) (Nat.le_refl _) _ D _ _ (by omega) hK' rfl rfl)⟩
    simp [results, Tryd.f21, go_sem, hc5]
  case stop =>
    rintro D c r W hD - h hK
    exact h.elim
theorem told7_calls (s : ByteArray) (hs : s.size ≤ 281474976710656) (bm bs g N cap : Nat) (ao : Option Addr) (w : World) (hN : Hid ((spansS s).length = N)) (hX : TxAt w s bm bs g) (hT : Tab w) (hw0 : 0 < w.heap.size) (hL : SpansAt w ao (spansS s)) :
    Calls Tryd.prog 21 #[.func (.func 37) #[] #[.pointer (some ⟨bm, 0, none⟩), .pointer (some ⟨bs, 0, none⟩)], .slice ao N cap] w fun e w' => e = .returned (.bool true) ∧ Below w.heap.size w w' := callsIn_wide.1 (told7_in s hs bm bs g N cap ao w hN hX hT hw0 hL)
end Go.Proofs.YtmjmcdoanolelaaDoor
