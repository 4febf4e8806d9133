/-
  What quarrylaw04.told answers of a sequence of places and their list: true.
-/
import Derived.Test.YtmbkcnhkbpaagaaDoorBitEach2
import Derived.Test.YtmbkcnhkbpaagaaDoorLstKit
namespace Go.Proofs.YtmbkcnhkbpaagaaDoor
open Go.RowKit Go.Shelf

attribute [local go_sem] Oper.semAt_some

theorem undef_bool {b : Bool} (h : some undef = some (Value.bool b)) : False := by first | (cases h; done) | (simp [undef] at h)
/-- The frame in which a round's body begins. -/
def toldFrame (w : World) (Bl N cap : Nat) (ao : Option Addr) (q : Nat) : Act :=
  { tmps := #[seqB Bl, .slice ao N cap, undef, .pointer (some ⟨w.heap.size, 0, none⟩), .pointer (some ⟨w.heap.size + 1, 0, none⟩), .pointer (some ⟨w.heap.size + 1 + 1, 0, none⟩), .int .i64 (q : Int), seqB Bl, .int .i64 (q : Int), undef, undef, undef, undef, undef, undef, undef, undef, undef, undef, undef, undef, undef, undef, undef, undef, undef, undef], defers := [] }
/-- What the list has at the place of the round. -/
theorem list_at {L : List Nat} {W : World} {v : Value} {B G : Nat} (hv : Lst W v B G L) (hL : ∀ p ∈ L, p < 1125899906842625) {pre : List Nat} (hlt : pre.length < L.length) :
    ∃ g cap P, v = .slice (some ⟨g, 0, none⟩) L.length cap ∧ g < G ∧ W.cell? ⟨g, pre.length, none⟩ = some (.int .i64 ((P : Nat) : Int)) ∧ ∀ p, p % 4611686018427387904 ≠ P → ¬ pre ++ [p] <+: L := by
  obtain ⟨ao, cap, rfl, hc⟩ := hv
  have hPe : L[pre.length]? = some (L[pre.length]'hlt) := List.getElem?_eq_getElem _
  obtain ⟨g, rfl, -, hg, hcell⟩ := hc _ _ hPe
  refine ⟨g, cap, _, rfl, hg, hcell, ?_⟩
  rintro p hk ⟨t, ht⟩
  have hP := hL _ (List.mem_of_getElem? hPe)
  have e : L[pre.length]? = some p := by rw [← ht]; simp
  rw [hPe] at e
  obtain e := Option.some.inj e
  rw [e] at hk hP
  exact hk (Nat.mod_eq_of_lt (by omega))

set_option maxRecDepth 100000 in
set_option maxHeartbeats 2000000 in
theorem told_in (L : List Nat) (Bl gs : Nat) (v : Value) (B G : Nat) (w : World) (hT : Tab w) (h0 : 0 < w.heap.size) (hG : G ≤ w.heap.size) (hs : SeqB w Bl gs L) (hL : Lst w v B G L) :
    CallsIn Fence.wide 4 Tryd.prog 33 #[seqB Bl, v] w fun e w' => e = .returned (.bool true) ∧ Below w.heap.size w w' := by
  have hsm := fun p hp => hs.small (p := p) hp
  obtain ⟨N, hN⟩ : ∃ N, Hid (L.length = N) := ⟨_, rfl⟩
  have hNl : N ≤ 1125899906842624 := hN.out ▸ hs.len
  obtain ⟨ao, cap, rfl⟩ : ∃ (ao : Option Addr) (cap : Nat), v = .slice ao N cap := by
    obtain ⟨ao, cap, h, _⟩ := hL
    exact ⟨ao, cap, by rw [h, hN.out]⟩
  have hBl := hs.lt
  refine callsIn_of_wp_marks Tryd.func33 rfl trivial ?_ rfl
  simp only [Tryd.ntmps33, List.size_toArray, List.length_cons, List.length_nil, Nat.reduceAdd, Nat.reduceSub, Array.replicate_succ, Array.replicate_zero, List.push_toArray, List.append_toArray, List.nil_append, List.cons_append]
  gi_wp2
  have a0 : At (((w.alloc (.cells #[.slice ao N cap] 38)).alloc (.cells #[.bool false] 4)).alloc (.cells #[.int .i64 0] 3)) (w.heap.size) #[.slice ao N cap] 38 := ((At.new w _ _).alloc _).alloc _
  have a2 : At (((w.alloc (.cells #[.slice ao N cap] 38)).alloc (.cells #[.bool false] 4)).alloc (.cells #[.int .i64 0] 3)) (w.heap.size + 1) #[.bool false] 4 := by
    have h := (At.new (w.alloc (.cells #[.slice ao N cap] 38)) #[.bool false] 4).alloc (.cells #[.int .i64 0] 3)
    simpa using h
  have a3 : At (((w.alloc (.cells #[.slice ao N cap] 38)).alloc (.cells #[.bool false] 4)).alloc (.cells #[.int .i64 0] 3)) (w.heap.size + 1 + 1) #[.int .i64 0] 3 := by
    have h := At.new ((w.alloc (.cells #[.slice ao N cap] 38)).alloc (.cells #[.bool false] 4)) #[.int .i64 0] 3
    simpa using h
  have hB : Below w.heap.size w (((w.alloc (.cells #[.slice ao N cap] 38)).alloc (.cells #[.bool false] 4)).alloc (.cells #[.int .i64 0] 3)) := by repeat (first | with_reducible exact Below.refl _ _ | with_reducible refine Below.setCell ?_ (by first | (simp; done) | (simp; omega)) _ | with_reducible refine below_drewN ?_ _ | with_reducible refine Below.alloc ?_ (by first | (simp; done) | (simp; omega)) _ | with_reducible refine Below.drew ?_)
  have hz : (((w.alloc (.cells #[.slice ao N cap] 38)).alloc (.cells #[.bool false] 4)).alloc (.cells #[.int .i64 0] 3)).heap.size = w.heap.size + 1 + 1 + 1 := by simp
  generalize (((w.alloc (.cells #[.slice ao N cap] 38)).alloc (.cells #[.bool false] 4)).alloc (.cells #[.int .i64 0] 3)) = w1 at *
  have hT1 := hT.below hB h0
  have hs1 := hs.kept hB
  refine range_held (n := 4) (by decide) (gf := 57) (lb := #[.pointer (some ⟨Bl, 0, none⟩)]) rfl (enters_of Tryd.func57 (by kernel_rfl) rfl)
    (seqB_held (4 - 1) (by decide) Bl gs w.heap.size (w1.heap.size + 1 + 1) L h0 w1 (by omega) (by omega) (Nat.le_refl _) hT1 hs1) (Below.refl _ _) (fun _ => rfl) Held.trans (fun W r r' h => Held.turn h (by omega) (by omega) (by omega))
    (fun pre W => At W (w.heap.size) #[.slice ao N cap] 38 ∧ At W (w.heap.size + 1) #[.bool false] 4 ∧ At W (w.heap.size + 1 + 1) #[.int .i64 ((pre.length : Nat) : Int)] 3 ∧ Below w.heap.size w W)
    (fun c pre W => c = .ret ∧ ¬ pre <+: L)
    (fun _ X Y row ⟨h1, h3, h4, hb⟩ hg hr => ⟨h1.own hg (fun r e => (hr r e).2), h3.own hg (fun r e => (hr r e).2), h4.own hg (fun r e => (hr r e).2), ownFrom_below (β := List Nat) (Nat.le_refl _) (by omega) [] X Y row hb hg hr⟩)
    (fun _ _ X Y row h hg hr => h)
    ⟨a0, a2, a3, hB⟩
    (fun p => toldFrame w Bl N cap ao (p % 4611686018427387904))
    ?assign ?body ?done ?stop
  case assign =>
    intro l p W K hK
    rw [encB]
    generalize p % 4611686018427387904 = q at *
    gi_wp2
    exact hK
  case body =>
    intro l pre p W hll ⟨h1, h3, h4, hb⟩ hlt
    obtain ⟨g, c', P, hv, hg, cg, hne⟩ := list_at hL hsm hlt
    obtain ⟨rfl, -, rfl⟩ : ao = some ⟨g, 0, none⟩ ∧ N = L.length ∧ cap = c' := by simpa using hv
    have hlen : pre.length < N := hN.out ▸ hlt
    have cg' := (hb.cell (p := ⟨g, pre.length, none⟩) (show g < w.heap.size by omega)).trans cg
    have c1 := h1.cell 0
    have c3 := h3.cell 0
    have c4 := h4.cell 0
    have f3 := h3.frozen 0
    have f4 := h4.frozen 0
    simp only [List.getElem?_toArray, List.getElem?_cons_zero] at c1 c3 c4
    have hne' : Hid _ := hne p
    clear hne hv cg hL a0 a2 a3 hB hT1 hs1
    unfold toldFrame
    by_cases he : p % 4611686018427387904 = P
    · subst he
      generalize p % 4611686018427387904 = q at *
      clear hne'
      gi_wp2
      refine ⟨(KeepsOthers.setCell _ _ _).from _, Held.setCell (b := w.heap.size + 1 + 1) _ _ (by omega) (by omega) (by omega), ?_, ?_, ?_, hb.setCell (p := ⟨w.heap.size + 1 + 1, 0, none⟩) (by show w.heap.size ≤ w.heap.size + 1 + 1; omega) _⟩
      · exact h1.other (p := ⟨w.heap.size + 1 + 1, 0, none⟩) (by show w.heap.size ≠ w.heap.size + 1 + 1; omega) _
      · exact h3.other (p := ⟨w.heap.size + 1 + 1, 0, none⟩) (by show w.heap.size + 1 ≠ w.heap.size + 1 + 1; omega) _
      · have := h4.set 0 (.int .i64 ((pre.length : Int) + 1))
        simpa using this
    · have hout := hne'.out he
      have hout' : Hid _ := hout
      generalize p % 4611686018427387904 = q at *
      have he' : ((q : Int) != (P : Int)) = true := by simp; omega
      clear hne' hout
      gi_wp2
      all_goals (try (exfalso; exact undef_bool (by assumption)))
      exact ⟨(KeepsOthers.setCell _ _ _).from _, Held.setCell (b := w.heap.size + 1) _ _ (by omega) (by omega) (by omega), rfl, hout'.out⟩
  case done =>
    rintro D xs W hD rfl ⟨h1, h3, h4, hb⟩ hK
    rw [hN.out] at h4
    have c1 := h1.cell 0
    have c3 := h3.cell 0
    have c4 := h4.cell 0
    have f3 := h3.frozen 0
    simp only [List.getElem?_toArray, List.getElem?_cons_zero] at c1 c3 c4
    clear hL
    have hB2 := hb.setCell (p := ⟨w.heap.size + 1, 0, none⟩) (by show w.heap.size ≤ w.heap.size + 1; omega) (.bool true)
    have hK' : (W.setCell ⟨w.heap.size + 1, 0, none⟩ (.bool true)).heap[D]? = some (.deferred (some [])) := (Below.heap_setCell W ⟨w.heap.size + 1, 0, none⟩ _ D (by show D ≠ w.heap.size + 1; omega)).trans hK
    gi_wp2
    refine ⟨by simp, .inl ⟨_, _, rfl, run_takeDeferred hK', ?_⟩⟩
    have hc5 := cell_kept (World.cell?_setCell_same' W ⟨w.heap.size + 1, 0, none⟩ (.bool true) (by rw [c3]; rfl)) (grownBy_putObj' _ D (.deferred none)) (fun r e => by cases e; exact ⟨_, hK', rfl⟩)
    refine ⟨.bool true, ?_, rfl, hB2.trans (belowK_b (w := w) (Nat.le_refl _) _ D _ _ (by omega) hK' rfl rfl)⟩
    simp [results, Tryd.f33, go_sem, hc5]
  case stop =>
    rintro D c pre W hD hpre ⟨-, hX⟩ hK
    exact absurd hpre hX

theorem told_calls (L : List Nat) (Bl gs : Nat) (v : Value) (B G : Nat) (w : World) (hT : Tab w) (h0 : 0 < w.heap.size) (hG : G ≤ w.heap.size) (hs : SeqB w Bl gs L) (hL : Lst w v B G L) :
    Calls Tryd.prog 33 #[seqB Bl, v] w fun e w' => e = .returned (.bool true) ∧ Below w.heap.size w w' := callsIn_wide.1 (told_in L Bl gs v B G w hT h0 hG hs hL)
end Go.Proofs.YtmbkcnhkbpaagaaDoor
