/-
  What quarrylaw03.runs answers of the rows of a word and their lists: true.
-/
import Derived.Test.YtkoillfkillohaaDoorRefRuns
import Derived.Test.YtkoillfkillohaaDoorRunsSeq
namespace Go.Proofs.YtkoillfkillohaaDoor
open Go.RowKit Go.Shelf

attribute [local go_sem] Oper.semAt_some

abbrev seqR (Bx : Nat) : Value := .func (.func 24) #[] #[.pointer (some ⟨Bx, 0, none⟩)]
/-- The frame in which a round's body begins. -/
def runsFrame (w : World) (Bx N cap cap2 : Nat) (ao bo : Option Addr) (q r : Nat) : Act :=
  { tmps := #[seqR Bx, .slice ao N cap, .slice bo N cap2, undef, .pointer (some ⟨w.heap.size, 0, none⟩), .pointer (some ⟨w.heap.size + 1, 0, none⟩), .pointer (some ⟨w.heap.size + 1 + 1, 0, none⟩), .pointer (some ⟨w.heap.size + 1 + 1 + 1, 0, none⟩), .int .i64 (q : Int), .int .i64 (r : Int), seqR Bx, .bool false, seqR Bx, .int .i64 (q : Int), .int .i64 (r : Int), undef, undef, undef, undef, undef, undef, undef, undef, undef, undef, undef, undef, undef, undef, undef, undef, undef, undef, undef, undef, undef, undef, undef, undef, undef, undef], defers := [] }

theorem undef_bool {b : Bool} (h : some undef = some (Value.bool b)) : False := by first | (cases h; done) | (simp [undef] at h)
theorem starts_lt {x p : Nat} (h : p ∈ starts x) : p < 64 := (places_lt h).1
theorem starts_len_le (x : Nat) : (starts x).length ≤ 64 := places_len_le _
/-- What the two lists have at the place of the round. -/
theorem pair_at {x : Nat} {W : World} {v u : Value} {B G B' G' : Nat} (hv : Lst W v B G (starts x)) (hu : Lst W u B' G' ((starts x).map (runLen x))) {pre : List Nat} (hlt : pre.length < (starts x).length) :
    ∃ g cap h cap2 P, v = .slice (some ⟨g, 0, none⟩) (starts x).length cap ∧ u = .slice (some ⟨h, 0, none⟩) (starts x).length cap2 ∧ g < G ∧ h < G' ∧ W.cell? ⟨g, pre.length, none⟩ = some (.int .i64 ((P : Nat) : Int)) ∧ W.cell? ⟨h, pre.length, none⟩ = some (.int .i64 ((runLen x P : Nat) : Int)) ∧ ∀ p, p % 64 ≠ P → ¬ pre ++ [p] <+: starts x := by
  obtain ⟨ao, cap, rfl, hc⟩ := hv
  obtain ⟨bo, cap2, rfl, hd⟩ := hu
  have hPe : (starts x)[pre.length]? = some ((starts x)[pre.length]'hlt) := List.getElem?_eq_getElem _
  obtain ⟨g, rfl, -, hg, hcell⟩ := hc _ _ hPe
  obtain ⟨h, rfl, -, hh, hcell2⟩ := hd pre.length (runLen x ((starts x)[pre.length]'hlt)) (by rw [List.getElem?_map, hPe]; rfl)
  refine ⟨g, cap, h, cap2, _, rfl, by simp, hg, hh, hcell, hcell2, ?_⟩
  rintro p hk ⟨t, ht⟩
  have hP64 := starts_lt (List.mem_of_getElem? hPe)
  have e : (starts x)[pre.length]? = some p := by rw [← ht]; simp
  rw [hPe] at e
  obtain e := Option.some.inj e
  rw [e] at hk hP64
  exact hk (Nat.mod_eq_of_lt hP64)

set_option maxRecDepth 100000 in
set_option maxHeartbeats 2000000 in
theorem runs_in (x Bx : Nat) (hx : x < 18446744073709551616) (v u : Value) (B G B' G' : Nat) (w : World) (hT : Tab w) (h0 : 0 < w.heap.size) (hG : G ≤ w.heap.size) (hG' : G' ≤ w.heap.size) (cx : At w Bx #[.int .u64 (x : Int)] 22) (hL : Lst w v B G (starts x)) (hM : Lst w u B' G' ((starts x).map (runLen x))) :
    CallsIn Fence.wide 3 Tryd.prog 18 #[seqR Bx, v, u] w fun e w' => e = .returned (.bool true) ∧ Below w.heap.size w w' := by
  have hnf : ∀ (f : Fn) (a b : Array Value) (w : World), Sem.run Tryd.prog (binOp BinOp.eql 37 (.func f a b) .nilFunc) w = .ok (.bool false) w := fun _ _ _ _ => by rfl
  obtain ⟨N, hN⟩ : ∃ N, Hid ((starts x).length = N) := ⟨_, rfl⟩
  have hNl : N ≤ 64 := hN.out ▸ starts_len_le x
  obtain ⟨ao, cap, rfl⟩ : ∃ (ao : Option Addr) (cap : Nat), v = .slice ao N cap := by
    obtain ⟨ao, cap, h, _⟩ := hL
    exact ⟨ao, cap, by rw [h, hN.out]⟩
  obtain ⟨bo, cap2, rfl⟩ : ∃ (bo : Option Addr) (cap2 : Nat), u = .slice bo N cap2 := by
    obtain ⟨bo, cap2, h, _⟩ := hM
    exact ⟨bo, cap2, by rw [h, List.length_map, hN.out]⟩
  have hBx := cx.lt
  refine callsIn_of_wp_marks Tryd.func18 rfl trivial ?_ rfl
  simp only [Tryd.ntmps18, List.size_toArray, List.length_cons, List.length_nil, Nat.reduceAdd, Nat.reduceSub, Array.replicate_succ, Array.replicate_zero, List.push_toArray, List.append_toArray, List.nil_append, List.cons_append]
  gi_wp2
  have a0 : At ((((w.alloc (.cells #[.slice ao N cap] 28)).alloc (.cells #[.slice bo N cap2] 28)).alloc (.cells #[.bool false] 4)).alloc (.cells #[.int .i64 0] 3)) (w.heap.size) #[.slice ao N cap] 28 := (((At.new w _ _).alloc _).alloc _).alloc _
  have a1 : At ((((w.alloc (.cells #[.slice ao N cap] 28)).alloc (.cells #[.slice bo N cap2] 28)).alloc (.cells #[.bool false] 4)).alloc (.cells #[.int .i64 0] 3)) (w.heap.size + 1) #[.slice bo N cap2] 28 := by
    have h := ((At.new (w.alloc (.cells #[.slice ao N cap] 28)) #[.slice bo N cap2] 28).alloc (.cells #[.bool false] 4)).alloc (.cells #[.int .i64 0] 3)
    simpa using h
  have a2 : At ((((w.alloc (.cells #[.slice ao N cap] 28)).alloc (.cells #[.slice bo N cap2] 28)).alloc (.cells #[.bool false] 4)).alloc (.cells #[.int .i64 0] 3)) (w.heap.size + 1 + 1) #[.bool false] 4 := by
    have h := (At.new ((w.alloc (.cells #[.slice ao N cap] 28)).alloc (.cells #[.slice bo N cap2] 28)) #[.bool false] 4).alloc (.cells #[.int .i64 0] 3)
    simpa using h
  have a3 : At ((((w.alloc (.cells #[.slice ao N cap] 28)).alloc (.cells #[.slice bo N cap2] 28)).alloc (.cells #[.bool false] 4)).alloc (.cells #[.int .i64 0] 3)) (w.heap.size + 1 + 1 + 1) #[.int .i64 0] 3 := by
    have h := At.new (((w.alloc (.cells #[.slice ao N cap] 28)).alloc (.cells #[.slice bo N cap2] 28)).alloc (.cells #[.bool false] 4)) #[.int .i64 0] 3
    simpa using h
  have hB : Below w.heap.size w ((((w.alloc (.cells #[.slice ao N cap] 28)).alloc (.cells #[.slice bo N cap2] 28)).alloc (.cells #[.bool false] 4)).alloc (.cells #[.int .i64 0] 3)) := by repeat (first | with_reducible exact Below.refl _ _ | with_reducible refine Below.setCell ?_ (by first | (simp; done) | (simp; omega)) _ | with_reducible refine below_drewN ?_ _ | with_reducible refine Below.alloc ?_ (by first | (simp; done) | (simp; omega)) _ | with_reducible refine Below.drew ?_)
  have hz : ((((w.alloc (.cells #[.slice ao N cap] 28)).alloc (.cells #[.slice bo N cap2] 28)).alloc (.cells #[.bool false] 4)).alloc (.cells #[.int .i64 0] 3)).heap.size = w.heap.size + 1 + 1 + 1 + 1 := by simp
  generalize ((((w.alloc (.cells #[.slice ao N cap] 28)).alloc (.cells #[.slice bo N cap2] 28)).alloc (.cells #[.bool false] 4)).alloc (.cells #[.int .i64 0] 3)) = w1 at *
  have hT1 := hT.below hB h0
  have hsl := cx.keptAll hB
  refine range_held (n := 3) (by decide) (gf := 24) (lb := #[.pointer (some ⟨Bx, 0, none⟩)]) rfl (enters_of Tryd.func24 (by kernel_rfl) rfl)
    (runs_held (3 - 1) (by decide) Bx w.heap.size (w1.heap.size + 1 + 1) x hx h0 w1 (by omega) (by omega) (Nat.le_refl _) hT1 hsl) (Below.refl _ _) (fun _ => rfl) Held.trans (fun W r r' h => Held.turn h (by omega) (by omega) (by omega))
    (fun pre W => At W (w.heap.size) #[.slice ao N cap] 28 ∧ At W (w.heap.size + 1) #[.slice bo N cap2] 28 ∧ At W (w.heap.size + 1 + 1) #[.bool false] 4 ∧ At W (w.heap.size + 1 + 1 + 1) #[.int .i64 ((pre.length : Nat) : Int)] 3 ∧ Below w.heap.size w W)
    (fun c pre W => c = .ret ∧ ¬ pre <+: starts x)
    (fun _ X Y row ⟨h1, h2, h3, h4, hb⟩ hg hr => ⟨h1.own hg (fun r e => (hr r e).2), h2.own hg (fun r e => (hr r e).2), h3.own hg (fun r e => (hr r e).2), h4.own hg (fun r e => (hr r e).2), ownFrom_below (β := List Nat) (Nat.le_refl _) (by omega) [] X Y row hb hg hr⟩)
    (fun _ _ X Y row h hg hr => h)
    ⟨a0, a1, a2, a3, hB⟩
    (fun p => runsFrame w Bx N cap cap2 ao bo (p % 64) (runLen x (p % 64)))
    ?assign ?body ?done ?stop
  case assign =>
    intro l p W K hK
    rw [encR]
    generalize runLen x (p % 64) = r at *
    generalize p % 64 = q at *
    gi_wp2
    exact hK
  case body =>
    intro l pre p W hll ⟨h1, h2, h3, h4, hb⟩ hlt
    obtain ⟨g, c', h, c'', P, hv, hu, hg, hh, cg, ch, hne⟩ := pair_at hL hM hlt
    obtain ⟨rfl, -, rfl⟩ : ao = some ⟨g, 0, none⟩ ∧ N = (starts x).length ∧ cap = c' := by simpa using hv
    obtain ⟨rfl, -, rfl⟩ : bo = some ⟨h, 0, none⟩ ∧ N = (starts x).length ∧ cap2 = c'' := by simpa using hu
    have hlen : pre.length < N := hN.out ▸ hlt
    have cg' := (hb.cell (p := ⟨g, pre.length, none⟩) (show g < w.heap.size by omega)).trans cg
    have ch' := (hb.cell (p := ⟨h, pre.length, none⟩) (show h < w.heap.size by omega)).trans ch
    have c1 := h1.cell 0
    have c2 := h2.cell 0
    have c3 := h3.cell 0
    have c4 := h4.cell 0
    have f3 := h3.frozen 0
    have f4 := h4.frozen 0
    simp only [List.getElem?_toArray, List.getElem?_cons_zero] at c1 c2 c3 c4
    have hne' : Hid _ := hne p
    clear hne hv hu cg ch hL hM a0 a1 a2 a3 hB hT1 hsl
    unfold runsFrame
    by_cases he : p % 64 = P
    · subst he
      generalize runLen x (p % 64) = r at *
      generalize p % 64 = q at *
      clear hne'
      gi_wp2
      refine ⟨(KeepsOthers.setCell _ _ _).from _, Held.setCell (b := w.heap.size + 1 + 1 + 1) _ _ (by omega) (by omega) (by omega), ?_, ?_, ?_, ?_, hb.setCell (p := ⟨w.heap.size + 1 + 1 + 1, 0, none⟩) (by show w.heap.size ≤ w.heap.size + 1 + 1 + 1; omega) _⟩
      · exact h1.other (p := ⟨w.heap.size + 1 + 1 + 1, 0, none⟩) (by show w.heap.size ≠ w.heap.size + 1 + 1 + 1; omega) _
      · exact h2.other (p := ⟨w.heap.size + 1 + 1 + 1, 0, none⟩) (by show w.heap.size + 1 ≠ w.heap.size + 1 + 1 + 1; omega) _
      · exact h3.other (p := ⟨w.heap.size + 1 + 1 + 1, 0, none⟩) (by show w.heap.size + 1 + 1 ≠ w.heap.size + 1 + 1 + 1; omega) _
      · have := h4.set 0 (.int .i64 ((pre.length : Int) + 1))
        simpa using this
    · have hout := hne'.out he
      have hout' : Hid _ := hout
      generalize runLen x (p % 64) = r at *
      generalize runLen x P = r' at *
      generalize p % 64 = q at *
      have he' : ((q : Int) != (P : Int)) = true := by simp; omega
      clear hne' hout
      gi_wp2
      all_goals (try (exfalso; exact undef_bool (by assumption)))
      exact ⟨(KeepsOthers.setCell _ _ _).from _, Held.setCell (b := w.heap.size + 1 + 1) _ _ (by omega) (by omega) (by omega), rfl, hout'.out⟩
  case done =>
    rintro D xs W hD rfl ⟨h1, h2, h3, h4, hb⟩ hK
    rw [hN.out] at h4
    have c1 := h1.cell 0
    have c3 := h3.cell 0
    have c4 := h4.cell 0
    have f3 := h3.frozen 0
    simp only [List.getElem?_toArray, List.getElem?_cons_zero] at c1 c3 c4
    clear hL hM
    have hB2 := hb.setCell (p := ⟨w.heap.size + 1 + 1, 0, none⟩) (by show w.heap.size ≤ w.heap.size + 1 + 1; omega) (.bool true)
    have hK' : (W.setCell ⟨w.heap.size + 1 + 1, 0, none⟩ (.bool true)).heap[D]? = some (.deferred (some [])) := (Below.heap_setCell W ⟨w.heap.size + 1 + 1, 0, none⟩ _ D (by show D ≠ w.heap.size + 1 + 1; omega)).trans hK
    gi_wp2
    refine ⟨by simp, .inl ⟨_, _, rfl, run_takeDeferred hK', ?_⟩⟩
    have hc5 := cell_kept (World.cell?_setCell_same' W ⟨w.heap.size + 1 + 1, 0, none⟩ (.bool true) (by rw [c3]; rfl)) (grownBy_putObj' _ D (.deferred none)) (fun r e => by cases e; exact ⟨_, hK', rfl⟩)
    refine ⟨.bool true, ?_, rfl, hB2.trans (belowK_b (w := w) (Nat.le_refl _) _ D _ _ (by omega) hK' rfl rfl)⟩
    simp [results, Tryd.f18, go_sem, hc5]
  case stop =>
    rintro D c pre W hD hpre ⟨-, hX⟩ hK
    exact absurd hpre hX

theorem runs_told (x Bx : Nat) (hx : x < 18446744073709551616) (v u : Value) (B G B' G' : Nat) (w : World) (hT : Tab w) (h0 : 0 < w.heap.size) (hG : G ≤ w.heap.size) (hG' : G' ≤ w.heap.size) (cx : At w Bx #[.int .u64 (x : Int)] 22) (hL : Lst w v B G (starts x)) (hM : Lst w u B' G' ((starts x).map (runLen x))) :
    Calls Tryd.prog 18 #[seqR Bx, v, u] w fun e w' => e = .returned (.bool true) ∧ Below w.heap.size w w' := callsIn_wide.1 (runs_in x Bx hx v u B G B' G' w hT h0 hG hG' cx hL hM)
end Go.Proofs.YtkoillfkillohaaDoor
