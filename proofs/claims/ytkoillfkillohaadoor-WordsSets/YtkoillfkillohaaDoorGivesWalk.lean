/-
  What quarrylaw03.gives answers of the set bits of a word and their list: true.
-/
import Derived.Test.YtkoillfkillohaaDoorListKit
namespace Go.Proofs.YtkoillfkillohaaDoor
open Go.RowKit Go.Shelf

attribute [local go_sem] Oper.semAt_some

abbrev seqE (Bx : Nat) : Value := .func (.func 22) #[] #[.pointer (some ⟨Bx, 0, none⟩)]

set_option maxRecDepth 100000 in
set_option maxHeartbeats 4000000 in
theorem gives_in (x Bx : Nat) (hx : x < 18446744073709551616) (v : Value) (B G : Nat) (w : World) (hT : Tab w) (h0 : 0 < w.heap.size) (hBx : Bx < w.heap.size) (hG : G ≤ w.heap.size) (cx : w.cell? ⟨Bx, 0, none⟩ = some (.int .u64 (x : Int))) (hL : Lst w v B G (places x)) :
    CallsIn Fence.wide 3 Tryd.prog 15 #[seqE Bx, v] w fun e w' => e = .returned (.bool true) ∧ Below w.heap.size w w' := by
  have hnf : ∀ (f : Fn) (a b : Array Value) (w : World), Sem.run Tryd.prog (binOp BinOp.eql 31 (.func f a b) .nilFunc) w = .ok (.bool false) w := fun _ _ _ _ => by rfl
  obtain ⟨ao, cap, rfl, hc⟩ := hL
  have hc' : Hid _ := hc
  clear hc
  obtain ⟨N, hN⟩ : ∃ N, (places x).length = N := ⟨_, rfl⟩
  have hNl : N ≤ 64 := hN ▸ places_len_le x
  rw [hN]
  refine callsIn_of_wp_marks Tryd.func15 rfl trivial ?_ rfl
  simp only [Tryd.ntmps15, List.size_toArray, List.length_cons, List.length_nil, Nat.reduceAdd, Nat.reduceSub, Array.replicate_succ, Array.replicate_zero, List.push_toArray, List.append_toArray, List.nil_append, List.cons_append]
  gi_wp2
  have a0 : At (((w.alloc (.cells #[.slice ao N cap] 28)).alloc (.cells #[.bool false] 4)).alloc (.cells #[.int .i64 0] 3)) w.heap.size #[.slice ao N cap] 28 := ((At.new w _ _).alloc _).alloc _
  have a1 : At (((w.alloc (.cells #[.slice ao N cap] 28)).alloc (.cells #[.bool false] 4)).alloc (.cells #[.int .i64 0] 3)) (w.heap.size + 1) #[.bool false] 4 := by
    have h := (At.new (w.alloc (.cells #[.slice ao N cap] 28)) #[.bool false] 4).alloc (.cells #[.int .i64 0] 3)
    simpa using h
  have a2 : At (((w.alloc (.cells #[.slice ao N cap] 28)).alloc (.cells #[.bool false] 4)).alloc (.cells #[.int .i64 0] 3)) (w.heap.size + 1 + 1) #[.int .i64 0] 3 := by
    have h := At.new ((w.alloc (.cells #[.slice ao N cap] 28)).alloc (.cells #[.bool false] 4)) #[.int .i64 0] 3
    simpa using h
  have hB : Below w.heap.size w (((w.alloc (.cells #[.slice ao N cap] 28)).alloc (.cells #[.bool false] 4)).alloc (.cells #[.int .i64 0] 3)) := by repeat (first | with_reducible exact Below.refl _ _ | with_reducible refine Below.setCell ?_ (by first | (simp; done) | (simp; omega)) _ | with_reducible refine below_drewN ?_ _ | with_reducible refine Below.alloc ?_ (by first | (simp; done) | (simp; omega)) _ | with_reducible refine Below.drew ?_)
  have hz : (((w.alloc (.cells #[.slice ao N cap] 28)).alloc (.cells #[.bool false] 4)).alloc (.cells #[.int .i64 0] 3)).heap.size = w.heap.size + 1 + 1 + 1 := by simp
  generalize ((w.alloc (.cells #[.slice ao N cap] 28)).alloc (.cells #[.bool false] 4)).alloc (.cells #[.int .i64 0] 3) = w1 at *
  have hT1 := hT.below hB h0
  refine wpIn_rangeFunc_ownH rfl (n := 3) (by decide) (gf := 22) (lb := #[.pointer (some ⟨Bx, 0, none⟩)]) rfl trivial (enters_of Tryd.func22 (by kernel_rfl) rfl)
    (each_stops (3 - 1) Bx w.heap.size x hx h0 w1 (by omega) (by omega) hT1 ((hB.cell (p := ⟨Bx, 0, none⟩) hBx).trans cx)) belowK_t (belowK_b (by omega)) (Below.refl _ _) (fun _ => rfl)
    (fun pre W => At W w.heap.size #[.slice ao N cap] 28 ∧ At W (w.heap.size + 1) #[.bool false] 4 ∧ At W (w.heap.size + 1 + 1) #[.int .i64 ((pre.length : Nat) : Int)] 3 ∧ Below w.heap.size w W)
    (fun c pre W => c = .ret ∧ (¬ pre <+: places x) ∧ Below w.heap.size w W)
    (fun _ X Y row ⟨h1, h2, h3, hb⟩ hg hr => ⟨h1.own hg (fun r e => (hr r e).2), h2.own hg (fun r e => (hr r e).2), h3.own hg (fun r e => (hr r e).2), ownFrom_below (β := List Nat) (Nat.le_refl _) (by omega) [] X Y row hb hg hr⟩)
    (fun _ _ X Y row ⟨h0, h1, hb⟩ hg hr => ⟨h0, h1, ownFrom_below (β := List Nat) (Nat.le_refl _) (by omega) [] X Y row hb hg hr⟩)
    ⟨a0, a1, a2, hB⟩
    (fun p a' _ => ∃ q : Nat, Hid (q = p % 64) ∧ a' = { tmps := #[seqE Bx, .slice ao N cap, undef, .pointer (some ⟨w.heap.size, 0, none⟩), .pointer (some ⟨w.heap.size + 1, 0, none⟩), .pointer (some ⟨w.heap.size + 1 + 1, 0, none⟩), .int .i64 (q : Int), seqE Bx, .bool false, seqE Bx, .int .i64 (q : Int), undef, undef, undef, undef, undef, undef, undef, undef, undef, undef, undef, undef, undef, undef, undef, undef, undef, undef], defers := [] })
    (fun _ _ _ _ _ _ hs _ _ => hs) ?assign ?body ?done ?stop
  case assign =>
    intro l pre p W K hI hK
    obtain ⟨q, hq⟩ : ∃ q, Hid (q = p % 64) := ⟨_, rfl⟩
    rw [encE, ← hq.out]
    have hK' := fun a' => hK a' W (KeepsFrom.refl _ _) (Below.refl _ _) hI
    clear hK
    gi_wp2
    exact ⟨q, hq, rfl⟩
  case body =>
    rintro l pre p a' W hll ⟨rec, hrec⟩ ⟨h1, h2, h3, hb⟩ ⟨q, hq, rfl⟩ hlt
    have hPe : (places x)[pre.length]? = some ((places x)[pre.length]'hlt) := List.getElem?_eq_getElem _
    obtain ⟨g, rfl, -, hg, hcell⟩ := hc'.out _ _ hPe
    have hP64 := (places_lt (List.mem_of_getElem? hPe)).1
    have hne : ∀ k, p % 64 ≠ k → (places x)[pre.length]'hlt = k → ¬ pre ++ [p] <+: places x := by
      rintro k hk rfl ⟨t, ht⟩
      have e : (places x)[pre.length]? = some p := by rw [← ht]; simp
      rw [hPe] at e
      obtain e := Option.some.inj e
      rw [e] at hk hP64
      exact hk (Nat.mod_eq_of_lt hP64)
    have hlen : pre.length < N := hN ▸ hlt
    obtain ⟨P, hP⟩ : ∃ P, (places x)[pre.length]'hlt = P := ⟨_, rfl⟩
    rw [hP] at hcell
    have hne' : Hid (q ≠ P → ¬ pre ++ [p] <+: places x) := fun h => hne P (by rw [← hq.out]; exact h) hP
    have cg := (hb.cell (p := ⟨g, pre.length, none⟩) (show g < w.heap.size by omega)).trans hcell
    have c1 := h1.cell 0
    have c3 := h3.cell 0
    have c2 := h2.cell 0
    have f2 := h2.frozen 0
    have f3 := h3.frozen 0
    simp only [List.getElem?_toArray, List.getElem?_cons_zero] at c1 c2 c3
    clear hne hP hPe hP64 hc' hcell
    by_cases he : q = P
    · subst he
      gi_wp2
      refine ⟨(KeepsOthers.setCell _ _ _).from _, (Below.refl _ W).setCell (p := ⟨w.heap.size + 1 + 1, 0, none⟩) (by show w.heap.size ≤ w.heap.size + 1 + 1; omega) _, ?_, ?_, ?_, hb.setCell (p := ⟨w.heap.size + 1 + 1, 0, none⟩) (by show w.heap.size ≤ w.heap.size + 1 + 1; omega) _⟩
      · exact h1.other (p := ⟨w.heap.size + 1 + 1, 0, none⟩) (by show w.heap.size ≠ w.heap.size + 1 + 1; omega) _
      · exact h2.other (p := ⟨w.heap.size + 1 + 1, 0, none⟩) (by show w.heap.size + 1 ≠ w.heap.size + 1 + 1; omega) _
      · have := h3.set 0 (.int .i64 ((pre.length : Int) + 1))
        simpa using this
    · have he' : ((q : Int) != (P : Int)) = true := by simp; omega
      gi_wp2
      exact ⟨(KeepsOthers.setCell _ _ _).from _, rfl, hne'.out he, hb.setCell (p := ⟨w.heap.size + 1, 0, none⟩) (by show w.heap.size ≤ w.heap.size + 1; omega) _⟩
  case done =>
    rintro D xs W hD rfl ⟨h1, h2, h3, hb⟩ hK
    rw [hN] at h3
    have c1 := h1.cell 0
    have c3 := h3.cell 0
    have c2 := h2.cell 0
    have f2 := h2.frozen 0
    simp only [List.getElem?_toArray, List.getElem?_cons_zero] at c1 c2 c3
    clear hc'
    have hB2 := hb.setCell (p := ⟨w.heap.size + 1, 0, none⟩) (by show w.heap.size ≤ w.heap.size + 1; omega) (.bool true)
    have hK' : (W.setCell ⟨w.heap.size + 1, 0, none⟩ (.bool true)).heap[D]? = some (.deferred (some [])) := (Below.heap_setCell W ⟨w.heap.size + 1, 0, none⟩ _ D (by show D ≠ w.heap.size + 1; omega)).trans hK
    gi_wp2
    refine ⟨by simp, .inl ⟨_, _, rfl, run_takeDeferred hK', ?_⟩⟩
    have hc5 := cell_kept (World.cell?_setCell_same' W ⟨w.heap.size + 1, 0, none⟩ (.bool true) (by rw [c2]; rfl)) (grownBy_putObj' _ D (.deferred none)) (fun r e => by cases e; exact ⟨_, hK', rfl⟩)
    refine ⟨.bool true, ?_, rfl, hB2.trans (belowK_b (w := w) (Nat.le_refl _) _ D _ _ (by omega) hK' rfl rfl)⟩
    simp [results, Tryd.f15, go_sem, hc5]
  case stop =>
    rintro D c pre W hD hpre ⟨-, hX, -⟩ hK
    exact absurd hpre hX

theorem gives_calls (x Bx : Nat) (hx : x < 18446744073709551616) (v : Value) (B G : Nat) (w : World) (hT : Tab w) (h0 : 0 < w.heap.size) (hBx : Bx < w.heap.size) (hG : G ≤ w.heap.size) (cx : w.cell? ⟨Bx, 0, none⟩ = some (.int .u64 (x : Int))) (hL : Lst w v B G (places x)) :
    Calls Tryd.prog 15 #[seqE Bx, v] w fun e w' => e = .returned (.bool true) ∧ Below w.heap.size w w' := callsIn_wide.1 (gives_in x Bx hx v B G w hT h0 hBx hG cx hL)
end Go.Proofs.YtkoillfkillohaaDoor
