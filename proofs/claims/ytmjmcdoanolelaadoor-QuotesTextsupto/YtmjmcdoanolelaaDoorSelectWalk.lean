/-
  What words.Select answers.
-/
import Derived.Test.YtmjmcdoanolelaaDoorEachSeq
namespace Go.Proofs.YtmjmcdoanolelaaDoor
open Go.RowKit Go.Shelf

attribute [local go_sem] Oper.semAt_some

/-- The place of the set bit that has k set ones below it, or -1. -/
def selW (x : Nat) (k : Int) : Int := if 0 ≤ k then (match (places x)[k.toNat]? with | some p => (p : Int) | none => -1) else -1
theorem selW_at {x : Nat} {pre : List Nat} {p : Nat} {k : Int} (h : pre ++ [p] <+: places x) (hk : (pre.length : Int) = k) : selW x k = ((p % 64 : Nat) : Int) := by
  obtain ⟨t, ht⟩ := h
  subst hk
  have e : (places x)[pre.length]? = some p := by rw [← ht]; simp
  have hp : p < 64 := (places_lt (List.mem_of_getElem? e)).1
  rw [selW, if_pos (by omega), Int.toNat_natCast, e, Nat.mod_eq_of_lt hp]
theorem selW_none {x : Nat} {k : Int} (h : k < 0 ∨ (places x).length ≤ k) : selW x k = -1 := by
  rw [selW]
  split
  · rw [List.getElem?_eq_none (by omega)]
  · rfl

set_option maxRecDepth 100000 in
set_option maxHeartbeats 4000000 in
theorem select_in (x : Nat) (k S : Int) (hx : x < 18446744073709551616) (hS : Hid (selW x k = S)) (w : World) (hT : Tab w) (h0 : 0 < w.heap.size) :
    CallsIn Fence.wide 3 Tryd.prog 36 #[.int .u64 (x : Int), .int .i64 k] w fun e w' => e = .returned (.int .i64 S) ∧ Below w.heap.size w w' := by
  refine callsIn_of_wp_marks Tryd.func36 rfl trivial ?_ rfl
  simp only [Tryd.ntmps36, List.size_toArray, List.length_cons, List.length_nil, Nat.reduceAdd, Nat.reduceSub, Array.replicate_succ, Array.replicate_zero, List.push_toArray, List.append_toArray, List.nil_append, List.cons_append]
  gi_wp2_with fail
  refine ⟨trivial, ?_⟩
  refine (callsIn_wide.2 (each_calls x _)).mono ?_
  rintro e w1 ⟨rfl, hw1⟩
  have a0 : At w1 w.heap.size #[.int .i64 k] 3 := by rw [hw1]; exact (((At.new w _ _).alloc _).alloc _).alloc _
  have a1 : At w1 (w.heap.size + 1) #[.int .i64 0] 3 := by
    have h := ((At.new (w.alloc (.cells #[.int .i64 k] 3)) #[.int .i64 0] 3).alloc (.cells #[.int .i64 0] 3)).alloc (.cells #[.int .u64 (x : Int)] 46)
    rw [hw1]; simpa using h
  have a2 : At w1 (w.heap.size + 1 + 1) #[.int .i64 0] 3 := by
    have h := (At.new ((w.alloc (.cells #[.int .i64 k] 3)).alloc (.cells #[.int .i64 0] 3)) #[.int .i64 0] 3).alloc (.cells #[.int .u64 (x : Int)] 46)
    rw [hw1]; simpa using h
  have a3 : At w1 (w.heap.size + 1 + 1 + 1) #[.int .u64 (x : Int)] 46 := by
    have h := At.new (((w.alloc (.cells #[.int .i64 k] 3)).alloc (.cells #[.int .i64 0] 3)).alloc (.cells #[.int .i64 0] 3)) #[.int .u64 (x : Int)] 46
    rw [hw1]; simpa using h
  have hB : Below w.heap.size w w1 := by rw [hw1]; repeat (first | with_reducible exact Below.refl _ _ | with_reducible refine Below.setCell ?_ (by first | (simp; done) | (simp; omega)) _ | with_reducible refine below_drewN ?_ _ | with_reducible refine Below.alloc ?_ (by first | (simp; done) | (simp; omega)) _ | with_reducible refine Below.drew ?_)
  have hz : w1.heap.size = w.heap.size + 1 + 1 + 1 + 1 := by rw [hw1]; simp
  clear hw1
  have hT1 := hT.below hB h0
  gi_wp2_with fail
  refine wpIn_rangeFunc_ownH rfl (n := 3) (by decide) (gf := 65) (lb := #[.pointer (some ⟨w.heap.size + 1 + 1 + 1, 0, none⟩)]) rfl trivial (enters_of Tryd.func65 (by kernel_rfl) rfl)
    (each_stops (3 - 1) (w.heap.size + 1 + 1 + 1) w.heap.size x hx h0 w1 a3.lt (by omega) hT1 (a3.cell 0)) belowK_t (belowK_b (by omega)) (Below.refl _ _) (fun _ => rfl)
    (fun pre W => Hid (k < 0 ∨ (pre.length : Int) ≤ k) ∧ At W w.heap.size #[.int .i64 k] 3 ∧ At W (w.heap.size + 1) #[.int .i64 0] 3 ∧ At W (w.heap.size + 1 + 1) #[.int .i64 ((pre.length : Nat) : Int)] 3 ∧ Below w.heap.size w W)
    (fun c pre W => c = .ret ∧ (pre <+: places x → At W (w.heap.size + 1) #[.int .i64 S] 3) ∧ Below w.heap.size w W)
    (fun _ X Y row ⟨h0, h1, h2, h3, hb⟩ hg hr => ⟨h0, h1.own hg (fun r e => (hr r e).2), h2.own hg (fun r e => (hr r e).2), h3.own hg (fun r e => (hr r e).2), ownFrom_below (β := List Nat) (Nat.le_refl _) (by omega) [] X Y row hb hg hr⟩)
    (fun _ _ X Y row ⟨h0, h1, hb⟩ hg hr => ⟨h0, fun h => (h1 h).own hg (fun r e => (hr r e).2), ownFrom_below (β := List Nat) (Nat.le_refl _) (by omega) [] X Y row hb hg hr⟩)
    ⟨by show _ ∨ _; simp; omega, a0, a1, a2, hB⟩
    (fun p a' _ => ∃ q : Nat, Hid (q = p % 64) ∧ a' = { tmps := #[.int .u64 (x : Int), .int .i64 k, undef, .pointer (some ⟨w.heap.size, 0, none⟩), .pointer (some ⟨w.heap.size + 1, 0, none⟩), .pointer (some ⟨w.heap.size + 1 + 1, 0, none⟩), .int .i64 (q : Int), .int .u64 (x : Int), .func (.func 65) #[] #[.pointer (some ⟨w.heap.size + 1 + 1 + 1, 0, none⟩)], .int .i64 (q : Int), undef, undef, undef, undef, undef, undef], defers := [] })
    (fun _ _ _ _ _ _ hs _ _ => hs) ?assign ?body ?done ?stop
  case assign =>
    intro l pre p W K hI hK
    obtain ⟨q, hq⟩ : ∃ q, Hid (q = p % 64) := ⟨_, rfl⟩
    rw [encE, ← hq.out]
    have hK' := fun a' => hK a' W (KeepsFrom.refl _ _) (Below.refl _ _) hI
    clear hK
    gi_wp2
    exact ⟨q, hq, rfl⟩
  case body =>
    rintro l pre p a' W hll ⟨rec, hrec⟩ ⟨hk, h1, h2, h3, hb⟩ ⟨q, hq, rfl⟩ hlt
    have c1 := h1.cell 0
    have c3 := h3.cell 0
    have f2 := h2.frozen 0
    have f3 := h3.frozen 0
    have c2 := h2.cell 0
    simp only [List.getElem?_toArray, List.getElem?_cons_zero] at c1 c2 c3
    have hsz := hb.size
    have hpl := places_len_le x
    by_cases he : (pre.length : Int) = k
    · have hret : pre ++ [p] <+: places x → S = (q : Int) := fun h => by rw [← hS.out, hq.out]; exact selW_at h he
      have hre : Hid _ := hret
      have he' : ((pre.length : Int) == k) = true := by simpa using he
      clear hret he
      gi_wp2
      refine ⟨(KeepsOthers.setCell _ _ _).from _, rfl, fun h => ?_, hb.setCell (p := ⟨w.heap.size + 1, 0, none⟩) (by show w.heap.size ≤ w.heap.size + 1; omega) _⟩
      rw [hre.out h]
      exact h2.set 0 _
    · have he' : ((pre.length : Int) == k) = false := by simpa using he
      gi_wp2
      refine ⟨(KeepsOthers.setCell _ _ _).from _, (Below.refl _ W).setCell (p := ⟨w.heap.size + 1 + 1, 0, none⟩) (by show w.heap.size ≤ w.heap.size + 1 + 1; omega) _, ?_, ?_, ?_, ?_, hb.setCell (p := ⟨w.heap.size + 1 + 1, 0, none⟩) (by show w.heap.size ≤ w.heap.size + 1 + 1; omega) _⟩
      · have := hk.out
        show _ ∨ _
        simp; omega
      · exact h1.other (p := ⟨w.heap.size + 1 + 1, 0, none⟩) (by show w.heap.size ≠ w.heap.size + 1 + 1; omega) _
      · exact h2.other (p := ⟨w.heap.size + 1 + 1, 0, none⟩) (by show w.heap.size + 1 ≠ w.heap.size + 1 + 1; omega) _
      · have := h3.set 0 (.int .i64 ((pre.length : Int) + 1))
        simpa using this
  case done =>
    rintro D xs W hD rfl ⟨hk, h1, h2, h3, hb⟩ hK
    have hSe : S = -1 := by rw [← hS.out]; exact selW_none hk.out
    subst hSe
    have c2 := h2.cell 0
    have f2 := h2.frozen 0
    simp only [List.getElem?_toArray, List.getElem?_cons_zero] at c2
    clear hS
    have hB2 := hb.setCell (p := ⟨w.heap.size + 1, 0, none⟩) (by show w.heap.size ≤ w.heap.size + 1; omega) (.int .i64 (-1))
    have hK' : (W.setCell ⟨w.heap.size + 1, 0, none⟩ (.int .i64 (-1))).heap[D]? = some (.deferred (some [])) := (Below.heap_setCell W ⟨w.heap.size + 1, 0, none⟩ _ D (by show D ≠ w.heap.size + 1; omega)).trans hK
    gi_wp2
    refine ⟨by simp, .inl ⟨_, _, rfl, run_takeDeferred hK', ?_⟩⟩
    have hc5 := cell_kept (World.cell?_setCell_same' W ⟨w.heap.size + 1, 0, none⟩ (.int .i64 (-1)) (by rw [c2]; rfl)) (grownBy_putObj' _ D (.deferred none)) (fun r e => by cases e; exact ⟨_, hK', rfl⟩)
    refine ⟨.int .i64 (-1), ?_, rfl, hB2.trans (belowK_b (w := w) (Nat.le_refl _) _ D _ _ (by omega) hK' rfl rfl)⟩
    simp [results, Tryd.f36, go_sem, hc5]
  case stop =>
    rintro D c pre W hD hpre ⟨rfl, hX, hb⟩ hK
    have k5 := (hX hpre).cell 0
    simp only [List.getElem?_toArray, List.getElem?_cons_zero] at k5
    clear hX hS
    gi_wp2
    refine ⟨by simp, .inl ⟨_, _, rfl, run_takeDeferred hK, ?_⟩⟩
    have hc5 := cell_kept k5 (grownBy_putObj' _ D (.deferred none)) (fun r e => by cases e; exact ⟨_, hK, rfl⟩)
    refine ⟨.int .i64 S, ?_, rfl, hb.trans (belowK_b (w := w) (Nat.le_refl _) W D _ _ (by omega) hK rfl rfl)⟩
    simp [results, Tryd.f36, go_sem, hc5]

theorem select_calls (x : Nat) (k S : Int) (hx : x < 18446744073709551616) (hS : Hid (selW x k = S)) (w : World) (hT : Tab w) (h0 : 0 < w.heap.size) :
    Calls Tryd.prog 36 #[.int .u64 (x : Int), .int .i64 k] w fun e w' => e = .returned (.int .i64 S) ∧ Below w.heap.size w w' := callsIn_wide.1 (select_in x k S hx hS w hT h0)
end Go.Proofs.YtmjmcdoanolelaaDoor
