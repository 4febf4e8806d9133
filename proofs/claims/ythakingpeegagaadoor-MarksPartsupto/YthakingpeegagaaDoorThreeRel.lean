/-
  A region that draws its order and holds three calls one behind the other, beside three new variables that may be made at any time; what the calls answer is known by a relation alone.
-/
import Derived.Test.YthakingpeegagaaDoorThreeThree
namespace Go.Proofs.YthakingpeegagaaDoor
open Go.RowKit

theorem three_rel {P : Program} {ops : Array Oper} {Q : Exit → Act → World → Prop} {S : World → Prop} {t : TypeId} {z : Array Value} {fuel : Nat} (n0 : Nat)
    (R1 R2 R3 : Value → World → Prop) (F : Nat → Value → Value → Value → Value → Value → Value → Act) (Lst : Nat → Bool → Bool → Bool → Array Bool) (i1 i2 i3 m4 m5 m6 : Nat) (u4 u5 u6 : Value)
    (hready : ∀ c b4 b5 b6, c < 4 → todo c b4 b5 b6 ≠ 0 → Region.ready .any ops (Lst c b4 b5 b6) = rdy i1 i2 i3 m4 m5 m6 c b4 b5 b6)
    (hL1 : ∀ b4 b5 b6, (Lst 0 b4 b5 b6).setIfInBounds i1 true = Lst 1 b4 b5 b6) (hL2 : ∀ b4 b5 b6, (Lst 1 b4 b5 b6).setIfInBounds i2 true = Lst 2 b4 b5 b6) (hL3 : ∀ b4 b5 b6, (Lst 2 b4 b5 b6).setIfInBounds i3 true = Lst 3 b4 b5 b6)
    (hM4 : ∀ c b5 b6, c < 4 → (Lst c false b5 b6).setIfInBounds m4 true = Lst c true b5 b6) (hM5 : ∀ c b4 b6, c < 4 → (Lst c b4 false b6).setIfInBounds m5 true = Lst c b4 true b6) (hM6 : ∀ c b4 b5, c < 4 → (Lst c b4 b5 false).setIfInBounds m6 true = Lst c b4 b5 true)
    (hS : ∀ w w', S w → Below w.heap.size w w' → S w') (hR1 : ∀ r w w', R1 r w → Below w.heap.size w w' → R1 r w') (hR2 : ∀ r w w', R2 r w → Below w.heap.size w w' → R2 r w') (hR3 : ∀ r w w', R3 r w → Below w.heap.size w w' → R3 r w') (hn : ∀ w, S w → n0 ≤ w.heap.size)
    (c1 : ∀ v1 v2 v3 x4 x5 x6 w, S w → ∀ K : Act → World → Prop, (∀ r w', Below w.heap.size w w' → R1 r w' → K (F 1 r v2 v3 x4 x5 x6) w') → wpOp P ops Q i1 K (F 0 v1 v2 v3 x4 x5 x6) w)
    (c2 : ∀ v1 v2 v3 x4 x5 x6 w, S w → ∀ K : Act → World → Prop, (∀ r w', Below w.heap.size w w' → R2 r w' → K (F 2 v1 r v3 x4 x5 x6) w') → wpOp P ops Q i2 K (F 1 v1 v2 v3 x4 x5 x6) w)
    (c3 : ∀ v1 v2 v3 x4 x5 x6 w, S w → ∀ K : Act → World → Prop, (∀ r w', Below w.heap.size w w' → R3 r w' → K (F 3 v1 v2 r x4 x5 x6) w') → wpOp P ops Q i3 K (F 2 v1 v2 v3 x4 x5 x6) w)
    (a4 : ∀ c v1 v2 v3 x4 x5 x6 w, c < 4 → ∀ K : Act → World → Prop, K (F c v1 v2 v3 (.pointer (some ⟨w.heap.size, 0, none⟩)) x5 x6) (w.alloc (.cells z t)) → wpOp P ops Q m4 K (F c v1 v2 v3 x4 x5 x6) w)
    (a5 : ∀ c v1 v2 v3 x4 x5 x6 w, c < 4 → ∀ K : Act → World → Prop, K (F c v1 v2 v3 x4 (.pointer (some ⟨w.heap.size, 0, none⟩)) x6) (w.alloc (.cells z t)) → wpOp P ops Q m5 K (F c v1 v2 v3 x4 x5 x6) w)
    (a6 : ∀ c v1 v2 v3 x4 x5 x6 w, c < 4 → ∀ K : Act → World → Prop, K (F c v1 v2 v3 x4 x5 (.pointer (some ⟨w.heap.size, 0, none⟩))) (w.alloc (.cells z t)) → wpOp P ops Q m6 K (F c v1 v2 v3 x4 x5 x6) w)
    (tail : ∀ w v1 v2 v3 g4 g5 g6, S w → R1 v1 w → R2 v2 w → R3 v3 w → At w g4 z t → At w g5 z t → At w g6 z t → g4 ≠ g5 → g4 ≠ g6 → g5 ≠ g6 → n0 ≤ g4 → n0 ≤ g5 → n0 ≤ g6 →
      wpAnyH P .any ops Q S fuel (Lst 3 true true true) (F 3 v1 v2 v3 (.pointer (some ⟨g4, 0, none⟩)) (.pointer (some ⟨g5, 0, none⟩)) (.pointer (some ⟨g6, 0, none⟩))) w) :
    ∀ w, S w → wpAnyH P .any ops Q S (fuel + 6) (Lst 0 false false false) (F 0 undef undef undef u4 u5 u6) w := by
  have key : ∀ (m c : Nat) (b4 b5 b6 : Bool) (v1 v2 v3 : Value) (g4 g5 g6 : Nat) (w : World), c < 4 → todo c b4 b5 b6 = m → S w → (1 ≤ c → R1 v1 w) → (2 ≤ c → R2 v2 w) → (3 ≤ c → R3 v3 w) → (b4 = true → At w g4 z t ∧ n0 ≤ g4) → (b5 = true → At w g5 z t ∧ n0 ≤ g5) → (b6 = true → At w g6 z t ∧ n0 ≤ g6) →
      (b4 = true → b5 = true → g4 ≠ g5) → (b4 = true → b6 = true → g4 ≠ g6) → (b5 = true → b6 = true → g5 ≠ g6) → wpAnyH P .any ops Q S (fuel + m) (Lst c b4 b5 b6) (F c v1 v2 v3 (px b4 g4 u4) (px b5 g5 u5) (px b6 g6 u6)) w := by
    intro m
    induction m with
    | zero =>
      intro c b4 b5 b6 v1 v2 v3 g4 g5 g6 w hc hm hw r1 r2 r3 h4 h5 h6 h45 h46 h56
      cases b4 <;> cases b5 <;> cases b6 <;> simp [todo] at hm
      obtain rfl : c = 3 := by omega
      exact tail w v1 v2 v3 g4 g5 g6 hw (r1 (by omega)) (r2 (by omega)) (r3 (by omega)) (h4 rfl).1 (h5 rfl).1 (h6 rfl).1 (h45 rfl rfl) (h46 rfl rfl) (h56 rfl rfl) (h4 rfl).2 (h5 rfl).2 (h6 rfl).2
    | succ m ih =>
      intro c b4 b5 b6 v1 v2 v3 g4 g5 g6 w hc hm hw r1 r2 r3 h4 h5 h6 h45 h46 h56
      have hrd := hready c b4 b5 b6 hc (by omega)
      have hnot : ∀ w' : World, Below w.heap.size w w' → (b4 = true → At w' g4 z t ∧ n0 ≤ g4) ∧ (b5 = true → At w' g5 z t ∧ n0 ≤ g5) ∧ (b6 = true → At w' g6 z t ∧ n0 ≤ g6) := fun w' hb =>
        ⟨fun h => ⟨(h4 h).1.keptAll hb, (h4 h).2⟩, fun h => ⟨(h5 h).1.keptAll hb, (h5 h).2⟩, fun h => ⟨(h6 h).1.keptAll hb, (h6 h).2⟩⟩
      have hal : Below w.heap.size w (w.alloc (.cells z t)) := (Below.refl _ _).alloc (Nat.le_refl _) _
      refine ⟨fun h0 => ?_, fun i hi => ?_⟩
      · exfalso
        rw [hrd] at h0
        simp only [rdy, List.append_eq_nil_iff] at h0
        obtain ⟨⟨⟨e1, e2⟩, e3⟩, e4⟩ := h0
        cases b4 <;> cases b5 <;> cases b6 <;> simp at e2 e3 e4
        simp only [todo] at hm
        have : c = 0 ∨ c = 1 ∨ c = 2 ∨ c = 3 := by omega
        rcases this with rfl | rfl | rfl | rfl <;> simp at e1 hm
      · rw [hrd] at hi
        simp only [rdy, List.mem_append] at hi
        rcases hi with ((hi | hi) | hi) | hi
        · have : c = 0 ∨ c = 1 ∨ c = 2 ∨ c = 3 := by omega
          rcases this with rfl | rfl | rfl | rfl
          · obtain rfl : i = i1 := by simpa using hi
            refine c1 _ _ _ _ _ _ w hw _ fun r w' hb hr => ⟨hS _ _ hw hb, ?_⟩
            rw [hL1]
            obtain ⟨k4, k5, k6⟩ := hnot w' hb
            exact ih 1 b4 b5 b6 r v2 v3 g4 g5 g6 w' (by omega) (by simp only [todo] at hm ⊢; omega) (hS _ _ hw hb) (fun _ => hr) (fun h => by omega) (fun h => by omega) k4 k5 k6 h45 h46 h56
          · obtain rfl : i = i2 := by simpa using hi
            refine c2 _ _ _ _ _ _ w hw _ fun r w' hb hr => ⟨hS _ _ hw hb, ?_⟩
            rw [hL2]
            obtain ⟨k4, k5, k6⟩ := hnot w' hb
            exact ih 2 b4 b5 b6 v1 r v3 g4 g5 g6 w' (by omega) (by simp only [todo] at hm ⊢; omega) (hS _ _ hw hb) (fun _ => hR1 _ _ _ (r1 (by omega)) hb) (fun _ => hr) (fun h => by omega) k4 k5 k6 h45 h46 h56
          · obtain rfl : i = i3 := by simpa using hi
            refine c3 _ _ _ _ _ _ w hw _ fun r w' hb hr => ⟨hS _ _ hw hb, ?_⟩
            rw [hL3]
            obtain ⟨k4, k5, k6⟩ := hnot w' hb
            exact ih 3 b4 b5 b6 v1 v2 r g4 g5 g6 w' (by omega) (by simp only [todo] at hm ⊢; omega) (hS _ _ hw hb) (fun _ => hR1 _ _ _ (r1 (by omega)) hb) (fun _ => hR2 _ _ _ (r2 (by omega)) hb) (fun _ => hr) k4 k5 k6 h45 h46 h56
          · simp at hi
        · cases b4 with
          | true => simp at hi
          | false =>
            obtain rfl : i = m4 := by simpa using hi
            refine a4 _ _ _ _ _ _ _ w hc _ ⟨hS _ _ hw hal, ?_⟩
            rw [hM4 _ _ _ hc]
            obtain ⟨_, k5, k6⟩ := hnot _ hal
            exact ih c true b5 b6 v1 v2 v3 w.heap.size g5 g6 _ hc (by simp only [todo] at hm ⊢; simp at hm ⊢; omega) (hS _ _ hw hal) (fun h => hR1 _ _ _ (r1 h) hal) (fun h => hR2 _ _ _ (r2 h) hal) (fun h => hR3 _ _ _ (r3 h) hal) (fun _ => ⟨At.new w z t, hn w hw⟩) k5 k6
              (fun _ h => by have := (h5 h).1.lt; omega) (fun _ h => by have := (h6 h).1.lt; omega) h56
        · cases b5 with
          | true => simp at hi
          | false =>
            obtain rfl : i = m5 := by simpa using hi
            refine a5 _ _ _ _ _ _ _ w hc _ ⟨hS _ _ hw hal, ?_⟩
            rw [hM5 _ _ _ hc]
            obtain ⟨k4, _, k6⟩ := hnot _ hal
            exact ih c b4 true b6 v1 v2 v3 g4 w.heap.size g6 _ hc (by simp only [todo] at hm ⊢; simp at hm ⊢; omega) (hS _ _ hw hal) (fun h => hR1 _ _ _ (r1 h) hal) (fun h => hR2 _ _ _ (r2 h) hal) (fun h => hR3 _ _ _ (r3 h) hal) k4 (fun _ => ⟨At.new w z t, hn w hw⟩) k6
              (fun h _ => by have := (h4 h).1.lt; omega) h46 (fun _ h => by have := (h6 h).1.lt; omega)
        · cases b6 with
          | true => simp at hi
          | false =>
            obtain rfl : i = m6 := by simpa using hi
            refine a6 _ _ _ _ _ _ _ w hc _ ⟨hS _ _ hw hal, ?_⟩
            rw [hM6 _ _ _ hc]
            obtain ⟨k4, k5, _⟩ := hnot _ hal
            exact ih c b4 b5 true v1 v2 v3 g4 g5 w.heap.size _ hc (by simp only [todo] at hm ⊢; simp at hm ⊢; omega) (hS _ _ hw hal) (fun h => hR1 _ _ _ (r1 h) hal) (fun h => hR2 _ _ _ (r2 h) hal) (fun h => hR3 _ _ _ (r3 h) hal) k4 k5 (fun _ => ⟨At.new w z t, hn w hw⟩)
              h45 (fun h _ => by have := (h4 h).1.lt; omega) (fun h _ => by have := (h5 h).1.lt; omega)
  intro w hw
  have := key 6 0 false false false undef undef undef 0 0 0 w (by omega) rfl hw (fun h => by omega) (fun h => by omega) (fun h => by omega) (fun h => by cases h) (fun h => by cases h) (fun h => by cases h) (fun h => by cases h) (fun h => by cases h) (fun h => by cases h)
  simpa [px] using this


/-- The same, from the frame at hand. -/
theorem three_rel_go {P : Program} {ops : Array Oper} {Q : Exit → Act → World → Prop} {S : World → Prop} {fuel : Nat} {listed : Array Bool} {a : Act} {w : World} (n0 : Nat) (t : TypeId) (z : Array Value) (e1 e2 e3 d4 d5 d6 : Tmp) (R1 R2 R3 : Value → World → Prop)
    (Lst : Nat → Bool → Bool → Bool → Array Bool) (i1 i2 i3 m4 m5 m6 : Nat) (u4 u5 u6 : Value) (hd : d4 ≠ d5 ∧ d4 ≠ d6 ∧ d5 ≠ d6) (hl : Lst 0 false false false = listed) (ha : fput e1 e2 e3 d4 d5 d6 undef undef undef a 0 u4 u5 u6 = a)
    (hready : ∀ c b4 b5 b6, c < 4 → todo c b4 b5 b6 ≠ 0 → Region.ready .any ops (Lst c b4 b5 b6) = rdy i1 i2 i3 m4 m5 m6 c b4 b5 b6)
    (hL1 : ∀ b4 b5 b6, (Lst 0 b4 b5 b6).setIfInBounds i1 true = Lst 1 b4 b5 b6) (hL2 : ∀ b4 b5 b6, (Lst 1 b4 b5 b6).setIfInBounds i2 true = Lst 2 b4 b5 b6) (hL3 : ∀ b4 b5 b6, (Lst 2 b4 b5 b6).setIfInBounds i3 true = Lst 3 b4 b5 b6)
    (hM4 : ∀ c b5 b6, c < 4 → (Lst c false b5 b6).setIfInBounds m4 true = Lst c true b5 b6) (hM5 : ∀ c b4 b6, c < 4 → (Lst c b4 false b6).setIfInBounds m5 true = Lst c b4 true b6) (hM6 : ∀ c b4 b5, c < 4 → (Lst c b4 b5 false).setIfInBounds m6 true = Lst c b4 b5 true)
    (hS : ∀ w w', S w → Below w.heap.size w w' → S w') (hR1 : ∀ r w w', R1 r w → Below w.heap.size w w' → R1 r w') (hR2 : ∀ r w w', R2 r w → Below w.heap.size w w' → R2 r w') (hR3 : ∀ r w w', R3 r w → Below w.heap.size w w' → R3 r w') (hn : ∀ w, S w → n0 ≤ w.heap.size) (hw : S w)
    (c1 : ∀ v1 v2 v3 x4 x5 x6 w, S w → ∀ K : Act → World → Prop, (∀ r w', Below w.heap.size w w' → R1 r w' → K (fput e1 e2 e3 d4 d5 d6 r v2 v3 a 1 x4 x5 x6) w') → wpOp P ops Q i1 K (fput e1 e2 e3 d4 d5 d6 v1 v2 v3 a 0 x4 x5 x6) w)
    (c2 : ∀ v1 v2 v3 x4 x5 x6 w, S w → ∀ K : Act → World → Prop, (∀ r w', Below w.heap.size w w' → R2 r w' → K (fput e1 e2 e3 d4 d5 d6 v1 r v3 a 2 x4 x5 x6) w') → wpOp P ops Q i2 K (fput e1 e2 e3 d4 d5 d6 v1 v2 v3 a 1 x4 x5 x6) w)
    (c3 : ∀ v1 v2 v3 x4 x5 x6 w, S w → ∀ K : Act → World → Prop, (∀ r w', Below w.heap.size w w' → R3 r w' → K (fput e1 e2 e3 d4 d5 d6 v1 v2 r a 3 x4 x5 x6) w') → wpOp P ops Q i3 K (fput e1 e2 e3 d4 d5 d6 v1 v2 v3 a 2 x4 x5 x6) w)
    (a4 : ∀ (b : Act) w, ∀ K : Act → World → Prop, K (b.put (some d4) (.pointer (some ⟨w.heap.size, 0, none⟩))) (w.alloc (.cells z t)) → wpOp P ops Q m4 K b w)
    (a5 : ∀ (b : Act) w, ∀ K : Act → World → Prop, K (b.put (some d5) (.pointer (some ⟨w.heap.size, 0, none⟩))) (w.alloc (.cells z t)) → wpOp P ops Q m5 K b w)
    (a6 : ∀ (b : Act) w, ∀ K : Act → World → Prop, K (b.put (some d6) (.pointer (some ⟨w.heap.size, 0, none⟩))) (w.alloc (.cells z t)) → wpOp P ops Q m6 K b w)
    (tail : ∀ w v1 v2 v3 g4 g5 g6, S w → R1 v1 w → R2 v2 w → R3 v3 w → At w g4 z t → At w g5 z t → At w g6 z t → g4 ≠ g5 → g4 ≠ g6 → g5 ≠ g6 → n0 ≤ g4 → n0 ≤ g5 → n0 ≤ g6 →
      wpAnyH P .any ops Q S fuel (Lst 3 true true true) (fput e1 e2 e3 d4 d5 d6 v1 v2 v3 a 3 (.pointer (some ⟨g4, 0, none⟩)) (.pointer (some ⟨g5, 0, none⟩)) (.pointer (some ⟨g6, 0, none⟩))) w) :
    wpAnyH P .any ops Q S (fuel + 6) listed a w := by
  have := three_rel n0 R1 R2 R3 (fun c v1 v2 v3 x4 x5 x6 => fput e1 e2 e3 d4 d5 d6 v1 v2 v3 a c x4 x5 x6) Lst i1 i2 i3 m4 m5 m6 u4 u5 u6 hready hL1 hL2 hL3 hM4 hM5 hM6 hS hR1 hR2 hR3 hn c1 c2 c3
    (fun c _ _ _ x4 x5 x6 w _ K h => a4 _ w K (by rw [fput4 _ _ _ _ _ hd.1 hd.2.1]; exact h)) (fun c _ _ _ x4 x5 x6 w _ K h => a5 _ w K (by rw [fput5 _ _ _ _ _ hd.2.2]; exact h)) (fun c _ _ _ x4 x5 x6 w _ K h => a6 _ w K (by rw [fput6]; exact h)) tail w hw
  rwa [hl, ha] at this
end Go.Proofs.YthakingpeegagaaDoor
