/-
  What quarryref09.Of answers.
-/
import Derived.Test.YtdmmofdlokgfmaaDoorPieB
import Derived.Test.YtdmmofdlokgfmaaDoorRefIsA
namespace Go.Proofs.YtdmmofdlokgfmaaDoor
open Go.RowKit Go.Shelf

theorem row6_at {w : World} {B n : Nat} {v : Value} {G : Nat → Bool} (h : w.ownsRow B 4 1 v n (bl6 G n)) (hn : 0 < n) : ∃ g cap cur, v = .slice (some ⟨g, 0, none⟩) n cap ∧ B ≤ g ∧ At w g cur 4 ∧ ∀ i, i < n → cur[i]? = some (.bool (G i)) := by
  rcases h.2 with ⟨_, h0⟩ | ⟨g, cap, cur, rfl, hb, hgb, h3⟩
  · omega
  · refine ⟨g, cap, cur, rfl, hb, hgb, fun i hi => ?_⟩
    have := h.cells (g := g) rfl i (.bool (G i)) (by simp [bl6, hi])
    rw [show (⟨g, 0, none⟩ : Addr).add i = ⟨g, i, none⟩ by by_cases h : i = 0 <;> simp [Addr.add, h]] at this
    have hat : At w g cur 4 := hgb
    rwa [hat.cell i] at this
theorem bi_cases (q : Bool) {x : Int} (h : bi q = x) : x = bi q := h.symm

set_option maxRecDepth 10000 in
set_option maxHeartbeats 4000000 in
theorem refOf_calls (s : ByteArray) (hs : s.size ≤ 140737488351232) (a b : Bool) (x y : Int) (h : Hid (IsPt s a b x y)) (w : World) :
    Calls Tryd.prog 12 #[.string s] w fun e w' => e = .returned (.agg #[.bool a, .bool b, .int .i64 x, .int .i64 y]) ∧ Below w.heap.size w w' := by
  have hsi : (s.size : Int) ≤ 140737488351232 := by omega
  go_enter Tryd.func12, Tryd.ntmps12
  go_wp2
  go_loopw [4, 5, 6] (fun xx _ _ wr => ∃ (k : Nat) (A : Array Value), xx = .int .i64 (k : Int) ∧ Hid (At wr w.heap.size #[.bool false, .bool false, .int .i64 0, .int .i64 0] 33 ∧ At wr (w.heap.size + 1) A 33 ∧ Below w.heap.size w wr) ∧ Hid (k = 0 ∧ A = #[.bool false, .bool false, .int .i64 0, .int .i64 0] ∨ k = 1 ∧ A = #[.bool a, .bool false, .int .i64 x, .int .i64 0] ∨ k = 2 ∧ A = #[.bool a, .bool b, .int .i64 x, .int .i64 y])) (fun xx _ _ _ => 2 - (intOf xx).toNat)
  case atStart =>
    refine ⟨0, _, rfl, ⟨(At.new w _ _).alloc _, ?_, by repeat (first | with_reducible exact Below.refl _ _ | with_reducible refine Below.setCell ?_ (by first | (simp; done) | (simp; omega)) _ | with_reducible refine below_drewN ?_ _ | with_reducible refine Below.alloc ?_ (by first | (simp; done) | (simp; omega)) _ | with_reducible refine Below.drew ?_)⟩, .inl ⟨rfl, rfl⟩⟩
    have h := At.new (w.alloc (.cells #[.bool false, .bool false, .int .i64 0, .int .i64 0] 33)) #[.bool false, .bool false, .int .i64 0, .int .i64 0] 33
    simpa using h
  case round =>
    obtain ⟨k, A, rfl, hW, hk⟩ := hrel
    rcases hk.out with ⟨rfl, rfl⟩ | ⟨rfl, rfl⟩ | ⟨rfl, rfl⟩
    · obtain ⟨G, hG⟩ : ∃ G, Hid (G = escG (slash s) false) := ⟨_, rfl⟩
      have hic := hid (is_calls s false G hG hs wr)
      have hodd : Hid (oddG (markC s false) s.size = a) := h.out.1
      have hout : Hid (bi (G s.size) = x) := by show _ = _; rw [hG.out]; exact h.out.2.2.1
      clear hk
      go_wp2_with fail
      refine hic.out.mono ?_
      rintro e w1 ⟨v, rfl, hown, hb⟩
      obtain ⟨g, cap, cur, rfl, hg, hgc, hcur⟩ := row6_at hown (by omega)
      have hgB : Hid (w.heap.size + 1 < g) := by show _ < _; have := hW.out.2.1.lt; omega
      have hW1 : Hid (At w1 w.heap.size #[.bool false, .bool false, .int .i64 0, .int .i64 0] 33 ∧ At w1 (w.heap.size + 1) #[.bool (oddG (markC s false) 0), .bool false, .int .i64 0, .int .i64 0] 33 ∧ At w1 g cur 4 ∧ Below w.heap.size w w1) := ⟨hW.out.1.keptAll hb, hW.out.2.1.keptAll hb, hgc, hW.out.2.2.trans (hb.mono hW.out.2.2.size)⟩
      have hcur' := hid hcur
      clear hic hW hown hgc hb hcur hg
      go_wp2
      go_loopw [6] (fun ii wr2 => ∃ i : Nat, i ≤ s.size ∧ ii = .int .i64 (i : Int) ∧ Hid (At wr2 w.heap.size #[.bool false, .bool false, .int .i64 0, .int .i64 0] 33 ∧ At wr2 (w.heap.size + 1) #[.bool (oddG (markC s false) i), .bool false, .int .i64 0, .int .i64 0] 33 ∧ At wr2 g cur 4 ∧ Below w.heap.size w wr2)) (fun ii _ => s.size - (intOf ii).toNat)
      case atStart => exact ⟨0, Nat.zero_le _, rfl, hW1⟩
      case round =>
        obtain ⟨i, hi, rfl, hV⟩ := hrel
        have hcell := hV.out.2.2.1.cell i
        rw [hcur'.out i (by omega)] at hcell
        obtain ⟨⟨d0, d1, d2, d3⟩, f0, f1, f2, f3⟩ := hV.out.2.1.facts9
        have hil : (i : Int) < ((s.size + 1 : Nat) : Int) := by omega
        by_cases hlt : i < s.size
        · have hli : (i : Int) < (s.size : Int) := by omega
          obtain ⟨z, hz⟩ : ∃ z, s[i].toNat = z := ⟨_, rfl⟩
          have h34 := quoB_at s i hlt
          rw [hz] at h34
          obtain ⟨q, hq⟩ : ∃ q, Hid (G i = q) := ⟨_, rfl⟩
          obtain ⟨t, ht⟩ : ∃ t, Hid (oddG (markC s false) i = t) := ⟨_, rfl⟩
          have hnx : Hid (oddG (markC s false) (i + 1) = (t ^^ (decide (z = 34) && !q))) := by show _ = _; rw [oddG_succ, ht.out, markC, h34, ← hq.out, hG.out]
          rw [hq.out] at hcell
          rw [ht.out] at d0
          clear h34
          by_cases x34 : z = 34
          · subst x34
            have x34' := hid trivial
            cases q
            · go_wp2
              go_roundw
              case rel => exact ⟨i + 1, by omega, by simp, ⟨hV.out.1.other (p := ⟨w.heap.size + 1, 0, none⟩) (by show w.heap.size ≠ w.heap.size + 1; omega) _, by have hh := hV.out.2.1.set 0 (.bool (!t)); rw [hnx.out]; simpa using hh, hV.out.2.2.1.other (p := ⟨w.heap.size + 1, 0, none⟩) (by have := hgB.out; show g ≠ w.heap.size + 1; omega) _, hV.out.2.2.2.setCell (p := ⟨w.heap.size + 1, 0, none⟩) (by show w.heap.size ≤ w.heap.size + 1; omega) _⟩⟩
              case measure => simp [intOf]; omega
            · go_wp2
              go_roundw
              case rel => exact ⟨i + 1, by omega, by simp, ⟨hV.out.1, by rw [hnx.out]; have hh := hV.out.2.1; rw [ht.out] at hh; simpa [x34'] using hh, hV.out.2.2⟩⟩
              case measure => simp [intOf]; omega
          · have hne : ((z : Int) == 34) = false := by simp; omega
            have x34' := x34
            clear x34
            go_wp2
            go_roundw
            case rel => exact ⟨i + 1, by omega, by simp, ⟨hV.out.1, by rw [hnx.out]; have hh := hV.out.2.1; rw [ht.out] at hh; simpa [x34'] using hh, hV.out.2.2⟩⟩
            case measure => simp [intOf]; omega
        · obtain rfl : i = s.size := by omega
          obtain ⟨q, hq⟩ : ∃ q, Hid (G s.size = q) := ⟨_, rfl⟩
          rw [hq.out] at hcell
          have ho2 := hout.out
          rw [hq.out] at ho2
          have hV2 := hV.out.2.1
          rw [hodd.out] at hV2
          have hV2' := hid hV2
          rw [hodd.out] at d0
          clear hV2 hq hout
          cases q
          · obtain rfl : x = 0 := ho2.symm
            clear ho2
            go_wp2
            go_roundw
            case rel => exact ⟨1, _, by simp, ⟨hV.out.1, hV2'.out, hV.out.2.2.2⟩, .inr (.inl ⟨rfl, rfl⟩)⟩
            case measure => simp [intOf]
          · obtain rfl : x = 1 := ho2.symm
            clear ho2
            go_wp2
            go_roundw
            case rel => exact ⟨1, _, by simp, ⟨hV.out.1.other (p := ⟨w.heap.size + 1, 2, none⟩) (by show w.heap.size ≠ w.heap.size + 1; omega) _, hV2'.out.set 2 _, hV.out.2.2.2.setCell (p := ⟨w.heap.size + 1, 2, none⟩) (by show w.heap.size ≤ w.heap.size + 1; omega) _⟩, .inr (.inl ⟨rfl, rfl⟩)⟩
            case measure => simp [intOf]
    · obtain ⟨G, hG⟩ : ∃ G, Hid (G = escG (slash s) true) := ⟨_, rfl⟩
      have hic := hid (is_calls s true G hG hs wr)
      have hodd : Hid (oddG (markC s true) s.size = b) := h.out.2.1
      have hout : Hid (bi (G s.size) = y) := by show _ = _; rw [hG.out]; exact h.out.2.2.2
      clear hk
      go_wp2_with fail
      refine hic.out.mono ?_
      rintro e w1 ⟨v, rfl, hown, hb⟩
      obtain ⟨g, cap, cur, rfl, hg, hgc, hcur⟩ := row6_at hown (by omega)
      have hgB : Hid (w.heap.size + 1 < g) := by show _ < _; have := hW.out.2.1.lt; omega
      have hW1 : Hid (At w1 w.heap.size #[.bool false, .bool false, .int .i64 0, .int .i64 0] 33 ∧ At w1 (w.heap.size + 1) #[.bool a, .bool (oddG (markC s true) 0), .int .i64 x, .int .i64 0] 33 ∧ At w1 g cur 4 ∧ Below w.heap.size w w1) := ⟨hW.out.1.keptAll hb, hW.out.2.1.keptAll hb, hgc, hW.out.2.2.trans (hb.mono hW.out.2.2.size)⟩
      have hcur' := hid hcur
      clear hic hW hown hgc hb hcur hg
      go_wp2
      go_loopw [6] (fun ii wr2 => ∃ i : Nat, i ≤ s.size ∧ ii = .int .i64 (i : Int) ∧ Hid (At wr2 w.heap.size #[.bool false, .bool false, .int .i64 0, .int .i64 0] 33 ∧ At wr2 (w.heap.size + 1) #[.bool a, .bool (oddG (markC s true) i), .int .i64 x, .int .i64 0] 33 ∧ At wr2 g cur 4 ∧ Below w.heap.size w wr2)) (fun ii _ => s.size - (intOf ii).toNat)
      case atStart => exact ⟨0, Nat.zero_le _, rfl, hW1⟩
      case round =>
        obtain ⟨i, hi, rfl, hV⟩ := hrel
        have hcell := hV.out.2.2.1.cell i
        rw [hcur'.out i (by omega)] at hcell
        obtain ⟨⟨d0, d1, d2, d3⟩, f0, f1, f2, f3⟩ := hV.out.2.1.facts9
        have hil : (i : Int) < ((s.size + 1 : Nat) : Int) := by omega
        by_cases hlt : i < s.size
        · have hli : (i : Int) < (s.size : Int) := by omega
          obtain ⟨z, hz⟩ : ∃ z, s[i].toNat = z := ⟨_, rfl⟩
          have h34 := quoB_at s i hlt
          rw [hz] at h34
          obtain ⟨q, hq⟩ : ∃ q, Hid (G i = q) := ⟨_, rfl⟩
          obtain ⟨t, ht⟩ : ∃ t, Hid (oddG (markC s true) i = t) := ⟨_, rfl⟩
          have hnx : Hid (oddG (markC s true) (i + 1) = (t ^^ (decide (z = 34) && !q))) := by show _ = _; rw [oddG_succ, ht.out, markC, h34, ← hq.out, hG.out]
          rw [hq.out] at hcell
          rw [ht.out] at d1
          clear h34
          by_cases x34 : z = 34
          · subst x34
            have x34' := hid trivial
            cases q
            · go_wp2
              go_roundw
              case rel => exact ⟨i + 1, by omega, by simp, ⟨hV.out.1.other (p := ⟨w.heap.size + 1, 1, none⟩) (by show w.heap.size ≠ w.heap.size + 1; omega) _, by have hh := hV.out.2.1.set 1 (.bool (!t)); rw [hnx.out]; simpa using hh, hV.out.2.2.1.other (p := ⟨w.heap.size + 1, 1, none⟩) (by have := hgB.out; show g ≠ w.heap.size + 1; omega) _, hV.out.2.2.2.setCell (p := ⟨w.heap.size + 1, 1, none⟩) (by show w.heap.size ≤ w.heap.size + 1; omega) _⟩⟩
              case measure => simp [intOf]; omega
            · go_wp2
              go_roundw
              case rel => exact ⟨i + 1, by omega, by simp, ⟨hV.out.1, by rw [hnx.out]; have hh := hV.out.2.1; rw [ht.out] at hh; simpa [x34'] using hh, hV.out.2.2⟩⟩
              case measure => simp [intOf]; omega
          · have hne : ((z : Int) == 34) = false := by simp; omega
            have x34' := x34
            clear x34
            go_wp2
            go_roundw
            case rel => exact ⟨i + 1, by omega, by simp, ⟨hV.out.1, by rw [hnx.out]; have hh := hV.out.2.1; rw [ht.out] at hh; simpa [x34'] using hh, hV.out.2.2⟩⟩
            case measure => simp [intOf]; omega
        · obtain rfl : i = s.size := by omega
          obtain ⟨q, hq⟩ : ∃ q, Hid (G s.size = q) := ⟨_, rfl⟩
          rw [hq.out] at hcell
          have ho2 := hout.out
          rw [hq.out] at ho2
          have hV2 := hV.out.2.1
          rw [hodd.out] at hV2
          have hV2' := hid hV2
          rw [hodd.out] at d1
          clear hV2 hq hout
          cases q
          · obtain rfl : y = 0 := ho2.symm
            clear ho2
            go_wp2
            go_roundw
            case rel => exact ⟨2, _, by simp, ⟨hV.out.1, hV2'.out, hV.out.2.2.2⟩, .inr (.inr ⟨rfl, rfl⟩)⟩
            case measure => simp [intOf]
          · obtain rfl : y = 1 := ho2.symm
            clear ho2
            go_wp2
            go_roundw
            case rel => exact ⟨2, _, by simp, ⟨hV.out.1.other (p := ⟨w.heap.size + 1, 3, none⟩) (by show w.heap.size ≠ w.heap.size + 1; omega) _, hV2'.out.set 3 _, hV.out.2.2.2.setCell (p := ⟨w.heap.size + 1, 3, none⟩) (by show w.heap.size ≤ w.heap.size + 1; omega) _⟩, .inr (.inr ⟨rfl, rfl⟩)⟩
            case measure => simp [intOf]
    · obtain ⟨⟨e0, e1, e2, e3⟩, -⟩ := hW.out.2.1.facts9
      obtain ⟨⟨d0, d1, d2, d3⟩, f0, f1, f2, f3⟩ := hW.out.1.facts9
      clear hk
      go_wp2
      refine ret_pt rfl rfl hW.out.1.four9 rfl ⟨rfl, below_four hW.out.2.2 (Nat.le_refl _) _ _ _ _⟩
end Go.Proofs.YtdmmofdlokgfmaaDoor
