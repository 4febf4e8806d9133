/-
  What the reference's Same and End answer.
-/
import Derived.Test.YtlcihopklnnhdaaRefTx4
import Derived.Test.YtlcihopklnnhdaaRefIsA
namespace Go.Proofs.Ytlcihopklnnhdaa
open Go.RowKit Go.Shelf

set_option maxRecDepth 10000 in
theorem refSm_calls (s t : ByteArray) (hs : s.size ≤ 1048576) (T : ByteArray) (E : Int) (hU : Hid (unS s = (T, E))) (B : Bool) (hB : Hid ((E = 0 ∧ T = t) ↔ B = true)) (w : World) :
    Calls Try.prog 15 #[.string s, .string t] w fun e w' => e = .returned (.bool B) ∧ Below w.heap.size w w' := by
  have hu := hid (refUn_calls s hs T E hU w)
  go_enter Try.func15, Try.ntmps15
  go_wp2_with fail
  refine Calls.mono hu.out ?_
  rintro e w1 ⟨rfl, hb1⟩
  have hb1' := hid hb1
  clear hu hb1
  by_cases h0 : E = 0
  · subst h0
    by_cases h1 : T = t
    · obtain rfl : B = true := hB.out.1 ⟨rfl, h1⟩
      subst h1
      have e1 : (T.toList == T.toList) = true := by simp
      go_wp2
      go_ret
      exact ⟨rfl, hb1'.out⟩
    · obtain rfl : B = false := by
        cases B with
        | false => rfl
        | true => exact absurd (hB.out.2 rfl).2 h1
      have e1 : (T.toList == t.toList) = false := by
        rw [beq_eq_false_iff_ne]
        intro e
        apply h1
        apply ByteArray.ext
        have h2 : T.data.toList = t.data.toList := by
          rw [← Lib.toList_data, ← Lib.toList_data, e]
        exact Array.toList_inj.1 h2
      go_wp2
      go_ret
      exact ⟨rfl, hb1'.out⟩
  · obtain rfl : B = false := by
      cases B with
      | false => rfl
      | true => exact absurd (hB.out.2 rfl).1 h0
    have e0 : (E == 0) = false := by simpa using h0
    go_wp2
    go_ret
    exact ⟨rfl, hb1'.out⟩

/-- Where a text ends: the place, and the refusal. -/
def IsEnd (s : ByteArray) (f : Int) (n E : Int) : Prop :=
  ((f < 0 ∨ (s.size : Int) < f) ∧ n = 0 ∧ E = 2) ∨ ∃ k : Nat, f = (k : Int) ∧ k ≤ s.size ∧
    ((∃ i : Nat, i < s.size - k ∧ bAt s (k + i) = 34 ∧ escG (slash (s.extract k s.size)) false i = false ∧ (∀ j, j < i → ¬ (bAt s (k + j) = 34 ∧ escG (slash (s.extract k s.size)) false j = false)) ∧ n = ((k + i : Nat) : Int) ∧ E = 0) ∨
      ((∀ j, j < s.size - k → ¬ (bAt s (k + j) = 34 ∧ escG (slash (s.extract k s.size)) false j = false)) ∧ n = 0 ∧ E = 150))
theorem bAt_from (s : ByteArray) (k i : Nat) : bAt (s.extract k s.size) i = bAt s (k + i) := by
  rw [bAt_lb, bAt_lb, (byts_from s k).1, lb_drop]
theorem row_bool {W : World} {B n i : Nat} {v : Value} {G : Nat → Bool} (h : W.ownsRow B 4 1 v n (bl6 G n)) (hi : i < n) : ∃ g cap, v = .slice (some ⟨g, 0, none⟩) n cap ∧ g < W.heap.size ∧ W.cell? ⟨g, i, none⟩ = some (.bool (G i)) := by
  rcases h.2 with ⟨rfl, h0⟩ | ⟨g, cap, cur, rfl, hb, hgb, h3⟩
  · omega
  · refine ⟨g, cap, rfl, (show At W g cur 4 from hgb).lt, ?_⟩
    have := h.cells (g := g) rfl i (.bool (G i)) (by simp [bl6, hi])
    rwa [show (⟨g, 0, none⟩ : Addr).add i = ⟨g, i, none⟩ by by_cases h : i = 0 <;> simp [Addr.add, h]] at this

set_option maxRecDepth 10000 in
set_option maxHeartbeats 1000000 in
theorem refEnd_calls (s : ByteArray) (hs : s.size ≤ 140737488351232) (f : Int) (hf : (Lit.int .i64 f).wf = true) (w : World) :
    Calls Try.prog 17 #[.string s, .int .i64 f] w fun e w' => (∃ n E, e = .returned (.tuple #[.int .i64 n, .int .i64 E]) ∧ IsEnd s f n E) ∧ Below w.heap.size w w' := by
  have hsi : (s.size : Int) ≤ 140737488351232 := by omega
  by_cases h1 : f < 0
  · go_enter Try.func17, Try.ntmps17
    go_wp2
    exact bodyPost_ret (v := .tuple #[.int .i64 0, .int .i64 2]) (by simp [results, Try.results17, go_sem]; try decide) rfl ⟨⟨_, _, rfl, .inl ⟨.inl h1, rfl, rfl⟩⟩, by repeat (first | with_reducible exact Below.refl _ _ | with_reducible refine Below.setCell ?_ (by first | (simp; done) | (simp; omega)) _ | with_reducible refine below_drewN ?_ _ | with_reducible refine Below.alloc ?_ (by first | (simp; done) | (simp; omega)) _ | with_reducible refine Below.drew ?_)⟩
  · have n1 : decide (f < 0) = false := by simp; omega
    by_cases h2 : (s.size : Int) < f
    · go_enter Try.func17, Try.ntmps17
      go_wp2
      exact bodyPost_ret (v := .tuple #[.int .i64 0, .int .i64 2]) (by simp [results, Try.results17, go_sem]; try decide) rfl ⟨⟨_, _, rfl, .inl ⟨.inr h2, rfl, rfl⟩⟩, by repeat (first | with_reducible exact Below.refl _ _ | with_reducible refine Below.setCell ?_ (by first | (simp; done) | (simp; omega)) _ | with_reducible refine below_drewN ?_ _ | with_reducible refine Below.alloc ?_ (by first | (simp; done) | (simp; omega)) _ | with_reducible refine Below.drew ?_)⟩
    · obtain ⟨k, rfl⟩ : ∃ k : Nat, f = (k : Int) := ⟨f.toNat, by omega⟩
      have hks : k ≤ s.size := by omega
      have hki : (k : Int) ≤ (s.size : Int) := by omega
      have n2 : decide ((s.size : Int) < (k : Int)) = false := by simp; omega
      obtain ⟨t, ht⟩ : ∃ t, s.extract k s.size = t := ⟨_, rfl⟩
      have hts : Hid (t.size = s.size - k) := by show _ = _; rw [← ht]; exact (byts_from s k).2
      have htb : Hid (∀ i, i < t.size → bAt t i = bAt s (k + i)) := fun i _ => by rw [← ht]; exact bAt_from s k i
      obtain ⟨G, hG⟩ : ∃ G, Hid (G = escG (slash t) false) := ⟨_, rfl⟩
      have hti : (t.size : Int) ≤ 140737488351232 := by have := hts.out; omega
      have hIs := hid (is_calls t false G hG (by have := hts.out; omega) w)
      have hend : Hid (∀ n E, ((∃ i : Nat, i < t.size ∧ bAt t i = 34 ∧ G i = false ∧ (∀ j, j < i → ¬ (bAt t j = 34 ∧ G j = false)) ∧ n = ((k + i : Nat) : Int) ∧ E = 0) ∨ ((∀ j, j < t.size → ¬ (bAt t j = 34 ∧ G j = false)) ∧ n = 0 ∧ E = 150)) → IsEnd s (k : Int) n E) := fun n E h => by
        refine .inr ⟨k, rfl, hks, ?_⟩
        rw [ht, ← hG.out, ← hts.out]
        rcases h with ⟨i, a1, a2, a3, a4, a5, a6⟩ | ⟨a1, a2, a3⟩
        · exact .inl ⟨i, a1, by rw [← htb.out i a1]; exact a2, a3, fun j hj => by rw [← htb.out j (by omega)]; exact a4 j hj, a5, a6⟩
        · exact .inr ⟨fun j hj => by rw [← htb.out j hj]; exact a1 j hj, a2, a3⟩
      clear h1 h2 hf
      go_enter Try.func17, Try.ntmps17
      go_wp2_with fail
      refine Calls.mono hIs.out ?_
      rintro e w1 ⟨v, rfl, hown, hb1⟩
      have hown' := hid hown
      have hb1' := hid hb1
      obtain ⟨g, cp, rfl, -, -⟩ := row_bool hown (i := 0) (by omega)
      clear hIs hown hb1 n1 n2
      go_wp2
      go_loopw [8] (fun ii wr => ∃ i : Nat, i ≤ t.size ∧ ii = .int .i64 (i : Int) ∧ Hid (∀ j, j < i → ¬ (bAt t j = 34 ∧ G j = false)) ∧ wr = w1) (fun ii _ => t.size - (intOf ii).toNat)
      case atStart => exact ⟨0, Nat.zero_le _, rfl, hid (fun j hj => by omega), rfl⟩
      case round =>
        obtain ⟨i, hi, rfl, hno, rfl⟩ := hrel
        by_cases hlt : i < t.size
        · have hli : (i : Int) < (t.size : Int) := by omega
          have hx := bAt_at t i hlt
          obtain ⟨x, hX⟩ : ∃ x, Hid (bAt t i = x) := ⟨_, rfl⟩
          rw [hX.out] at hx
          have hxl : x < 256 := by rw [← hX.out]; exact bAt_lt t i
          obtain ⟨g', cp', e', -, c0⟩ := row_bool hown'.out (i := i) (by omega)
          obtain ⟨rfl, rfl⟩ : g = g' ∧ cp = cp' := by simpa using e'
          obtain ⟨q, hq⟩ : ∃ q, Hid (G i = q) := ⟨_, rfl⟩
          rw [hq.out] at c0
          clear e'
          by_cases h34 : x = 34
          · subst h34
            cases q with
            | false =>
              go_wp2
              exact bodyPost_ret (v := .tuple #[.int .i64 ((k : Int) + (i : Int)), .int .i64 0]) (by simp [results, Try.results17, go_sem]; try decide) rfl ⟨⟨_, _, rfl, hend.out _ _ (.inl ⟨i, hlt, hX.out, hq.out, hno.out, by simp, rfl⟩)⟩, hb1'.out⟩
            | true =>
              go_wp2
              go_roundw
              case rel => exact ⟨i + 1, by omega, by simp, hid (fun j hj => by
                by_cases e : j = i
                · subst e
                  rw [hq.out]
                  simp
                · exact hno.out j (by omega)), trivial⟩
              case measure => simp [intOf]; omega
          · have m34 : ((x : Int) == 34) = false := by simp; omega
            go_wp2
            go_roundw
            case rel => exact ⟨i + 1, by omega, by simp, hid (fun j hj => by
              by_cases e : j = i
              · subst e
                rw [hX.out]
                intro h
                exact h34 h.1
              · exact hno.out j (by omega)), trivial⟩
            case measure => simp [intOf]; omega
        · obtain rfl : i = t.size := by omega
          go_wp2
          exact bodyPost_ret (v := .tuple #[.int .i64 0, .int .i64 150]) (by simp [results, Try.results17, go_sem]; try decide) rfl ⟨⟨_, _, rfl, hend.out _ _ (.inr ⟨hno.out, rfl, rfl⟩)⟩, hb1'.out⟩
end Go.Proofs.Ytlcihopklnnhdaa
