/-
  VaS1, VaProg, one behind the other.
-/
import Derived.Test.YtlckhiflhnlgpabGreatDoorVaR
import Derived.Test.YtlckhiflhnlgpabGreatDoorMkIndex
import Derived.Test.YtlckhiflhnlgpabGreatDoorLvD
/- Package valid: the depth by the places where something begins; where a value ends (mathematics alone). -/
namespace Go.Proofs.YtlckhiflhnlgpabGreatDoor
open Go.RowKit Go.Shelf

theorem idxTo_pre (s : ByteArray) {x : Nat} : ∀ n, x ≤ n → ∃ r, idxTo s n = idxTo s x ++ r := by
  intro n
  induction n with
  | zero => intro h; obtain rfl : x = 0 := by omega
            exact ⟨[], by simp⟩
  | succ n ih =>
    intro h
    by_cases e : x = n + 1
    · subst e; exact ⟨[], by simp⟩
    · obtain ⟨r, hr⟩ := ih (by omega)
      cases hb : begS s n with
      | true => exact ⟨r ++ [n], by rw [idxTo_t hb, hr]; simp⟩
      | false => exact ⟨r, by rw [idxTo_f hb, hr]⟩
theorem idx_next (s : ByteArray) : ∀ (n x t : Nat), s.size - x ≤ n → x ≤ s.size → (idxTo s x).length = t →
    (t = (idxS s).length ∧ ∀ q, x ≤ q → q < s.size → begS s q = false) ∨
    (t < (idxS s).length ∧ ∃ p, x ≤ p ∧ p < s.size ∧ begS s p = true ∧ (∀ q, x ≤ q → q < p → begS s q = false) ∧ (idxS s)[t]? = some p ∧ (idxTo s (p + 1)).length = t + 1) := by
  intro n
  induction n with
  | zero =>
    intro x t h1 h2 h3
    obtain rfl : x = s.size := by omega
    exact .inl ⟨h3.symm, fun q a b => by omega⟩
  | succ n ih =>
    intro x t h1 h2 h3
    by_cases hx : x = s.size
    · subst hx
      exact .inl ⟨h3.symm, fun q a b => by omega⟩
    · cases hb : begS s x with
      | true =>
        right
        have e1 := idxTo_t hb
        obtain ⟨r, hr⟩ := idxTo_pre s (x := x + 1) s.size (by omega)
        have hr' : idxS s = idxTo s x ++ [x] ++ r := by unfold idxS; rw [hr, e1]
        refine ⟨by rw [hr']; simp; omega, x, Nat.le_refl _, by omega, hb, fun q a b => by omega, ?_, by rw [e1]; simp; exact h3⟩
        rw [hr', ← h3]
        simp
      | false =>
        have e1 := idxTo_f hb
        rcases ih (x + 1) t (by omega) (by omega) (by rw [e1]; exact h3) with ⟨a, b⟩ | ⟨a, p, b1, b2, b3, b4, b5, b6⟩
        · refine .inl ⟨a, fun q q1 q2 => ?_⟩
          by_cases e : q = x
          · subst e; exact hb
          · exact b q (by omega) q2
        · refine .inr ⟨a, p, by omega, b2, b3, fun q q1 q2 => ?_, b5, b6⟩
          by_cases e : q = x
          · subst e; exact hb
          · exact b4 q (by omega) q2
/-- Where nothing begins, no bracket stands. -/
theorem beg_br {s : ByteArray} {q : Nat} (h : begS s q = false) : brO s q = false ∧ brC s q = false := by
  have h1 : strS s q = false := by
    unfold begS at h
    rw [Bool.or_eq_false_iff] at h
    exact h.1
  unfold strS at h1
  unfold brO brC
  cases ho : outS s q with
  | false => simp
  | true =>
    rw [ho] at h1
    simp only [Bool.true_and] at h1 ⊢
    have : ¬ (byteAt s q = 123 ∨ byteAt s q = 125 ∨ byteAt s q = 91 ∨ byteAt s q = 93 ∨ byteAt s q = 58 ∨ byteAt s q = 44) := fun x => by
      have := (sgn_iff s q).2 x
      rw [this] at h1
      cases h1
    unfold opB clB
    simp
    omega
theorem dep_flat {s : ByteArray} {x : Nat} : ∀ p, x ≤ p → (∀ q, x ≤ q → q < p → begS s q = false) → depS s p = depS s x ∧ maxD (depS s) p = maxD (depS s) x := by
  intro p
  induction p with
  | zero => intro h _; obtain rfl : x = 0 := by omega
            exact ⟨rfl, rfl⟩
  | succ p ih =>
    intro h hq
    by_cases e : x = p + 1
    · subst e; exact ⟨rfl, rfl⟩
    · obtain ⟨a, b⟩ := ih (by omega) (fun q q1 q2 => hq q q1 (by omega))
      obtain ⟨c1, c2⟩ := beg_br (hq p (by omega) (by omega))
      have d1 : depS s (p + 1) = depS s p := by rw [depS_succ, c1, c2]; rfl
      refine ⟨d1.trans a, ?_⟩
      rw [maxD, d1]
      have := maxD_ge (depS s) (Nat.le_refl p)
      omega
/-- At a place where something begins: what the depth becomes. -/
theorem dep_beg {s : ByteArray} {p : Nat} (h : begS s p = true) :
    ((byteAt s p = 123 ∨ byteAt s p = 91) → depS s (p + 1) = depS s p + 1 ∧ maxD (depS s) (p + 1) = max (maxD (depS s) p) (depS s p + 1)) ∧
    ((byteAt s p = 125 ∨ byteAt s p = 93) → depS s (p + 1) = depS s p - 1 ∧ maxD (depS s) (p + 1) = maxD (depS s) p) ∧
    (¬ (byteAt s p = 123 ∨ byteAt s p = 91) → ¬ (byteAt s p = 125 ∨ byteAt s p = 93) → depS s (p + 1) = depS s p ∧ maxD (depS s) (p + 1) = maxD (depS s) p) := by
  have hge := maxD_ge (depS s) (Nat.le_refl p)
  have hout : (byteAt s p = 123 ∨ byteAt s p = 91 ∨ byteAt s p = 125 ∨ byteAt s p = 93) → outS s p = true := fun hc => by
    have hs : sgnB s p = true := (sgn_iff s p).2 (by omega)
    have hm : markS s p = false := mark_not (by omega)
    unfold begS strS wordS at h
    rw [hm, hs] at h
    simpa using h
  refine ⟨fun hc => ?_, fun hc => ?_, fun h1 h2 => ?_⟩
  · have d1 : depS s (p + 1) = depS s p + 1 := by
      rw [depS_succ]
      unfold brO
      have : opB (byteAt s p) = true := by unfold opB; simp; omega
      rw [hout (by omega), this]
      rfl
    exact ⟨d1, by rw [maxD, d1]⟩
  · have d1 : depS s (p + 1) = depS s p - 1 := by
      rw [depS_succ]
      unfold brO brC
      have a1 : opB (byteAt s p) = false := by unfold opB; simp; omega
      have a2 : clB (byteAt s p) = true := by unfold clB; simp; omega
      rw [hout (by omega), a1, a2]
      rfl
    refine ⟨d1, ?_⟩
    rw [maxD, d1]
    omega
  · have d1 : depS s (p + 1) = depS s p := by
      rw [depS_succ]
      unfold brO brC
      have a1 : opB (byteAt s p) = false := by unfold opB; simp; omega
      have a2 : clB (byteAt s p) = false := by unfold clB; simp; omega
      rw [a1, a2]
      simp [stepD]
    refine ⟨d1, ?_⟩
    rw [maxD, d1]
    omega
/-- How far the depth is told, behind the first t places. -/
structure DpS (s : ByteArray) (t D M : Nat) : Prop where
  ex : ∃ x, x ≤ s.size ∧ (idxTo s x).length = t ∧ depS s x = D ∧ maxD (depS s) x = M
theorem dpS0 (s : ByteArray) : DpS s 0 0 0 := ⟨0, Nat.zero_le _, rfl, rfl, rfl⟩
theorem DpS.next {s : ByteArray} {t D M : Nat} (h : DpS s t D M) (ht : t < (idxS s).length) : ∃ p, p < s.size ∧ (idxS s)[t]? = some p ∧
    ((byteAt s p = 123 ∨ byteAt s p = 91) → DpS s (t + 1) (D + 1) (max M (D + 1))) ∧ ((byteAt s p = 125 ∨ byteAt s p = 93) → DpS s (t + 1) (D - 1) M) ∧
    (¬ (byteAt s p = 123 ∨ byteAt s p = 91) → ¬ (byteAt s p = 125 ∨ byteAt s p = 93) → DpS s (t + 1) D M) := by
  obtain ⟨x, h1, h2, h3, h4⟩ := h.ex
  rcases idx_next s s.size x t (by omega) h1 h2 with ⟨a, -⟩ | ⟨-, p, b1, b2, b3, b4, b5, b6⟩
  · omega
  · obtain ⟨c1, c2⟩ := dep_flat p b1 b4
    obtain ⟨d1, d2, d3⟩ := dep_beg b3
    rw [c1, c2, h3, h4] at d1 d2 d3
    exact ⟨p, b2, b5, fun hc => ⟨p + 1, by omega, b6, (d1 hc).1, (d1 hc).2⟩, fun hc => ⟨p + 1, by omega, b6, (d2 hc).1, (d2 hc).2⟩, fun e1 e2 => ⟨p + 1, by omega, b6, (d3 e1 e2).1, (d3 e1 e2).2⟩⟩
theorem DpS.done {s : ByteArray} {D M : Nat} (h : DpS s (idxS s).length D M) : M = maxD (depS s) s.size := by
  obtain ⟨x, h1, h2, h3, h4⟩ := h.ex
  rcases idx_next s s.size x _ (by omega) h1 h2 with ⟨-, b⟩ | ⟨a, -⟩
  · rw [← h4]
    exact (dep_flat s.size h1 b).2.symm
  · omega
theorem DpS.le {s : ByteArray} {t D M : Nat} (h : DpS s t D M) : D ≤ s.size ∧ M ≤ s.size := by
  obtain ⟨x, h1, h2, h3, h4⟩ := h.ex
  refine ⟨by rw [← h3]; have := dep_le s x; omega, ?_⟩
  rw [← h4]
  exact maxD_le _ (fun i hi => by have := dep_le s i; omega)
/-- A text's end is its next mark. -/
theorem txt_end {s : ByteArray} {i j : Nat} {nm : Bool} {op : List Nat} {m6 : Mc} (t6 : Tk s (i + 1) m6) (h6 : m6.st = 6) (hP : TxP s i nm op j) :
    ∃ e, j = e + 1 ∧ i < e ∧ e < s.size ∧ markS s e = true ∧ ∀ q, i < q → q < e → markS s q = false := by
  obtain ⟨p1, ⟨-, p2⟩, k, p3, -, p5⟩ := hP
  have hne : j ≠ i + 1 := fun e => by
    subst e
    have := p3.uniq t6
    subst this
    rw [h6] at p5
    cases nm <;> simp at p5
  have hodd : ∀ p, i < p → p ≤ j - 1 → oddG (markS s) p = true := fun p a b => by
    obtain ⟨kp, tp⟩ := p3.pre (show p ≤ j by omega)
    have := p2 p kp a b tp
    rw [(take_marks (isDep s) p tp.1 tp.2).2.1]
    exact decide_eq_true this
  have hj : oddG (markS s) j = false := by
    rw [(take_marks (isDep s) j p3.1 p3.2).2.1, decide_eq_false_iff_not, p5]
    cases nm <;> simp
  refine ⟨j - 1, by omega, by omega, by have := p3.1; omega, ?_, fun q a b => ?_⟩
  · have h1 := hodd (j - 1) (by omega) (Nat.le_refl _)
    have h2 := oddG_succ (markS s) (j - 1)
    rw [show j - 1 + 1 = j by omega, hj, h1] at h2
    cases h : markS s (j - 1) with
    | true => rfl
    | false => rw [h] at h2; cases h2
  · have h1 := hodd q a (by omega)
    have h3 := hodd (q + 1) (by omega) (by omega)
    have h2 := oddG_succ (markS s) q
    rw [h3, h1] at h2
    cases h : markS s q with
    | false => rfl
    | true => rw [h] at h2; cases h2
theorem end16_text {s : ByteArray} {i e : Nat} {E : Int} (hc : byteAt s i = 34) (h1 : i < e) (_h2 : e < s.size) (h3 : markS s e = true) (h4 : ∀ q, i < q → q < e → markS s q = false) (hE : IsEnd16 s i E) : E = ((e + 1 : Nat) : Int) := by
  rcases hE with ⟨h, -⟩ | ⟨-, -, e', g1, g2, g3, g4, rfl⟩ | ⟨-, h, -⟩
  · rw [hc] at h
    exact absurd h (by decide)
  · rcases Nat.lt_trichotomy e e' with x | x | x
    · rw [g4 e h1 x] at h3; cases h3
    · subst x; push_cast; rfl
    · rw [h4 e' g1 x] at g3; cases g3
  · exact absurd hc h
theorem skip_uniq {s : ByteArray} {j k k' : Nat} (h : IsSkip s j k) (h' : IsSkip s j k') : k = k' := by
  obtain ⟨a1, a2, a3, a4⟩ := h
  obtain ⟨b1, b2, b3, b4⟩ := h'
  rcases Nat.lt_trichotomy k k' with x | x | x
  · rcases a4 with e | e
    · omega
    · rw [b3 k a1 x] at e; cases e
  · exact x
  · rcases b4 with e | e
    · omega
    · rw [a3 k' b1 x] at e; cases e
theorem doc_tk {s : ByteArray} (hd : docM (byts s)) {j : Nat} (hj : j ≤ s.size) : ∃ m, Tk s j m := by
  obtain ⟨n, hn⟩ := doc_at hd hj
  exact ⟨n, hj, hn⟩
/-- At a quote where something begins: a text is awaited, a value's or a name's. -/
theorem doc_quote {s : ByteArray} (hd : docM (byts s)) {a : Nat} (hb : begS s a = true) (hc : byteAt s a = 34) {m : Mc} (t : Tk s a m) :
    markS s a = true ∧ inS s a = true ∧ ∃ nm m6, Qw s a nm m ∧ (nm = true ↔ (m.st = 2 ∨ m.st = 3)) ∧ Tk s (a + 1) m6 ∧ m6.st = 6 := by
  have ha : a < s.size := byteAt_in (by omega)
  obtain ⟨k, hk, hs⟩ := doc_next hd ha t.2
  obtain ⟨t1, t2, -⟩ := take_marks (isDep s) a t.1 t.2
  have f := t.fit
  have hs34 := hs
  rw [hc] at hs34
  have key : ¬ (m.st = 6 ∨ m.st = 7 ∨ m.st = 8) := fun h6 => by
    have ho : oddG (markS s) a = true := by rw [t2]; exact decide_eq_true h6
    by_cases hmk : markS s a = true
    · have hin : inS s a = false := by
        unfold inS
        rw [oddG_succ, ho, hmk]
        rfl
      have hout : outS s a = false := by unfold outS; rw [hmk]; simp
      have hw : wordS s a = false := by unfold wordS; rw [hout]; rfl
      have hst : strS s a = false := by unfold strS; rw [hout]; rfl
      unfold begS at hb
      rw [hst, hin, hw] at hb
      simp at hb
    · have hmk' : markS s a = false := by cases h : markS s a with
        | true => exact absurd h hmk
        | false => rfl
      have hin : inS s a = true := by
        unfold inS
        rw [oddG_succ, ho, hmk']
        rfl
      have hout : outS s a = false := by unfold outS; rw [hin]; simp
      have hw : wordS s a = false := by unfold wordS; rw [hout]; rfl
      have hst : strS s a = false := by unfold strS; rw [hout]; rfl
      unfold begS at hb
      rw [hst, hmk', hw] at hb
      simp at hb
  obtain ⟨q1, q2⟩ := step_quote f hs34 key
  have hesc : escS s a = false := by rw [t1]; exact decide_eq_false (by omega)
  have hmk : markS s a = true := by
    show (decide (byteAt s a = 34) && !escS s a) = true
    rw [hesc, decide_eq_true hc]
    rfl
  have hin : inS s a = true := by
    unfold inS
    rw [oddG_succ, hmk, t2, decide_eq_false key]
    rfl
  refine ⟨hmk, hin, ?_⟩
  rcases q2 with ⟨h, -⟩ | ⟨h, -⟩
  · refine ⟨false, k, qw_value t ?_ hc, ⟨fun x => Bool.noConfusion x, fun x => by omega⟩, ⟨ha, hk⟩, q1⟩
    rcases h with h | h
    · exact .inl h
    · exact .inr ⟨h, by omega, by rw [hc]; decide⟩
  · refine ⟨true, k, qw_name t ?_ (by rw [hc]; decide), ⟨fun _ => by omega, fun _ => rfl⟩, ⟨ha, hk⟩, q1⟩
    rcases h with h | h
    · exact .inr ⟨h, by omega⟩
    · exact .inl h
/-- A word's or a number's end. -/
theorem word_end {s : ByteArray} (hd : docM (byts s)) {i j : Nat} {op : List Nat} (hP : ScW s i op j) {e : Nat} (he : IsScan s (i + 1) e) : e = j ∧ ∀ k, IsSkip s j k → byteAt s k ≠ 58 := by
  obtain ⟨⟨p1, -, k, p3, -, p5⟩, p6⟩ := hP
  obtain ⟨e1, e2, e3, e4⟩ := he
  have hstop : ∀ (q : Nat) (m : Mc), Tk s q m → Bhd s q m → q < s.size → stopB (byteAt s q) = true := fun q m t hb hq => by
    obtain ⟨k2, hk2, hs⟩ := doc_next hd hq t.2
    rw [hb.2] at hs
    cases h : stopB (byteAt s q) with
    | true => rfl
    | false => rw [after_stop (by rw [← stop_eq]; exact h)] at hs; cases hs
  refine ⟨?_, fun q hq hc => ?_⟩
  · rcases Nat.lt_trichotomy e j with x | x | x
    · rcases e4 with h | h
      · have := p3.1; omega
      · rw [p6 e (by omega) x] at h; cases h
    · exact x
    · have := hstop j k p3 p5 (by omega)
      rw [e3 j (by omega) x] at this
      cases this
  · obtain ⟨m', t1, b1, -, -⟩ := p3.skipB p5 hq
    have := hstop q m' t1 b1 (byteAt_in (by omega))
    rw [hc] at this
    revert this
    decide
end Go.Proofs.YtlckhiflhnlgpabGreatDoor

/- What the functions of package valid answer. -/
namespace Go.Proofs.YtlckhiflhnlgpabGreatDoor
open Go.RowKit Go.Shelf

/-- The tables lie where they were laid. -/
def Ok16 (w : World) : Prop := Tab w ∧ TabM w ∧ 1 < w.heap.size
theorem Ok16.below {w w' : World} (h : Ok16 w) (hb : Below w.heap.size w w') : Ok16 w' :=
  ⟨h.1.below hb (by have := h.2.2; omega), h.2.1.below hb h.2.2, by have := hb.size; have := h.2.2; omega⟩

theorem field_ver0 (x y : Value) (u : World) : (Instr.field 33 (.agg #[x, y]) 0).run Tryz.prog u = .ok x u := by kernel_rfl
theorem ownI_slice {H : Nat} {v : Value} {L : List Nat} {w : World} (h : w.ownsRow H 3 1 v L.length (ints L)) : ∃ o cap, v = .slice o L.length cap ∧ ∀ t p : Nat, L[t]? = some p → ∃ g, o = some ⟨g, 0, none⟩ ∧ w.cell? ⟨g, t, none⟩ = some (.int .i64 (p : Int)) := by
  rcases h.2 with ⟨rfl, h0⟩ | ⟨g, cap, cur, hv, -⟩
  · exact ⟨none, 0, by rw [h0], fun t p ht => by
      have := (List.getElem?_eq_some_iff.mp ht).1
      omega⟩
  · refine ⟨_, _, hv, fun t p ht => ⟨g, rfl, ?_⟩⟩
    have hget : (ints L)[t]? = some (.int .i64 (p : Int)) := by unfold ints; rw [List.getElem?_map, ht]; rfl
    have hcell := h.cells (g := g) (by rw [hv]; rfl) t _ hget
    have hadd : (⟨g, 0, none⟩ : Addr).add t = ⟨g, t, none⟩ := by by_cases h : t = 0 <;> simp [Addr.add, h]
    rwa [hadd] at hcell
set_option maxRecDepth 10000 in
set_option maxHeartbeats 2000000 in
theorem dp_calls (s : ByteArray) (hs : s.size ≤ 8388608) (w : World) (h16 : Ok16 w) :
    Calls Tryz.prog 7 #[.string s] w fun e w' => e = .returned (.int .i64 ((maxD (depS s) s.size : Nat) : Int)) ∧ Below w.heap.size w w' := by
  have hix := hid (index8_calls s (by omega) w h16.1 h16.2.1 h16.2.2)
  obtain ⟨n, hn⟩ : ∃ n, Hid ((idxS s).length = n) := ⟨_, rfl⟩
  have hnl : n ≤ 8388608 := by have := idxTo_len s s.size; rw [← hn.out]; unfold idxS; omega
  clear h16
  go_enter Tryz.func7, Tryz.ntmps7
  go_wp2_with fail
  refine Calls.mono hix.out ?_
  rintro e w1 ⟨v, rfl, hrow, hb⟩
  obtain ⟨o, cap, rfl, hcel⟩ := ownI_slice hrow
  have hcel' := hid hcel
  have hb' := hid hb
  rw [hn.out]
  clear hrow hb hix hcel
  have hni : (n : Int) ≤ 8388608 := by omega
  go_wp2_with fail
  go_loop [3, 4, 10] (fun dd mm tt => ∃ t D M : Nat, t ≤ n ∧ dd = .int .i64 (D : Int) ∧ mm = .int .i64 (M : Int) ∧ tt = .int .i64 (t : Int) ∧ Hid (DpS s t D M)) (fun _ _ tt => n - (intOf tt).toNat)
  case atStart => exact ⟨0, 0, 0, Nat.zero_le _, rfl, rfl, rfl, dpS0 s⟩
  case round =>
    obtain ⟨t, D, M, ht, rfl, rfl, rfl, hS⟩ := hrel
    obtain ⟨hDl, hMl⟩ := hS.out.le
    by_cases hin : t < n
    · have e1 : decide ((t : Int) < (n : Int)) = true := by simp; omega
      have htI : (t : Int) < (n : Int) := by omega
      obtain ⟨p, hp, hget, k1, k2, k3⟩ := hS.out.next (by rw [hn.out]; exact hin)
      obtain ⟨g, rfl, hcell⟩ := hcel'.out t p hget
      have hadd : (⟨g, 0, none⟩ : Addr).add t = ⟨g, t, none⟩ := by by_cases h : t = 0 <;> simp [Addr.add, h]
      have hpI : (p : Int) < (s.size : Int) := by omega
      obtain ⟨y, hy⟩ : ∃ y, byteAt s p = y := ⟨_, rfl⟩
      have hx : (s[p]'hp).toNat = y := by rw [← hy, ← lk_byteAt, lk_at s p hp]
      rw [hy] at k1 k2 k3
      have k1' := hid k1
      have k2' := hid k2
      have k3' := hid k3
      have hDI : (D : Int) ≤ 8388608 := by omega
      have hMI : (M : Int) ≤ 8388608 := by omega
      clear k1 k2 k3 hget hy hcel' hS
      by_cases h1 : y = 123 ∨ y = 91
      · have hk := hid (k1'.out h1)
        clear k1' k2' k3'
        rcases h1 with rfl | rfl
        · go_wp2
          go_round
          case rel => exact ⟨t + 1, D + 1, max M (D + 1), by omega, by simp, by congr 1; omega, by simp, hk⟩
          case measure => simp [intOf]; omega
        · go_wp2
          go_round
          case rel => exact ⟨t + 1, D + 1, max M (D + 1), by omega, by simp, by congr 1; omega, by simp, hk⟩
          case measure => simp [intOf]; omega
      · by_cases h2 : y = 125 ∨ y = 93
        · have hk := hid (k2'.out h2)
          clear k1' k2' k3' h1
          rcases h2 with rfl | rfl
          · go_wp2
            go_round
            case rel => exact ⟨t + 1, D - 1, M, by omega, by congr 1; omega, rfl, by simp, hk⟩
            case measure => simp [intOf]; omega
          · go_wp2
            go_round
            case rel => exact ⟨t + 1, D - 1, M, by omega, by congr 1; omega, rfl, by simp, hk⟩
            case measure => simp [intOf]; omega
        · have hk := hid (k3'.out h1 h2)
          have b1 : ((y : Int) == 123) = false := by simp; omega
          have b2 : ((y : Int) == 91) = false := by simp; omega
          have b3 : ((y : Int) == 125) = false := by simp; omega
          have b4 : ((y : Int) == 93) = false := by simp; omega
          clear k1' k2' k3' h1 h2
          go_wp2
          go_round
          case rel => exact ⟨t + 1, D, M, by omega, rfl, rfl, by simp, hk⟩
          case measure => simp [intOf]; omega
    · have e1 : decide ((t : Int) < (n : Int)) = false := by simp; omega
      obtain rfl : t = n := by omega
      have hM := hid (show M = maxD (depS s) s.size from DpS.done (D := D) (by rw [hn.out]; exact hS.out))
      clear hS hcel'
      go_wp2
      go_ret
      exact ⟨by rw [hM.out]; rfl, hb'.out⟩

set_option maxRecDepth 10000 in
set_option maxHeartbeats 1000000 in
theorem ck_calls (s : ByteArray) (hs : s.size ≤ 8388608) (d : Int) (hd : (Lit.int .i64 d).wf = true) (w : World) (_h16 : Ok16 w) :
    Calls Tryz.prog 11 #[.string s, .int .i64 d] w fun e w' => ChkP s d w e w' := by
  have B0 := hid (show Below w.heap.size w (w.alloc (.cells #[.int .i64 0, .int .i64 0] 33)) by repeat (first | with_reducible exact Below.refl _ _ | with_reducible refine Below.setCell ?_ (by first | (simp; done) | (simp; omega)) _ | with_reducible refine below_drewN ?_ _ | with_reducible refine Below.alloc ?_ (by first | (simp; done) | (simp; omega)) _ | with_reducible refine Below.drew ?_))
  have A0 := hid (At.new w #[.int .i64 0, .int .i64 0] 33)
  by_cases hr : d < 1 ∨ 1024 < d
  · have hI := hid (show IsChk s d 0 0 2 from .inl ⟨hr, rfl, rfl, rfl⟩)
    go_enter Tryz.func11, Tryz.ntmps11
    go_upto_region 1 with fail
    generalize w.alloc (.cells #[.int .i64 0, .int .i64 0] 33) = W at A0 B0 ⊢
    have c0 : W.cell? ⟨w.heap.size, 0, none⟩ = some (.int .i64 0) := A0.out.cell 0
    have c1 : W.cell? ⟨w.heap.size, 1, none⟩ = some (.int .i64 0) := A0.out.cell 1
    have f0 := A0.out.frozen 0
    have f1 := A0.out.frozen 1
    have B3 := hid ((B0.out.setCell (p := ⟨w.heap.size, 0, none⟩) (Nat.le_refl _) (.int .i64 0)).setCell (p := ⟨w.heap.size, 1, none⟩) (Nat.le_refl _) (.int .i64 0))
    have A3 := hid (A0.out.two_ver (x' := .int .i64 0) (y' := .int .i64 0))
    clear A0 B0
    rcases hr with hr | hr
    · have e1 : decide (d < 1) = true := by simp; omega
      go_wp2
      exact ret_ver rfl rfl A3.out rfl ⟨0, 0, 2, rfl, hI.out, B3.out⟩
    · have e0 : decide (d < 1) = false := by simp; omega
      have e1 : decide (1024 < d) = true := by simp; omega
      go_wp2
      exact ret_ver rfl rfl A3.out rfl ⟨0, 0, 2, rfl, hI.out, B3.out⟩
  · obtain ⟨k, rfl⟩ : ∃ k : Nat, d = (k : Int) := ⟨d.toNat, by omega⟩
    have h1 : 1 ≤ k := by omega
    have h2 : k ≤ 1024 := by omega
    have e0 : decide ((k : Int) < 1) = false := by simp; omega
    have e1 : decide (1024 < (k : Int)) = false := by simp; omega
    have hv := hid (fun u => verdict_calls s k hs u)
    clear hr hd
    go_enter Tryz.func11, Tryz.ntmps11
    go_upto_region 1 with fail
    generalize w.alloc (.cells #[.int .i64 0, .int .i64 0] 33) = W at A0 B0 ⊢
    go_wp2_with fail
    refine Calls.mono (hv.out _) ?_
    rintro e w2 ⟨C, A, rfl, hI, hb⟩
    have hI' := hid (ver_chk h1 h2 hI)
    have B2 := hid (B0.out.trans (hb.mono B0.out.size))
    have A2 := hid (A0.out.keptAll hb)
    clear hb hv A0 B0 hI
    have c0 : w2.cell? ⟨w.heap.size, 0, none⟩ = some (.int .i64 0) := A2.out.cell 0
    have c1 : w2.cell? ⟨w.heap.size, 1, none⟩ = some (.int .i64 0) := A2.out.cell 1
    have f0 := A2.out.frozen 0
    have f1 := A2.out.frozen 1
    have B3 := hid ((B2.out.setCell (p := ⟨w.heap.size, 0, none⟩) (Nat.le_refl _) (.int .i64 (C : Int))).setCell (p := ⟨w.heap.size, 1, none⟩) (Nat.le_refl _) (.int .i64 (A : Int)))
    have A3 := hid (A2.out.two_ver (x' := .int .i64 (C : Int)) (y' := .int .i64 (A : Int)))
    clear A2 B2
    go_wp2
    exact ret_ver rfl rfl A3.out rfl ⟨C, A, 0, rfl, hI'.out, B3.out⟩

set_option maxRecDepth 10000 in
set_option maxHeartbeats 1000000 in
theorem sc_calls (s : ByteArray) (hs : s.size ≤ 8388608) (C A : Nat) (E : Int) (hC : Hid (IsChk s 1024 C A E)) (B : Bool) (hB : Hid (B = decide (C = 1 ∧ maxD (depS s) s.size = 0))) (w : World) (_h16 : Ok16 w) :
    Calls Tryz.prog 12 #[.string s] w fun e w' => e = .returned (.bool B) ∧ Below w.heap.size w w' := by
  have hv := hid (fun u => verdict_calls s 0 hs u)
  go_enter Tryz.func12, Tryz.ntmps12
  go_wp2_with fail
  refine Calls.mono (hv.out _) ?_
  rintro e w2 ⟨C', A', rfl, hI, hb⟩
  have hb' := hid hb
  have hq := ver_scalar hI hC.out
  have hB' : B = ((C' : Int) == 1) := by
    rw [hB.out]
    by_cases h : C' = 1
    · rw [decide_eq_true (hq.1 h), h]; rfl
    · rw [decide_eq_false (fun x => h (hq.2 x))]
      symm
      simp
      omega
  subst hB'
  clear hv hb hI hq hB hC
  have hfl := field_ver0
  go_wp2
  go_ret
  exact ⟨rfl, hb'.out⟩

/-- What scalarEnd answers. -/
def SeP (n E : Int) (w : World) (e : Ending) (w' : World) : Prop := e = .returned (.tuple #[.int .i64 n, .int .i64 E]) ∧ Below w.heap.size w w'
set_option maxRecDepth 10000 in
set_option maxHeartbeats 2000000 in
theorem se_calls (s : ByteArray) (hs : s.size ≤ 8388608) (hd : Hid (docM (byts s))) (a : Nat) (ha : a ≤ s.size) (P : Nat → Prop) (w : World)
    (hsc : Hid (∀ (H b : Nat) (u : World), RdI H b s 0 a 0 (.slice none 0 0) [] u → Calls Tryz.prog 25 #[.pointer (some ⟨b, 0, none⟩)] u fun e w' => Got H b s 0 0 (.slice none 0 0) [] P u e w')) (n E : Int)
    (hP : Hid (∀ j, P j → ∀ k, IsSkip s j k → (byteAt s k = 58 → n = 0 ∧ E = 2) ∧ (byteAt s k ≠ 58 → n = (j : Int) ∧ E = 0))) :
    Calls Tryz.prog 16 #[.string s, .int .i64 (a : Int)] w fun e w' => SeP n E w e w' := by
  have B0 := hid (show Below w.heap.size w (w.alloc (.cells #[.string s, .int .i64 (a : Int), .slice none 0 0, .int .i64 0, .int .i64 0] 49)) by repeat (first | with_reducible exact Below.refl _ _ | with_reducible refine Below.setCell ?_ (by first | (simp; done) | (simp; omega)) _ | with_reducible refine below_drewN ?_ _ | with_reducible refine Below.alloc ?_ (by first | (simp; done) | (simp; omega)) _ | with_reducible refine Below.drew ?_))
  have hR := hid (show RdI (w.heap.size + 1) w.heap.size s 0 a 0 (.slice none 0 0) [] (w.alloc (.cells #[.string s, .int .i64 (a : Int), .slice none 0 0, .int .i64 0, .int .i64 0] 49)) from ⟨At.new w _ _, own_nil _ _, by omega, by rw [World.size_alloc]; exact Nat.le_refl _, ha⟩)
  go_enter Tryz.func16, Tryz.ntmps16
  go_upto_region 2 with fail
  generalize w.alloc (.cells #[.string s, .int .i64 (a : Int), .slice none 0 0, .int .i64 0, .int .i64 0] 49) = W at B0 hR ⊢
  have frb : ∀ w', Fr (w.heap.size + 1) w.heap.size W w' → Below w.heap.size w w' := fun w' hF =>
    ⟨hF.os.trans B0.out.os, hF.tape.trans B0.out.tape, hF.output.trans B0.out.output, Nat.le_trans B0.out.size hF.size, fun k hk => (hF.block k (by omega) (by omega)).trans (B0.out.block k hk)⟩
  have frb' := hid frb
  clear frb
  have hsv := hid (hsc.out _ _ _ hR.out)
  clear hsc hR
  go_wp2_with fail
  refine Calls.mono hsv.out ?_
  rintro e w1 (⟨j, rfl, hR1, hF1, hPj⟩ | ⟨k, rfl, hk, hF1⟩)
  · obtain ⟨k, hk⟩ : ∃ k, Hid (IsSkip s j k) := skip_ex s s.size j (by omega) hR1.li
    have hA := hid (hP.out j hPj k hk.out)
    have hbl := hid (blanks_calls _ _ s 0 j 0 _ [] w1 hR1 hs k hk)
    have c1 := hR1.c1
    have hF1' := hid hF1
    clear hsv hR1 hF1 hPj hP hk
    go_wp2_with fail
    refine Calls.mono hbl.out ?_
    rintro e w2 ⟨rfl, hR2, hF2⟩
    have hl := hid (lookR_calls _ _ s 0 k 0 _ [] w2 hR2 hs)
    have hR2' := hid hR2
    have hF2' := hid (hF1'.out.trans hF2)
    clear hbl hR2 hF2 hF1' c1
    by_cases h58 : byteAt s k = 58
    · rw [h58] at hl
      obtain ⟨rfl, rfl⟩ := hA.out.1 h58
      clear hA h58
      go_wp2_with fail
      refine Calls.mono hl.out ?_
      rintro e w3 ⟨rfl, hb⟩
      have hG := hid (frb'.out w3 (hF2'.out.trans (hR2'.out.fr hb)))
      clear hl hb hR2' hF2' frb'
      go_wp2
      refine bodyPost_ret (results_tmp2 rfl _ _ _) rfl ?_
      exact ⟨rfl, hG.out⟩
    · have e1 : ((byteAt s k : Int) == 58) = false := by simp; omega
      obtain ⟨rfl, rfl⟩ := hA.out.2 h58
      clear hA h58
      generalize byteAt s k = y at hl e1
      go_wp2_with fail
      refine Calls.mono hl.out ?_
      rintro e w3 ⟨rfl, hb⟩
      have hG := hid (frb'.out w3 (hF2'.out.trans (hR2'.out.fr hb)))
      clear hl hb hR2' hF2' frb'
      go_wp2
      refine bodyPost_ret (results_tmp2 rfl _ _ _) rfl ?_
      exact ⟨rfl, hG.out⟩
  · exact absurd hd.out (bad_doc hk)

/-- What Value goes by: what begins at the place. -/
def VlK (s : ByteArray) (a n E : Int) : Prop :=
  (kindN s a ≠ 123 ∧ kindN s a ≠ 91 ∧ kindN s a ≠ 34 ∧ kindN s a ≠ 119 ∧ n = 0 ∧ E = 2) ∨
  ((kindN s a = 123 ∨ kindN s a = 91) ∧ E = 0 ∧ ∀ c, IsCls s a c → n = c + 1) ∨
  ((kindN s a = 34 ∨ kindN s a = 119) ∧ ∃ k : Nat, a = (k : Int) ∧ k ≤ s.size ∧ ∀ w : World, Calls Tryz.prog 16 #[.string s, .int .i64 (k : Int)] w fun e w' => SeP n E w e w')
theorem kind_at {s : ByteArray} {k : Nat} (hk : k < s.size) : kindN s (k : Int) = if begS s k then (if wordS s k then 119 else byteAt s k) else 0 := by
  unfold kindN
  rw [if_pos (by omega), Int.toNat_natCast]
theorem vl_text {s : ByteArray} (hs : s.size ≤ 8388608) (hd : docM (byts s)) {k : Nat} (hk : k < s.size) (hb : begS s k = true) (hc : byteAt s k = 34) {B : Bool} (hB : IsBeg s k B) {n E : Int}
    (hn : (B = false ∧ n = 0 ∧ E = 2) ∨ (B = true ∧ IsEnd16 s k n ∧ E = 0)) (w : World) : Calls Tryz.prog 16 #[.string s, .int .i64 (k : Int)] w fun e w' => SeP n E w e w' := by
  obtain ⟨m, t⟩ := doc_tk hd (show k ≤ s.size by omega)
  obtain ⟨q1, q2, nm, m6, q3, -, q4, q5⟩ := doc_quote hd hb hc t
  refine se_calls s hs hd k (by omega) (TxP s k nm m.op) w (fun H b u hu => scalar_text H b s 0 k 0 (.slice none 0 0) [] m.op u hu hs nm m t q3 rfl hc) n E ?_
  intro j hP k2 hk2
  obtain ⟨e, rfl, e1, e2, e3, e4⟩ := txt_end q4 q5 hP
  have hBk : B = decide (byteAt s k2 ≠ 58) := by
    rcases hB with ⟨h, -⟩ | ⟨-, -, -, E', k', h1, h2, h3⟩ | ⟨-, h, -⟩
    · rw [hc] at h; exact absurd h (by decide)
    · have hE := end16_text hc e1 e2 e3 e4 h1
      have hE' : E' = e + 1 := by omega
      subst hE'
      have := skip_uniq h2 hk2
      subst this
      rw [h3]
      by_cases hz : k' = s.size
      · rw [decide_eq_true hz, byteAt_out s k' (by omega)]; rfl
      · rw [decide_eq_false hz]; rfl
    · rw [q1, q2] at h; cases h
  refine ⟨fun h58 => ?_, fun h58 => ?_⟩
  · rw [decide_eq_false (fun x => x h58)] at hBk
    rcases hn with ⟨-, h⟩ | ⟨h, -⟩
    · exact h
    · rw [hBk] at h; cases h
  · rw [decide_eq_true h58] at hBk
    rcases hn with ⟨h, -⟩ | ⟨-, h1, h2⟩
    · rw [hBk] at h; cases h
    · exact ⟨end16_text hc e1 e2 e3 e4 h1, h2⟩
theorem vl_kind {s : ByteArray} (hs : s.size ≤ 8388608) {a n E : Int} {A : Nat} {F : Int} (hC : IsChk s 1024 1 A F)
    (h : ((a < 0 ∨ (s.size : Int) ≤ a) ∧ n = 0 ∧ E = 2) ∨ ∃ k : Nat, a = (k : Int) ∧ k < s.size ∧ ((IsBeg s k false ∧ n = 0 ∧ E = 2) ∨ (IsBeg s k true ∧ IsEnd16 s k n ∧ E = 0))) : VlK s a n E := by
  have hd := chk_doc hC (.inl rfl)
  rcases h with ⟨h1, h2, h3⟩ | ⟨k, rfl, hk, h⟩
  · have : kindN s a = 0 := by unfold kindN; rw [if_neg (by omega)]
    exact .inl ⟨by omega, by omega, by omega, by omega, h2, h3⟩
  · have hka := kind_at hk
    rcases h with ⟨h1, h2, h3⟩ | ⟨h1, h2, h3⟩
    · cases hb : begS s k with
      | false =>
        rw [hb] at hka
        simp only [Bool.false_eq_true, if_false] at hka
        exact .inl ⟨by omega, by omega, by omega, by omega, h2, h3⟩
      | true =>
        rw [hb] at hka
        simp only [if_true] at hka
        obtain ⟨g1, -⟩ := index_not hd hk hb h1
        by_cases h34 : byteAt s k = 34
        · refine .inr (.inr ⟨?_, k, rfl, by omega, fun w => vl_text hs hd hk hb h34 h1 (.inl ⟨rfl, h2, h3⟩) w⟩)
          rw [hka]
          split
          · exact .inr rfl
          · exact .inl h34
        · have hsg : sgnB s k = true := (sgn_iff s k).2 (by omega)
          rw [word_no (.inr (.inr hsg))] at hka
          simp only [Bool.false_eq_true, if_false] at hka
          exact .inl ⟨by omega, by omega, by omega, by omega, h2, h3⟩
    · have hb := beg_index h1
      rw [hb] at hka
      simp only [if_true] at hka
      by_cases h34 : byteAt s k = 34
      · refine .inr (.inr ⟨?_, k, rfl, by omega, fun w => vl_text hs hd hk hb h34 h1 (.inr ⟨rfl, h2, h3⟩) w⟩)
        rw [hka]
        split
        · exact .inr rfl
        · exact .inl h34
      · by_cases hop : byteAt s k = 123 ∨ byteAt s k = 91
        · have hsg : sgnB s k = true := (sgn_iff s k).2 (by omega)
          rw [word_no (.inr (.inr hsg))] at hka
          simp only [Bool.false_eq_true, if_false] at hka
          refine .inr (.inl ⟨by omega, h3, fun c hc => ?_⟩)
          have hob : opB (byteAt s k) = true := by unfold opB; simp; omega
          rcases h2 with ⟨-, c', g1, g2⟩ | ⟨g, -⟩ | ⟨g, -⟩
          · rw [g2, hc.uniq g1]
          · rw [hob] at g; cases g
          · rw [hob] at g; cases g
        · have hob : opB (byteAt s k) = false := by unfold opB; simp; omega
          have hmk : markS s k = false := mark_not h34
          obtain ⟨m, t⟩ := doc_tk hd (show k ≤ s.size by omega)
          have hst := beg_state hd hk h1 t.2
          have hbc : blankN (byteAt s k) = false ∧ begC s k = true := by
            rcases h1 with ⟨-, g⟩ | ⟨-, g, -⟩ | ⟨g1, -, g2⟩
            · cases g
            · rw [hmk] at g; cases g
            · exact ⟨g1, g2.symm⟩
          obtain ⟨c1, c2, c3, c4, -⟩ := begC_parts hbc.2
          have hcl : byteAt s k ≠ 93 ∧ byteAt s k ≠ 125 := by
            unfold clB at c4
            simp at c4
            omega
          have hsg : sgnB s k = false := by
            cases h : sgnB s k with
            | false => rfl
            | true => have := (sgn_iff s k).1 h; omega
          have hwd : wordS s k = true := by
            unfold wordS
            rw [c1, hsg, blk_eq, hbc.1]
            rfl
          rw [hwd] at hka
          simp only [if_true] at hka
          have hV : Vw s k m := by
            rcases hst with h | h
            · exact .inl h
            · exact .inr ⟨h, hcl.1, hbc.1⟩
          obtain ⟨e, g1, g2⟩ : ∃ e : Nat, IsScan s (k + 1) e ∧ n = (e : Int) := by
            rcases h2 with ⟨g, -⟩ | ⟨-, g, -⟩ | ⟨-, -, e, g1, g2⟩
            · rw [hob] at g; cases g
            · exact absurd g h34
            · exact ⟨e, g1, g2⟩
          refine .inr (.inr ⟨.inr hka, k, rfl, by omega, fun w => se_calls s hs hd k (by omega) (ScW s k m.op) w (fun H b u hu => scalar_word H b s 0 k 0 (.slice none 0 0) [] m.op u hu hs m t hV rfl hbc.1 (by show byteAt s k ≠ 91; omega) (by show byteAt s k ≠ 123; omega) h34) n E ?_⟩)
          intro j hP k2 hk2
          obtain ⟨e1, e2⟩ := word_end hd hP g1
          exact ⟨fun h => absurd h (e2 k2 hk2), fun _ => ⟨by rw [g2, e1], h3⟩⟩
theorem cls_hi {s : ByteArray} {a c : Int} (hs : s.size ≤ 8388608) (h : IsCls s a c) : -1 ≤ c ∧ c ≤ 8388609 := by
  have := cls_le h
  omega
set_option maxRecDepth 10000 in
set_option maxHeartbeats 2000000 in
theorem vl_calls (s : ByteArray) (hs : s.size ≤ 8388608) (a : Int) (ha : (Lit.int .i64 a).wf = true) (n E : Int) (hV : Hid (IsVal s a n E)) (w : World) (h16 : Ok16 w) :
    Calls Tryz.prog 8 #[.string s, .int .i64 a] w fun e w' => e = .returned (.tuple #[.int .i64 n, .int .i64 E]) ∧ Below w.heap.size w w' := by
  obtain ⟨C, A, F, hC, hcase⟩ := hV.out
  have hv := hid (verdict_calls s 1024 hs w)
  have h16' := hid h16
  have hfl := field_ver0
  have hcase' := hid hcase
  have hC' := hid hC
  have ha' := hid ha
  clear hV hcase hC h16 ha
  go_enter Tryz.func8, Tryz.ntmps8
  go_wp2_with fail
  refine Calls.mono hv.out ?_
  rintro e w1 ⟨C1, A1, rfl, hI, hb⟩
  obtain ⟨hCC, -, -⟩ := (ver_chk (by decide) (by decide) hI).uniq hC'.out
  subst hCC
  have B1 := hid hb
  have O1 := hid (h16'.out.below hb)
  clear hv hb hI h16'
  rcases hcase'.out with ⟨h1, rfl, rfl⟩ | ⟨rfl, hcs⟩
  · have e1 : ((C1 : Int) != 1) = true := by simp; omega
    have e2 : ¬ (C1 : Int) = 1 := by omega
    clear hcase' h1
    go_wp2
    refine bodyPost_ret (results_tmp2 rfl _ _ _) rfl ?_
    exact ⟨rfl, B1.out⟩
  · have hK := hid (vl_kind hs hC'.out hcs)
    obtain ⟨K, hKK⟩ : ∃ K, Hid (kindN s a = K) := ⟨_, rfl⟩
    have hkd := hid (kind8_calls s (by omega) a ha'.out K hKK w1 O1.out.1 O1.out.2.1 O1.out.2.2)
    clear hcase' hC' hcs
    go_wp2_with fail
    refine Calls.mono hkd.out ?_
    rintro e w2 ⟨rfl, hb⟩
    have B2 := hid (B1.out.trans (hb.mono B1.out.size))
    have O2 := hid (O1.out.below hb)
    clear hkd hb B1 O1
    rcases hK.out with ⟨k1, k2, k3, k4, rfl, rfl⟩ | ⟨k1, rfl, k2⟩ | ⟨k1, k, rfl, -, k2⟩
    · rw [hKK.out] at k1 k2 k3 k4
      have e1 : ((K : Int) == 123) = false := by simp; omega
      have e2 : ((K : Int) == 91) = false := by simp; omega
      have e3 : ((K : Int) == 34) = false := by simp; omega
      have e4 : ((K : Int) == 119) = false := by simp; omega
      clear hK k1 k2 k3 k4 hKK
      go_wp2
      refine bodyPost_ret (results_tmp2 rfl _ _ _) rfl ?_
      exact ⟨rfl, B2.out⟩
    · rw [hKK.out] at k1
      have hcl := hid (close_calls s (by omega) a ha'.out w2 O2.out.1 O2.out.2.1 O2.out.2.2)
      have k2' := hid k2
      clear hK k2 hKK
      rcases k1 with rfl | rfl
      · go_wp2_with fail
        refine Calls.mono hcl.out ?_
        rintro e w3 ⟨c, rfl, hc, hb⟩
        obtain ⟨z1, z2⟩ := cls_hi hs hc
        have hn := k2'.out c hc
        subst hn
        have B3 := hid (B2.out.trans (hb.mono B2.out.size))
        clear hcl hb hc B2
        go_wp2
        refine bodyPost_ret (results_tmp2 rfl _ _ _) rfl ?_
        exact ⟨rfl, B3.out⟩
      · go_wp2_with fail
        refine Calls.mono hcl.out ?_
        rintro e w3 ⟨c, rfl, hc, hb⟩
        obtain ⟨z1, z2⟩ := cls_hi hs hc
        have hn := k2'.out c hc
        subst hn
        have B3 := hid (B2.out.trans (hb.mono B2.out.size))
        clear hcl hb hc B2
        go_wp2
        refine bodyPost_ret (results_tmp2 rfl _ _ _) rfl ?_
        exact ⟨rfl, B3.out⟩
    · rw [hKK.out] at k1
      have hse := hid (k2 w2)
      clear hK k2 hKK
      rcases k1 with rfl | rfl
      · go_wp2_with fail
        refine Calls.mono hse.out ?_
        rintro e w3 ⟨rfl, hb⟩
        have B3 := hid (B2.out.trans (hb.mono B2.out.size))
        clear hse hb B2
        go_wp2
        refine bodyPost_ret (results_tmp2 rfl _ _ _) rfl ?_
        exact ⟨rfl, B3.out⟩
      · go_wp2_with fail
        refine Calls.mono hse.out ?_
        rintro e w3 ⟨rfl, hb⟩
        have B3 := hid (B2.out.trans (hb.mono B2.out.size))
        clear hse hb B2
        go_wp2
        refine bodyPost_ret (results_tmp2 rfl _ _ _) rfl ?_
        exact ⟨rfl, B3.out⟩
end Go.Proofs.YtlckhiflhnlgpabGreatDoor
