/-
  The document's pattern: what it has; find, Guess.
-/
import Derived.Test.YtiggfigjibggaaaHpX
namespace Go.Proofs.Ytiggfigjibggaaa
open Go.RowKit Go.Shelf Go.Maps

/-- The document's pattern in memory: a list of entries. -/
def RfM (w : World) (qb : Nat) (S : Nat → Prop) (room : Nat) (L : List Ent) : Prop := ∃ v, At w qb #[.int .i64 (room : Int), v] 50 ∧ w.ownsRow 0 25 4 v L.length ((L.map lrOf).flatMap lrL) ∧ S qb ∧ ∀ g, v.ownBlock = some g → S g
theorem RfM.kept {w w' : World} {qb room : Nat} {S : Nat → Prop} {L : List Ent} (h : RfM w qb S room L) (hk : ∀ q, S q → q < w.heap.size → w'.heap[q]? = w.heap[q]?) : RfM w' qb S room L := by
  obtain ⟨v, h1, h2, h3, h4⟩ := h
  exact ⟨v, (hk qb h3 h1.lt).trans h1, own_onP h2 (fun g hg _ hl => hk g (h4 g hg) hl), h3, h4⟩
theorem RfM.keptB {w w' : World} {qb room : Nat} {S : Nat → Prop} {L : List Ent} (h : RfM w qb S room L) (hb : Below w.heap.size w w') : RfM w' qb S room L := h.kept (fun q _ hl => hb.block q hl)
theorem RfM.mono {w : World} {qb room : Nat} {S S' : Nat → Prop} {L : List Ent} (h : RfM w qb S room L) (hS : ∀ q, q < w.heap.size → S q → S' q) : RfM w qb S' room L := by
  obtain ⟨v, h1, h2, h3, h4⟩ := h
  exact ⟨v, h1, h2, hS _ h1.lt h3, fun g hg => hS _ (h2.lt g hg).2 (h4 g hg)⟩
theorem flat_lrR {l : List Ent} {j : Nat} {x : Ent} (h : l[j]? = some x) (k : Nat) (hk : k < 4) : ((l.map lrOf).flatMap lrL)[j * 4 + k]? = (lrL (lrOf x))[k]? := by
  induction l generalizing j with
  | nil => simp at h
  | cons y l ih =>
    rw [List.map_cons, List.flatMap_cons]
    cases j with
    | zero =>
      simp at h
      subst h
      rw [List.getElem?_append_left (by simp [lrL]; omega)]
      simp
    | succ j =>
      rw [List.getElem?_append_right (by simp [lrL]; omega)]
      have e : (j + 1) * 4 + k - (lrL (lrOf y)).length = j * 4 + k := by simp [lrL]; omega
      rw [e]
      exact ih (by simpa using h)
/-- Where an entry lies. -/
theorem rows_at {w : World} {B N : Nat} {v : Value} {L : List Ent} (h : w.ownsRow B 25 4 v N ((L.map lrOf).flatMap lrL)) {j : Nat} {x : Ent} (hj : L[j]? = some x) (hN : L.length = N) : ∃ g c, v = .slice (some ⟨g, 0, none⟩) N c ∧ g < w.heap.size ∧ w.rangeAt g (j * 4) [.string x.r, .string x.n, .int .i64 (x.p : Int), .int .i64 (x.h : Int)] := by
  obtain ⟨g, cp, e⟩ := own_someP h (by have := (List.getElem?_eq_some_iff.1 hj).1; omega)
  refine ⟨g, cp, e, (h.lt g (by rw [e]; rfl)).2, fun k y hk => ?_⟩
  have hk4 : k < 4 := by
    have := (List.getElem?_eq_some_iff.1 hk).1
    simpa using this
  have h2 := h.cells (g := g) (by rw [e]; rfl) (j * 4 + k) y (by rw [flat_lrR hj k hk4]; exact hk)
  have e2 : (⟨g, 0, none⟩ : Addr).add (j * 4 + k) = ⟨g, j * 4 + k, none⟩ := by rw [Addr.add_mid, Nat.zero_add]
  rw [e2] at h2
  exact h2
theorem split_at {α : Type} {L : List α} {i : Nat} {x : α} (h : L[i]? = some x) : L = L.take i ++ x :: L.drop (i + 1) := by
  obtain ⟨h1, h2⟩ := List.getElem?_eq_some_iff.1 h
  conv => lhs; rw [← List.take_append_drop i L, List.drop_eq_getElem_cons h1, h2]
/-- What find tells. -/
def FndP (L : List Ent) (r n : ByteArray) (k : Int) : Prop := (k = -1 ∧ ∀ e ∈ L, ¬ (e.r = r ∧ e.n = n)) ∨ ∃ A e B, L = A ++ e :: B ∧ k = (A.length : Int) ∧ (e.r = r ∧ e.n = n) ∧ ∀ z ∈ A, ¬ (z.r = r ∧ z.n = n)
theorem fnd_uniq {L : List Ent} {r n : ByteArray} {k j : Int} (h : FndP L r n k) (h' : FndP L r n j) : k = j := by
  rcases h with ⟨rfl, h⟩ | ⟨A, e, B, hL, rfl, he, hA⟩
  · rcases h' with ⟨rfl, -⟩ | ⟨A', e', B', rfl, rfl, he', -⟩
    · rfl
    · exact absurd he' (h e' (by simp))
  · rcases h' with ⟨rfl, h'⟩ | ⟨A', e', B', hL', rfl, he', hA'⟩
    · exact absurd he (h' e (by rw [hL]; simp))
    · have x1 : L[A.length]? = some e := by rw [hL]; simp
      have x2 : L[A'.length]? = some e' := by rw [hL']; simp
      rcases Nat.lt_trichotomy A.length A'.length with h | h | h
      · rw [hL', List.getElem?_append_left h] at x1
        exact absurd he (hA' e (List.mem_of_getElem? x1))
      · rw [h]
      · rw [hL, List.getElem?_append_left h] at x2
        exact absurd he' (hA e' (List.mem_of_getElem? x2))
theorem fnd_ex (L : List Ent) (r n : ByteArray) : ∃ k, FndP L r n k := by
  induction L with
  | nil => exact ⟨-1, .inl ⟨rfl, fun e he => by simp at he⟩⟩
  | cons x L ih =>
    by_cases hx : x.r = r ∧ x.n = n
    · exact ⟨0, .inr ⟨[], x, L, rfl, rfl, hx, fun z hz => by simp at hz⟩⟩
    · obtain ⟨k, ⟨rfl, h⟩ | ⟨A, e, B, rfl, rfl, he, hA⟩⟩ := ih
      · exact ⟨-1, .inl ⟨rfl, fun e he => by
          rcases List.mem_cons.1 he with rfl | he
          · exact hx
          · exact h e he⟩⟩
      · exact ⟨((A.length + 1 : Nat) : Int), .inr ⟨x :: A, e, B, rfl, by simp, he, fun z hz => by
          rcases List.mem_cons.1 hz with rfl | hz
          · exact hx
          · exact hA z hz⟩⟩
set_option maxRecDepth 10000 in
set_option maxHeartbeats 8000000 in
theorem find25_calls0 (L : List Ent) (N : Nat) (hN : Hid (L.length = N)) (hN2 : N ≤ 4096) (v : Value) (r n : ByteArray) (w : World) (hv : Hid (w.ownsRow 0 25 4 v N ((L.map lrOf).flatMap lrL))) :
    Calls Try.prog 51 #[v, .string r, .string n] w fun e w' => (∃ k, e = .returned (.int .i64 k) ∧ Hid (FndP L r n k)) ∧ w' = w := by
  obtain ⟨so, cp, rfl⟩ := own_shapeP hv.out
  go_enter Try.func51, Try.ntmps51
  go_wp2
  go_loopw [7] (fun ii wr => ∃ i : Nat, i ≤ N ∧ ii = .int .i64 (i : Int) ∧ Hid (∀ e ∈ L.take i, ¬ (e.r = r ∧ e.n = n)) ∧ Hid (wr = w)) (fun ii _ => N - (intOf ii).toNat)
  case atStart => exact ⟨0, Nat.zero_le _, rfl, hid (fun e he => by simp at he), hid rfl⟩
  case round =>
    obtain ⟨i, hi, rfl, hno, hW⟩ := hrel
    have hv := hid (show wr.ownsRow 0 25 4 (.slice so N cp) N ((L.map lrOf).flatMap lrL) by rw [hW.out]; exact hv.out)
    by_cases hlt : i < N
    · have hlti : (i : Int) < (N : Int) := by omega
      have hi' := hid (show i + 1 ≤ N by omega)
      have hN4 : (N : Int) ≤ 4096 := by omega
      obtain ⟨x, hx⟩ : ∃ x, Hid (L[i]? = some x) := ⟨L[i]'(by rw [hN.out]; exact hlt), List.getElem?_eq_getElem _⟩
      obtain ⟨g, c, e, hg, hrg⟩ := rows_at hv.out hx.out hN.out
      cases e
      have hr0 := hrg 0 _ rfl
      have hr1 := hrg 1 _ rfl
      rw [Nat.add_zero] at hr0
      have htk : Hid (L.take (i + 1) = L.take i ++ [x]) := by show _ = _; rw [List.take_add_one, hx.out]; rfl
      have ad : (⟨g, 0, none⟩ : Addr).add (i * 4) = ⟨g, i * 4, none⟩ := by by_cases h : i * 4 = 0 <;> simp [Addr.add, h]
      obtain ⟨xr, xn, xp, xh, xa⟩ := x
      dsimp only at *
      clear hrg
      by_cases h1 : xr = r
      · by_cases h2 : xn = n
        · subst h1 h2
          have hfd := hid (show FndP L xr xn (i : Int) from .inr ⟨L.take i, _, L.drop (i + 1), split_at hx.out, by rw [List.length_take, hN.out, Nat.min_eq_left (by omega)], ⟨rfl, rfl⟩, hno.out⟩)
          go_wp2
          go_ret
          exact ⟨⟨_, rfl, hfd⟩, hW.out⟩
        · have f2 : (xn.toList == n.toList) = false := by simpa using toList_ne h2
          subst h1
          have hno2 := hid (show ∀ e ∈ L.take (i + 1), ¬ (e.r = xr ∧ e.n = n) from fun e he => by
            rw [htk.out] at he
            rcases List.mem_append.1 he with he | he
            · exact hno.out e he
            · simp at he
              subst he
              exact fun h => h2 h.2)
          go_wp2
          go_roundw
          case rel => exact ⟨i + 1, hi'.out, by simp, hno2, hW⟩
          case measure => simp [intOf]; have := hi'.out; omega
      · have f1 : (xr.toList == r.toList) = false := by simpa using toList_ne h1
        have hno2 := hid (show ∀ e ∈ L.take (i + 1), ¬ (e.r = r ∧ e.n = n) from fun e he => by
          rw [htk.out] at he
          rcases List.mem_append.1 he with he | he
          · exact hno.out e he
          · simp at he
            subst he
            exact fun h => h1 h.1)
        go_wp2
        go_roundw
        case rel => exact ⟨i + 1, hi'.out, by simp, hno2, hW⟩
        case measure => simp [intOf]; have := hi'.out; omega
    · obtain rfl : i = N := by omega
      have hfd := hid (show FndP L r n (-1) from .inl ⟨rfl, by
        have := hno.out
        rw [List.take_of_length_le (by rw [hN.out]; exact Nat.le_refl _)] at this
        exact this⟩)
      go_wp2
      go_ret
      exact ⟨⟨_, rfl, hfd⟩, hW.out⟩
theorem find25_calls (L : List Ent) (N : Nat) (hN : L.length = N) (hN2 : N ≤ 4096) (v : Value) (r n : ByteArray) {k : Int} (hk : FndP L r n k) (w : World) (hv : w.ownsRow 0 25 4 v N ((L.map lrOf).flatMap lrL)) :
    Calls Try.prog 51 #[v, .string r, .string n] w fun e w' => e = .returned (.int .i64 k) ∧ w' = w :=
  (find25_calls0 L N (hid hN) hN2 v r n w (hid hv)).mono fun e w' ⟨⟨j, h1, h2⟩, h3⟩ => ⟨by rw [h1, fnd_uniq h2.out hk], h3⟩
set_option maxRecDepth 10000 in
set_option maxHeartbeats 8000000 in
/-- Guess of the document's. -/
theorem guessR25_calls (qb : Nat) (S : Nat → Prop) (room : Nat) (L : List Ent) (hL : L.length ≤ 4096) (r n : ByteArray) (w : World) (hP : Hid (RfM w qb S room L)) :
    Calls Try.prog 38 #[ptB qb, .string r, .string n] w fun e w' => (((∀ e ∈ L, ¬ (e.r = r ∧ e.n = n)) ∧ e = .returned (.tuple #[.int .i64 0, .bool false])) ∨ ∃ x ∈ L, (x.r = r ∧ x.n = n) ∧ e = .returned (.tuple #[.int .i64 (x.p : Int), .bool true])) ∧ w' = w := by
  obtain ⟨v, h1, h2, -, -⟩ := hP.out
  obtain ⟨N, hN⟩ : ∃ N, Hid (L.length = N) := ⟨_, rfl⟩
  have hNn : N ≤ 4096 := by rw [← hN.out]; exact hL
  have c1 := h1.cell 1
  simp only [List.getElem?_toArray, List.getElem?_cons_succ, List.getElem?_cons_zero] at c1
  rw [hN.out] at h2
  have h2 := hid h2
  obtain ⟨k, hk⟩ := fnd_ex L r n
  have hfd := hid (find25_calls L N hN.out hNn v r n hk w h2.out)
  clear h1
  rcases hk with ⟨rfl, hno⟩ | ⟨A, x, B, hLe, rfl, hkey, -⟩
  · have hno := hid hno
    go_enter Try.func38, Try.ntmps38
    go_wp2_with fail
    refine Calls.mono hfd.out ?_
    rintro e w1 ⟨rfl, rfl⟩
    clear hfd
    go_wp2
    go_ret2
    exact ⟨.inl ⟨hno.out, rfl⟩, rfl⟩
  · have hx : L[A.length]? = some x := by rw [hLe]; simp
    have hmem := hid (List.mem_of_getElem? hx)
    have hkey := hid hkey
    obtain ⟨g, c, rfl, hg, hrg⟩ := rows_at h2.out hx hN.out
    have hr2 := hrg 2 _ rfl
    have hAl : A.length < N := by have := (List.getElem?_eq_some_iff.1 hx).1; have := hN.out; omega
    have hAi : (A.length : Int) < (N : Int) := by omega
    have hN4 : (N : Int) ≤ 4096 := by omega
    obtain ⟨i, hi⟩ : ∃ i, A.length = i := ⟨_, rfl⟩
    rw [hi] at hAl hAi hr2 hfd
    have ad : (⟨g, 0, none⟩ : Addr).add (i * 4) = ⟨g, i * 4, none⟩ := by by_cases h : i * 4 = 0 <;> simp [Addr.add, h]
    have hi0 : ¬ (i : Int) < 0 := by omega
    clear hx hrg hLe hi hg
    go_enter Try.func38, Try.ntmps38
    go_wp2_with fail
    refine Calls.mono hfd.out ?_
    rintro e w1 ⟨rfl, rfl⟩
    clear hfd
    go_wp2
    go_ret2
    exact ⟨.inr ⟨x, hmem.out, hkey.out, rfl⟩, rfl⟩
end Go.Proofs.Ytiggfigjibggaaa
