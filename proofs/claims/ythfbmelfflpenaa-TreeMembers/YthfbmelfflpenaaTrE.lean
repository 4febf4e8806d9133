/-
  quarryref17.First: the place of the first member of a name.
-/
import Derived.Test.YthfbmelfflpenaaTrAA
namespace Go.Proofs.Ythfbmelfflpenaa
open Go.RowKit Go.Shelf

/-- The first place of a name among names; -1: there is none. -/
def IsFst (ks : List ByteArray) (nm : ByteArray) (f : Int) : Prop := (f = -1 ∧ ∀ j : Nat, ks[j]? ≠ some nm) ∨ ∃ i : Nat, f = (i : Int) ∧ ks[i]? = some nm ∧ ∀ j, j < i → ks[j]? ≠ some nm
theorem IsFst.uniq {ks : List ByteArray} {nm : ByteArray} {f g : Int} (h : IsFst ks nm f) (h' : IsFst ks nm g) : f = g := by
  rcases h with ⟨rfl, h⟩ | ⟨i, rfl, h1, h2⟩ <;> rcases h' with ⟨rfl, h'⟩ | ⟨i', rfl, h1', h2'⟩
  · rfl
  · exact absurd h1' (h i')
  · exact absurd h1 (h' i)
  · by_cases hlt : i < i'
    · exact absurd h1 (h2' i hlt)
    · by_cases hgt : i' < i
      · exact absurd h1' (h2 i' hgt)
      · have : i = i' := by omega
        rw [this]

set_option maxRecDepth 10000 in
set_option maxHeartbeats 4000000 in
theorem first17_calls (t : Vt) (nm : ByteArray) (va : Value) (w : World) (ha : ValAt w t va) :
    Calls Try.prog 12 #[va, .string nm] w fun e w' => ∃ f : Int, e = .returned (.int .i64 f) ∧ IsFst t.keys nm f ∧ Below w.heap.size w w' := by
  cases ha with
  | mk k b r t ks vs ko kc vo vc X hw hz hk hr hv =>
  show Calls _ _ _ _ fun e w' => ∃ f : Int, e = .returned (.int .i64 f) ∧ IsFst ks nm f ∧ Below w.heap.size w w'
  have hk1 := hid hk
  have hz1 := hid hz
  obtain ⟨N, hN⟩ : ∃ N, Hid (ks.length = N) := ⟨_, rfl⟩
  obtain ⟨M, hM⟩ : ∃ M, Hid (vs.length = M) := ⟨_, rfl⟩
  rw [hN.out, hM.out]
  have hNi : (N : Int) ≤ 9223372036854775807 := by have := hz1.out.2.2.1; rw [hN.out] at this; unfold capT at this; omega
  clear hk hr hv hz hw
  have A1 : Hid (At (w.alloc (.cells #[.int .i64 k, .bool b, .string r, .string t, .slice ko N kc, .slice vo M vc] 25)) w.heap.size #[.int .i64 k, .bool b, .string r, .string t, .slice ko N kc, .slice vo M vc] 25) := At.new w _ _
  have B1 : Hid (Below w.heap.size w (w.alloc (.cells #[.int .i64 k, .bool b, .string r, .string t, .slice ko N kc, .slice vo M vc] 25))) := (Below.refl _ w).alloc (Nat.le_refl _) _
  go_enter Try.func12, Try.ntmps12
  go_wp2
  go_loopw [5] (fun ii wr => ∃ i : Nat, i ≤ N ∧ ii = .int .i64 (i : Int) ∧ Hid (∀ j, j < i → ks[j]? ≠ some nm) ∧ Hid (At wr w.heap.size #[.int .i64 k, .bool b, .string r, .string t, .slice ko N kc, .slice vo M vc] 25) ∧ Hid (Below w.heap.size w wr)) (fun ii _ => N - (intOf ii).toNat)
  case atStart => exact ⟨0, Nat.zero_le _, rfl, hid (fun j hj => by omega), A1, B1⟩
  case round =>
    obtain ⟨i, hi, rfl, hsm, hA, hb⟩ := hrel
    have c4 := hA.out.cell 4
    simp only [List.getElem?_toArray, List.getElem?_cons_zero, List.getElem?_cons_succ] at c4
    by_cases hlt : i < N
    · have hii : (i : Int) < (N : Int) := by omega
      obtain ⟨p, hp⟩ : ∃ p, Hid (ks[i]? = some p) := ⟨_, List.getElem?_eq_getElem (by rw [hN.out]; exact hlt)⟩
      obtain ⟨-, g, o, rfl, hg, cg⟩ := hk1.out i p hp.out
      have s1 := (hb.out.cell (p := ⟨g, o + i, none⟩) hg).trans cg
      have ad1 : (⟨g, o, none⟩ : Addr).add i = ⟨g, o + i, none⟩ := by by_cases h : i = 0 <;> simp [Addr.add, h]
      clear cg
      by_cases hpq : p = nm
      · subst hpq
        have ep2 : (p.toList == p.toList) = true := by simp
        go_wp2
        go_ret
        exact ⟨(i : Int), rfl, .inr ⟨i, rfl, hp.out, hsm.out⟩, hb.out⟩
      · have ep2 : (p.toList != nm.toList) = true := by rw [text_beq, decide_eq_false hpq]; rfl
        have ep3 : (p.toList == nm.toList) = false := by rw [bne] at ep2; simpa using ep2
        go_wp2
        go_roundw
        case rel => exact ⟨i + 1, by omega, by simp, hid (fun j hj => by
          by_cases e : j = i
          · subst e; rw [hp.out]; intro e; injection e with e; exact hpq e
          · exact hsm.out j (by omega)), hA, hb⟩
        case measure => simp [intOf]; omega
    · obtain rfl : i = N := by omega
      go_wp2
      go_ret
      refine ⟨-1, rfl, .inl ⟨rfl, fun j => ?_⟩, hb.out⟩
      by_cases hj : j < i
      · exact hsm.out j hj
      · rw [List.getElem?_eq_none (by rw [hN.out]; omega)]
        simp
end Go.Proofs.Ythfbmelfflpenaa
