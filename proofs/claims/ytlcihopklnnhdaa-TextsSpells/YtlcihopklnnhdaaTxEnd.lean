/-
  Where what stands between quotes ends; what Escape writes.
-/
import Derived.Test.YtlcihopklnnhdaaRefTx5
import Derived.Test.YtlcihopklnnhdaaTxJoin
namespace Go.Proofs.Ytlcihopklnnhdaa
open Go.RowKit Go.Shelf

theorem bAt_get (t : ByteArray) (i : Nat) (h : i < t.size) : (byts t)[i]? = some (bAt t i) := by
  rw [bAt_lb]
  unfold lb
  rw [List.getD_eq_getElem?_getD]
  have : i < (byts t).length := by rw [byts_length]; exact h
  rw [List.getElem?_eq_getElem this]
  rfl
theorem slash_b (t : ByteArray) (i : Nat) : slash t i = decide (bAt t i = 92) := rfl
theorem esc_esL (t : ByteArray) : ∀ i, i ≤ t.size → escG (slash t) false i = esL false ((byts t).take i) := by
  intro i
  induction i with
  | zero => intro _; rfl
  | succ i ih =>
    intro h
    rw [escG_succ, ih (by omega), List.take_add_one, bAt_get t i (by omega), esL_append, slash_b]
    rfl
/-- A right one ends where a quote stands behind it. -/
theorem end_right {t : ByteArray} {a b : List Nat} {o : List Nat} (ht : byts t = a ++ 34 :: b) (ha : ∀ x ∈ a, x < 256) (ho : unescL a = some o) : IsEnd t 0 (a.length : Nat) 0 := by
  obtain ⟨h1, h2⟩ := unesc_quote a.length a (Nat.le_refl _) ha o ho
  have hsz : t.size = a.length + (b.length + 1) := by rw [← byts_length, ht]; simp
  have hex : t.extract 0 t.size = t := by
    apply byts_inj
    rw [(byts_from t 0).1, List.drop_zero]
  have hat : ∀ j, j < t.size → (byts t)[j]? = some (bAt t j) := fun j hj => bAt_get t j hj
  refine .inr ⟨0, rfl, Nat.zero_le _, .inl ⟨a.length, by omega, ?_, ?_, ?_, by simp, rfl⟩⟩
  · have h := hat a.length (by omega)
    rw [ht, List.getElem?_append_right (Nat.le_refl _), Nat.sub_self] at h
    rw [Nat.zero_add]
    exact (Option.some.inj h).symm
  · rw [hex, esc_esL t _ (by omega), ht, List.take_left]
    exact h2
  · intro j hj
    rw [hex, esc_esL t _ (by omega), Nat.zero_add]
    have h := hat j (by omega)
    have e : (byts t).take j = a.take j := by
      rw [ht, List.take_append_of_le_length (by omega)]
    rw [e]
    refine noQ_at h1 ?_
    rw [← h, ht, List.getElem?_append_left hj]
theorem oneL_32 (c : Nat) : ∀ x ∈ oneL c, 32 ≤ x := by
  unfold oneL
  repeat' split
  all_goals intro x hx; simp at hx
  all_goals first
    | omega
    | (rcases hx with rfl | rfl | rfl | rfl | rfl | rfl <;> first | omega | (unfold hexC; split <;> omega))
theorem flat_len {l : List Nat} (h : ∀ x ∈ l, x < 256) : (l.flatMap oneL).length ≤ 6 * l.length := by
  induction l with
  | nil => simp
  | cons x l ih =>
    rw [List.flatMap_cons, List.length_append, List.length_cons]
    have h1 := (oneL_lt (h x (by simp))).2.2
    have h2 := ih (fun y hy => h y (by simp [hy]))
    omega
theorem bad_ok {s : ByteArray} (h : ¬ 0 ≤ badOf s) : okU (byts s) := by
  rw [← bad_iff]
  rcases bad_neg (byts s) with h1 | h1
  · exact h1
  · exact absurd h1 h
theorem ok_bad {s : ByteArray} (h : okU (byts s)) : badOf s = -1 := (bad_iff _).2 h
/-- What Escape writes of a text: right, nothing below 32, it means the text, and it ends where a quote stands behind it. -/
theorem back_facts (s : ByteArray) (hs : s.size ≤ 1048576) (h : ¬ 0 ≤ badOf s) : ∃ r : ByteArray, wrS s = (r, 0) ∧ r.size ≤ 6291456 ∧ unS r = (s, 0) ∧ (∀ i, i < r.size → 32 ≤ bAt r i) ∧ ∀ b : ByteArray, IsEnd ((r ++ ⟨#[34]⟩) ++ b) 0 (r.size : Nat) 0 := by
  have hl : ∀ x ∈ (byts s).flatMap oneL, x < 256 := by
    intro x hx
    obtain ⟨c, hc, hx⟩ := List.mem_flatMap.1 hx
    exact (oneL_lt (byts_lt s c hc)).1 x hx
  have hb : byts (mkS ((byts s).flatMap oneL)) = (byts s).flatMap oneL := byts_mkS hl
  have hu : unescL ((byts s).flatMap oneL) = some (byts s) := unesc_esc (byts_lt s)
  refine ⟨mkS ((byts s).flatMap oneL), by unfold wrS; rw [if_neg h], ?_, ?_, ?_, ?_⟩
  · rw [mkS_size]
    have := flat_len (byts_lt s)
    rw [byts_length] at this
    omega
  · unfold unS
    rw [ok_bad (by rw [hb]; exact esc_ok (bad_ok h)), if_neg (by decide), hb, hu]
    show (mkS (byts s), (0 : Int)) = _
    rw [mkS_byts]
  · intro i hi
    have h1 := bAt_get _ i hi
    rw [hb] at h1
    obtain ⟨c, _, hx⟩ := List.mem_flatMap.1 (List.mem_of_getElem? h1)
    exact oneL_32 c _ hx
  · intro b
    have := end_right (t := (mkS ((byts s).flatMap oneL) ++ ⟨#[34]⟩) ++ b) (a := (byts s).flatMap oneL) (b := byts b) (by
      rw [byts_append, byts_append, hb, List.append_assoc]
      rfl) hl hu
    rw [mkS_size]
    exact this
end Go.Proofs.Ytlcihopklnnhdaa
