/-
  Of no program: a text between two brackets; how deep its places lie (for LevelsWrapped).
-/
import Derived.Test.YthhgojdnpkcaaaaDoorLvC
namespace Go.Proofs.YthhgojdnpkcaaaaDoor

def brk1 : ByteArray := ⟨#[91]⟩
def brk2 : ByteArray := ⟨#[93]⟩
/-- The text between two brackets. -/
def wrpS (s : ByteArray) : ByteArray := (brk1 ++ s) ++ brk2
theorem brk1_size : brk1.size = 1 := rfl
theorem brk2_size : brk2.size = 1 := rfl
theorem wrp_size (s : ByteArray) : (wrpS s).size = s.size + 2 := by
  unfold wrpS
  rw [size_join8, size_join8, brk1_size, brk2_size]
  omega
theorem wrp_pre (s : ByteArray) : (brk1 ++ s).size = s.size + 1 := by rw [size_join8, brk1_size]; omega
theorem brk1_behind : behindS brk1 false = false := by decide +kernel
theorem brk1_open : openS brk1 = false := by decide +kernel
theorem wrp_out (s : ByteArray) (i : Nat) (h : i < s.size) : outS (wrpS s) (1 + i) = outS s i := by
  unfold wrpS
  rw [out_first _ _ _ (by rw [wrp_pre]; omega)]
  exact out_second (s := brk1) (t := s) brk1_behind brk1_open i
theorem wrp_byte (s : ByteArray) (i : Nat) (h : i < s.size) : byteAt (wrpS s) (1 + i) = byteAt s i := by
  unfold wrpS
  rw [byteAt_join, if_pos (by rw [wrp_pre]; omega), byteAt_join, if_neg (by rw [brk1_size]; omega), brk1_size, show 1 + i - 1 = i by omega]
theorem wrp_byte0 (s : ByteArray) : byteAt (wrpS s) 0 = 91 := by
  unfold wrpS
  rw [byteAt_join, if_pos (by rw [wrp_pre]; omega), byteAt_join, if_pos (by rw [brk1_size]; omega)]
  rfl
theorem wrp_byteE (s : ByteArray) : byteAt (wrpS s) (s.size + 1) = 93 := by
  unfold wrpS
  rw [byteAt_join, if_neg (by rw [wrp_pre]; omega), wrp_pre, Nat.sub_self]
  rfl
theorem wrp_out0 (s : ByteArray) : outS (wrpS s) 0 = true := by
  unfold wrpS
  rw [out_first _ _ _ (by rw [wrp_pre]; omega), out_first brk1 s 0 (by rw [brk1_size]; omega)]
  decide +kernel
theorem wrp_outE {s : ByteArray} (hb : behindS s false = false) (ho : openS s = false) : outS (wrpS s) (s.size + 1) = true := by
  have h1 : behindS (brk1 ++ s) false = false := by
    have h := esc_second8 brk1 s false s.size
    rw [brk1_behind, brk1_size] at h
    unfold behindS
    rw [wrp_pre, show s.size + 1 = 1 + s.size by omega, h]
    exact hb
  have h2 : openS (brk1 ++ s) = false := by
    unfold openS
    rw [wrp_pre, show s.size + 1 = brk1.size + s.size by rw [brk1_size]; omega, oddG_add, odd_first8 brk1 s brk1.size (Nat.le_refl _), oddG_congr (H := markS s) (fun j _ => mark_second8 (s := brk1) (t := s) brk1_behind j)]
    show (openS brk1 ^^ openS s) = false
    rw [brk1_open, ho]; rfl
  have h := out_second (s := brk1 ++ s) (t := brk2) h1 h2 0
  rw [wrp_pre] at h
  show outS ((brk1 ++ s) ++ brk2) (s.size + 1) = true
  rw [show s.size + 1 = s.size + 1 + 0 by omega, h]
  decide +kernel
theorem wrp_br (s : ByteArray) (i : Nat) (h : i < s.size) : brO (wrpS s) (1 + i) = brO s i ∧ brC (wrpS s) (1 + i) = brC s i := by
  unfold brO brC
  rw [wrp_out s i h, wrp_byte s i h]
  exact ⟨rfl, rfl⟩
theorem wrp_brO0 (s : ByteArray) : brO (wrpS s) 0 = true := by
  unfold brO
  rw [wrp_out0, wrp_byte0]
  rfl
theorem wrp_lv0 (s : ByteArray) (c k : Nat) (hc : c = 58 ∨ c = 44) : lvS c (wrpS s) k 0 = false := by
  unfold lvS
  rw [wrp_byte0]
  rcases hc with rfl | rfl <;> simp
theorem wrp_lvE (s : ByteArray) (c k : Nat) (hc : c = 58 ∨ c = 44) : lvS c (wrpS s) k (s.size + 1) = false := by
  unfold lvS
  rw [wrp_byteE]
  rcases hc with rfl | rfl <;> simp
/-- Nothing is closed that isn't open. -/
def NoLow (s : ByteArray) : Prop := ∀ i, i < s.size → brC s i = true → 1 ≤ depS s i
section
variable {s : ByteArray} (hn : NoLow s)
include hn
theorem wrp_dep (i : Nat) (h : i ≤ s.size) : depS (wrpS s) (1 + i) = depS s i + 1 := by
  induction i with
  | zero =>
    show depS (wrpS s) (0 + 1) = _
    rw [depS_succ, wrp_brO0]; rfl
  | succ i ih =>
    rw [← Nat.add_assoc, depS_succ, depS_succ, (wrp_br s i (by omega)).1, (wrp_br s i (by omega)).2, ih (by omega)]
    have hl := hn i (by omega)
    unfold stepD
    cases brO s i
    · cases hc : brC s i
      · rfl
      · have := hl hc
        simp
        omega
    · rfl
theorem wrp_lv (c k i : Nat) (h : i < s.size) : lvS c (wrpS s) (k + 1) (1 + i) = lvS c s k i := by
  unfold lvS
  rw [wrp_out s i h, wrp_byte s i h, wrp_dep hn i (by omega)]
  congr 2
  rw [decide_eq_decide]
  omega
/-- As many of the level, one deeper. -/
theorem wrp_fl (c k : Nat) (hc : c = 58 ∨ c = 44) : (fl (lvS c (wrpS s) (k + 1)) (s.size + 2)).length = (fl (lvS c s k) s.size).length := by
  have key : ∀ n, n ≤ s.size → (fl (lvS c (wrpS s) (k + 1)) (1 + n)).length = (fl (lvS c s k) n).length := by
    intro n
    induction n with
    | zero =>
      intro _
      show (fl (lvS c (wrpS s) (k + 1)) (0 + 1)).length = _
      rw [fl_f (wrp_lv0 s c (k + 1) hc)]; rfl
    | succ n ih =>
      intro h
      have hlv := wrp_lv hn c k n (by omega)
      cases hb : lvS c s k n
      · rw [← Nat.add_assoc, fl_f (by rw [hlv]; exact hb), fl_f hb]; exact ih (by omega)
      · rw [← Nat.add_assoc, fl_t (by rw [hlv]; exact hb), fl_t hb, List.length_append, List.length_append, ih (by omega)]; rfl
  rw [show s.size + 2 = s.size + 1 + 1 by omega, fl_f (wrp_lvE s c (k + 1) hc), show s.size + 1 = 1 + s.size by omega]
  exact key s.size (Nat.le_refl _)
theorem wrp_close (hb : behindS s false = false) (ho : openS s = false) : IsCls (wrpS s) 0 (if depS s s.size = 0 then ((s.size + 1 : Nat) : Int) else -1) := by
  have hlow : ∀ q, q < s.size + 1 → clsP (wrpS s) 0 q = false := fun q hq => by
    by_cases h0 : q = 0
    · rw [h0]; exact cls_low _ _ _ (Nat.le_refl _)
    · obtain ⟨i, rfl⟩ : ∃ i, q = 1 + i := ⟨q - 1, by omega⟩
      unfold clsP
      rw [(wrp_br s i (by omega)).2, wrp_dep hn i (by omega)]
      cases hc : brC s i
      · simp
      · have := hn i (by omega) hc
        have e0 : depS (wrpS s) 0 = 0 := rfl
        rw [e0, decide_eq_false (show ¬ depS s i + 1 = 0 + 1 by omega)]
        simp
  have hE : brC (wrpS s) (s.size + 1) = true := by unfold brC; rw [wrp_outE hb ho, wrp_byteE]; rfl
  have hD : depS (wrpS s) (s.size + 1) = depS s s.size + 1 := by rw [show s.size + 1 = 1 + s.size by omega]; exact wrp_dep hn s.size (Nat.le_refl _)
  refine .inl ⟨0, rfl, wrp_brO0 s, ?_⟩
  by_cases hz : depS s s.size = 0
  · rw [if_pos hz]
    refine .inl ⟨s.size + 1, rfl, by rw [wrp_size]; omega, ?_, hlow⟩
    unfold clsP
    have e0 : depS (wrpS s) 0 = 0 := rfl
    rw [hE, hD, hz, e0, decide_eq_true (by omega)]
    rfl
  · rw [if_neg hz]
    refine .inr ⟨rfl, fun q hq => ?_⟩
    rw [wrp_size] at hq
    by_cases hql : q < s.size + 1
    · exact hlow q hql
    · have : q = s.size + 1 := by omega
      subst this
      unfold clsP
      have e0 : depS (wrpS s) 0 = 0 := rfl
      rw [hD, e0, decide_eq_false (show ¬ depS s s.size + 1 = 0 + 1 by omega)]
      simp
end
end Go.Proofs.YthhgojdnpkcaaaaDoor
