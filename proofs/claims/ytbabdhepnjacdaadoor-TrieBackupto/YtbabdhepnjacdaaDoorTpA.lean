/-
 Which texts the language's own ValidString takes: just those that Bad finds nothing in.
-/
import Derived.Test.YtbabdhepnjacdaaDoorPack1
import Derived.Lib.ValidLaws
namespace Go.Proofs.YtbabdhepnjacdaaDoor
open Go.Lib
def okR (s : St5) (l : List UInt8) : Prop := (runS s (l.map UInt8.toNat)).wrong = false ∧ (runS s (l.map UInt8.toNat)).q.left = 0
theorem okR_cons (s : St5) (b : UInt8) (l : List UInt8) : okR s (b :: l) ↔ okR (tk s b.toNat) l := Iff.rfl
theorem okR_wrong {s : St5} (h : s.wrong = true) (l : List UInt8) : ¬ okR s l := fun ho => by
 have h1 := ho.1
 rw [runS_wrong h, h] at h1
 cases h1
theorem okR_short {s : St5} (h : s.q.left ≠ 0) : ¬ okR s [] := fun ho => h ho.2
theorem tk_in {s : St5} (h : s.wrong = false) (hl : s.q.left ≠ 0) {x : Nat} (h1 : s.q.lo ≤ x) (h2 : x ≤ s.q.hi) : tk s x = ⟨s.good + 1, false, ⟨s.q.left - 1, 128, 191⟩⟩ :=
 tk_some h (by unfold stp; rw [if_neg hl, if_neg (by omega)])
theorem tk_out {s : St5} (h : s.wrong = false) (hl : s.q.left ≠ 0) {x : Nat} (h1 : x < s.q.lo ∨ s.q.hi < x) : (tk s x).wrong = true := by
 rw [tk_none h (by unfold stp; rw [if_neg hl, if_pos h1])]
theorem tk_lead {s : St5} (h : s.wrong = false) (hl : s.q.left = 0) {x n lo hi : Nat} (hq : begQ s.q x = some ⟨n, lo, hi⟩) : tk s x = ⟨s.good + 1, false, ⟨n, lo, hi⟩⟩ :=
 tk_some h (by unfold stp; rw [if_pos hl]; exact hq)
/-- A lead byte that is followed by one, two or three: told by the table's check. -/
theorem ok_check {s : St5} (h : s.wrong = false) (hl : s.q.left = 0) (b : UInt8) (t : List UInt8) (sz lo hi : Nat) (hsz : sz = 2 ∨ sz = 3 ∨ sz = 4) (hq : begQ s.q b.toNat = some ⟨sz - 1, lo, hi⟩)
  (ih : ∀ (u : List UInt8) (s' : St5), u.length ≤ t.length → s'.wrong = false → s'.q.left = 0 → (validD u = true ↔ okR s' u)) :
  ((match checkN (b :: t).length ((b :: t).getD 1 0).toNat ((b :: t).getD 2 0).toNat ((b :: t).getD 3 0).toNat sz lo hi with
   | none => false
   | some k => validD ((b :: t).drop k)) = true) ↔ okR s (b :: t) := by
 rw [okR_cons, tk_lead h hl hq]
 unfold checkN
 cases t with
 | nil =>
  have hno : ¬ okR ⟨s.good + 1, false, ⟨sz - 1, lo, hi⟩⟩ [] := okR_short (by show sz - 1 ≠ 0; omega)
  refine iff_of_false ?_ hno
  rcases hsz with rfl | rfl | rfl <;> simp
 | cons c t =>
  rw [okR_cons]
  by_cases hc : c.toNat < lo ∨ hi < c.toNat
  ·have hno : ¬ okR (tk ⟨s.good + 1, false, ⟨sz - 1, lo, hi⟩⟩ c.toNat) t := okR_wrong (tk_out rfl (by show sz - 1 ≠ 0; omega) hc) t
   refine iff_of_false ?_ hno
   have hc' : c.toNat < lo ∨ hi < c.toNat := hc
   rcases hsz with rfl | rfl | rfl <;> rcases hc with hc | hc <;> simp [hc]
  ·rw [tk_in rfl (by show sz - 1 ≠ 0; omega) (show lo ≤ c.toNat by omega) (show c.toNat ≤ hi by omega)]
   have n1 : ¬ c.toNat < lo := by omega
   have n2 : ¬ hi < c.toNat := by omega
   rcases hsz with rfl | hsz
   ·simpa [n1, n2, show ¬ t.length + 1 + 1 < 2 by omega] using ih t ⟨s.good + 1 + 1, false, ⟨0, 128, 191⟩⟩ (by simp) rfl rfl
   cases t with
   | nil =>
    refine iff_of_false ?_ (okR_short (by show sz - 1 - 1 ≠ 0; omega))
    rcases hsz with rfl | rfl <;> simp
   | cons d t =>
    rw [okR_cons]
    by_cases hd : d.toNat < 128 ∨ 191 < d.toNat
    ·refine iff_of_false ?_ (okR_wrong (tk_out rfl (by show sz - 1 - 1 ≠ 0; omega) hd) t)
     rcases hsz with rfl | rfl <;> rcases hd with hd | hd <;> simp [hd]
    ·rw [tk_in rfl (by show sz - 1 - 1 ≠ 0; omega) (show 128 ≤ d.toNat by omega) (show d.toNat ≤ 191 by omega)]
     have m1 : ¬ d.toNat < 128 := by omega
     have m2 : ¬ 191 < d.toNat := by omega
     rcases hsz with rfl | rfl
     ·simpa [n1, n2, m1, m2, show ¬ t.length + 1 + 1 + 1 < 3 by omega] using ih t ⟨s.good + 1 + 1 + 1, false, ⟨0, 128, 191⟩⟩ (by simp; omega) rfl rfl
     cases t with
     | nil =>
      refine iff_of_false ?_ (okR_short (by show (4 - 1 - 1 - 1 : Nat) ≠ 0; omega))
      simp
     | cons e t =>
      rw [okR_cons]
      by_cases he : e.toNat < 128 ∨ 191 < e.toNat
      ·refine iff_of_false ?_ (okR_wrong (tk_out rfl (by show (4 - 1 - 1 - 1 : Nat) ≠ 0; omega) he) t)
       rcases he with he | he <;> simp [he]
      ·rw [tk_in rfl (by show (4 - 1 - 1 - 1 : Nat) ≠ 0; omega) (show 128 ≤ e.toNat by omega) (show e.toNat ≤ 191 by omega)]
       have k1 : ¬ e.toNat < 128 := by omega
       have k2 : ¬ 191 < e.toNat := by omega
       simpa [n1, n2, m1, m2, k1, k2, show ¬ t.length + 1 + 1 + 1 + 1 < 4 by omega] using ih t ⟨s.good + 1 + 1 + 1 + 1, false, ⟨0, 128, 191⟩⟩ (by simp; omega) rfl rfl
theorem valid_ok : ∀ (n : Nat) (l : List UInt8) (s : St5), l.length ≤ n → s.wrong = false → s.q.left = 0 → (validD l = true ↔ okR s l)
 | _, [], s, _, hw, hl => ⟨fun _ => ⟨hw, hl⟩, fun _ => rfl⟩
 | 0, b :: t, _, hn, _, _ => by simp at hn
 | n + 1, b :: t, s, hn, hw, hl => by
  have hbl : b.toNat < 256 := b.toNat_lt
  have hnt : t.length ≤ n := by simpa using hn
  by_cases hb : b.toNat < 128
  ·rw [validD_cons b t hb, okR_cons, tk_some hw (q := s.q) (by unfold stp begQ; rw [if_pos hl, if_neg (by omega), if_neg (by omega), if_neg (by omega), if_neg (by omega), if_neg (by omega)])]
   exact valid_ok n t _ hnt rfl hl
  ·have ih : ∀ (u : List UInt8) (s' : St5), u.length ≤ t.length → s'.wrong = false → s'.q.left = 0 → (validD u = true ↔ okR s' u) := fun u s' hu h1 h2 => valid_ok n u s' (by omega) h1 h2
   rw [validD_lead (b :: t) (by simp) (by simpa using (by omega : 128 ≤ b.toNat))]
   have e0 : ((b :: t).getD 0 0).toNat = b.toNat := by simp
   rw [e0]
   have bad : begQ s.q b.toNat = none → firstT b.toNat % 8 = 1 → ((match checkN (b :: t).length ((b :: t).getD 1 0).toNat ((b :: t).getD 2 0).toNat ((b :: t).getD 3 0).toNat (firstT b.toNat % 8) (accLo (firstT b.toNat / 16)) (accHi (firstT b.toNat / 16)) with
    | none => false
    | some k => validD ((b :: t).drop k)) = true ↔ okR s (b :: t)) := fun h1 h2 => by
    refine iff_of_false ?_ ?_
    ·rw [h2]; simp [checkN]
    ·rw [okR_cons]
     exact okR_wrong (by rw [tk_none hw (by unfold stp; rw [if_pos hl]; exact h1)]) t
   have good : ∀ sz lo hi, firstT b.toNat % 8 = sz → accLo (firstT b.toNat / 16) = lo → accHi (firstT b.toNat / 16) = hi → (sz = 2 ∨ sz = 3 ∨ sz = 4) → begQ s.q b.toNat = some ⟨sz - 1, lo, hi⟩ → ((match checkN (b :: t).length ((b :: t).getD 1 0).toNat ((b :: t).getD 2 0).toNat ((b :: t).getD 3 0).toNat (firstT b.toNat % 8) (accLo (firstT b.toNat / 16)) (accHi (firstT b.toNat / 16)) with
    | none => false
    | some k => validD ((b :: t).drop k)) = true ↔ okR s (b :: t)) := fun sz lo hi e1 e2 e3 hsz hq => by
    rw [e1, e2, e3]
    exact ok_check hw hl b t sz lo hi hsz hq ih
   clear ih e0 hn
   generalize b.toNat = x at *
   by_cases c0 : x < 194
   ·exact bad (by unfold begQ; rw [if_neg (by omega), if_neg (by omega), if_neg (by omega), if_neg (by omega), if_pos (by omega)]) (by simp [firstT, hb, c0])
   by_cases c1 : x < 224
   ·exact good 2 128 191 (by simp [firstT, hb, c0, c1]) (by simp [firstT, accLo, hb, c0, c1]) (by simp [firstT, accHi, hb, c0, c1]) (by omega) (by unfold begQ secLo secHi; rw [if_neg (by omega), if_neg (by omega), if_neg (by omega), if_pos (by omega), if_neg (by omega), if_neg (by omega), if_neg (by omega), if_neg (by omega)])
   by_cases c2 : x = 224
   ·subst c2; exact good 3 160 191 (by decide) (by decide) (by decide) (by omega) rfl
   by_cases c3 : x < 237
   ·exact good 3 128 191 (by simp [firstT, hb, c0, c1, c2, c3]) (by simp [firstT, accLo, hb, c0, c1, c2, c3]) (by simp [firstT, accHi, hb, c0, c1, c2, c3]) (by omega) (by unfold begQ secLo secHi; rw [if_neg (by omega), if_neg (by omega), if_pos (by omega), if_neg (by omega), if_neg (by omega), if_neg (by omega), if_neg (by omega)])
   by_cases c4 : x = 237
   ·subst c4; exact good 3 128 159 (by decide) (by decide) (by decide) (by omega) rfl
   by_cases c5 : x < 240
   ·exact good 3 128 191 (by simp [firstT, hb, c0, c1, c2, c3, c4, c5]) (by simp [firstT, accLo, hb, c0, c1, c2, c3, c4, c5]) (by simp [firstT, accHi, hb, c0, c1, c2, c3, c4, c5]) (by omega) (by unfold begQ secLo secHi; rw [if_neg (by omega), if_neg (by omega), if_pos (by omega), if_neg (by omega), if_neg (by omega), if_neg (by omega), if_neg (by omega)])
   by_cases c6 : x = 240
   ·subst c6; exact good 4 144 191 (by decide) (by decide) (by decide) (by omega) rfl
   by_cases c7 : x < 244
   ·exact good 4 128 191 (by simp [firstT, hb, c0, c1, c2, c3, c4, c5, c6, c7]) (by simp [firstT, accLo, hb, c0, c1, c2, c3, c4, c5, c6, c7]) (by simp [firstT, accHi, hb, c0, c1, c2, c3, c4, c5, c6, c7]) (by omega) (by unfold begQ secLo secHi; rw [if_neg (by omega), if_pos (by omega), if_neg (by omega), if_neg (by omega), if_neg (by omega), if_neg (by omega)])
   by_cases c8 : x = 244
   ·subst c8; exact good 4 128 143 (by decide) (by decide) (by decide) (by omega) rfl
   ·exact bad (by unfold begQ; rw [if_pos (by omega)]) (by simp [firstT, hb, c0, c1, c2, c3, c4, c5, c6, c7, c8])
/-- Valid just if Bad finds nothing. -/
theorem valid_bad (s : ByteArray) : validD s.data.toList = decide (badOf s = -1) := by
 have h := valid_ok _ s.data.toList s5 (Nat.le_refl _) rfl rfl
 have h2 : okR s5 s.data.toList ↔ badOf s = -1 := by
  unfold badOf badI okR byts
  constructor
  ·rintro ⟨h1, h2⟩
   rw [if_neg]
   rw [h1, h2]
   simp
  ·intro h3
   by_cases hc : (runS s5 (s.data.toList.map UInt8.toNat)).wrong = true ∨ 0 < (runS s5 (s.data.toList.map UInt8.toNat)).q.left
   ·rw [if_pos hc] at h3
    omega
   ·constructor
    ·cases hx : (runS s5 (s.data.toList.map UInt8.toNat)).wrong with
     | false => rfl
     | true => exact absurd (.inl hx) hc
    ·omega
 cases hv : validD s.data.toList with
 | true => rw [decide_eq_true (h2.1 (h.1 hv))]
 | false =>
  rw [decide_eq_false]
  intro hb
  rw [h.2 (h2.2 hb)] at hv
  cases hv
end Go.Proofs.YtbabdhepnjacdaaDoor
