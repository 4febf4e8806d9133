/-
 A document has a value, with its lists.
-/
import Derived.Test.YtkejlejhnnjdkaaGreatDoorTqB
namespace Go.Proofs.YtkejlejhnnjdkaaGreatDoor
/-- One ahead of the others. -/
def push0 (x : Nat) (f : Nat → Nat) : Nat → Nat
 | 0 => x
 | q + 1 => f q
theorem skip_self {s : ByteArray} {j : Nat} (h : j ≤ s.size) (hb : blankN (byteAt s j) = false) : IsSkip s j j := ⟨Nat.le_refl _, h, fun q a b => by omega, .inr hb⟩
/-- What is known of every place behind i. -/
def ValEx (s : ByteArray) (i : Nat) : Prop := ∀ (j : Nat) (m : Mc), i < j → Tk s j m → Vw s j m → blankN (byteAt s j) = false → ∃ t e k, PV s j t e ∧ Tk s e k ∧ Bhd s e k ∧ k.op = m.op ∧ j < e
/-- The elements from a place on. -/
theorem arr_ex {s : ByteArray} (hb : NoBad s) {i : Nat} (hi : ValEx s i) {op : List Nat} : ∀ (n p : Nat) (m : Mc), s.size - p ≤ n → i < p → Tk s p m → (m.st = 1 ∨ Bhd s p m) → m.op = op ++ [91] → blankN (byteAt s p) = false →
  ∃ (vs : List Vt) (a b c : Nat → Nat) (k : Mc), a 0 = p ∧ (∀ q, q < vs.length → byteAt s (a q) ≠ 93 ∧ a q < s.size ∧ IsSkip s (if byteAt s (a q) = 44 then a q + 1 else a q) (b q) ∧ b q < s.size) ∧
   (∀ (q : Nat) (u : Vt), vs[q]? = some u → PV s (b q) u (c q)) ∧ (∀ q, q < vs.length → IsSkip s (c q) (a (q + 1))) ∧ byteAt s (a vs.length) = 93 ∧ a vs.length < s.size ∧ Tk s (a vs.length + 1) k ∧ k.op = op ∧ k.st = 5 ∧ p ≤ a vs.length := by
 intro n
 induction n with
 | zero =>
  intro p m hn hp t hst ho hbl
  exfalso
  have hps : s.size ≤ p := by omega
  have h0 : byteAt s p = 0 := byteAt_out s p hps
  rcases hst with h | h
  ·obtain ⟨k, hk⟩ := step_in hb t (whole_open (by rw [ho]; simp))
   rw [step_value (.inr ⟨h, by omega, hbl⟩) hbl, h0] at hk
   unfold valueM at hk
   simp [digN] at hk
  ·exact hb p (comma_off t h ho hbl (by omega) (by omega))
 | succ n ih =>
  intro p m hn hp t hst ho hbl
  by_cases h93 : byteAt s p = 93
  ·obtain ⟨k, t', o', s'⟩ := Cw.shut t (hst.elim .inl (fun h => .inr (.inr h))) ho h93
   exact ⟨[], fun _ => p, fun _ => p, fun _ => p, k, rfl, fun q h => by simp at h, fun q u h => by simp at h, fun q h => by simp at h, h93, (show p < s.size from byteAt_in (by omega)), t', o', s', Nat.le_refl _⟩
  ·-- where the value begins
   have hbeg : ∃ b k0, IsSkip s (if byteAt s p = 44 then p + 1 else p) b ∧ Tk s b k0 ∧ Vw s b k0 ∧ k0.op = m.op ∧ i < b ∧ blankN (byteAt s b) = false := by
    rcases hst with h | h
    ·have n44 : byteAt s p ≠ 44 := fun e => by
      obtain ⟨k, hk⟩ := step_in hb t (whole_open (by rw [ho]; simp))
      rw [step_value (.inr ⟨h, h93, hbl⟩) hbl, e] at hk
      unfold valueM at hk
      simp [digN] at hk
     rw [if_neg n44]
     exact ⟨p, m, skip_self t.1 hbl, t, .inr ⟨h, h93, hbl⟩, rfl, hp, hbl⟩
    ·have e44 : byteAt s p = 44 := by
      by_cases e : byteAt s p = 44
      ·exact e
      ·exact absurd (comma_off t h ho hbl (by omega) e) (hb p)
     rw [if_pos e44]
     obtain ⟨k, t', o', s'⟩ := comma_tk t h ho e44
     rw [if_pos rfl] at s'
     obtain ⟨b, hsk⟩ := skip_ex s _ (p + 1) (Nat.le_refl _) t'.1
     obtain ⟨t2, -⟩ := t'.skip (by omega) hsk
     exact ⟨b, k, hsk, t2, .inl s', o', by have := hsk.1; omega, skip_not hsk⟩
   obtain ⟨b0, k0, hsk, t0, v0, o0, hib, hbl0⟩ := hbeg
   obtain ⟨u0, e0, k1, hPV, t1, hB1, o1, hlt⟩ := hi b0 k0 hib t0 v0 hbl0
   obtain ⟨p', hsk'⟩ := skip_ex s _ e0 (Nat.le_refl _) t1.1
   obtain ⟨k2, t2, hB2, o2, -⟩ := t1.skipB hB1 hsk'
   have hle := hPV.le
   have hb1 := hsk.1
   have hb2 := hsk'.1
   have hpb : p ≤ b0 := by split at hb1 <;> omega
   obtain ⟨vs, a, b, c, k, ha, hq, hv, hs, he, hne, tk, ok, sk, hpa⟩ := ih p' k2 (by omega) (by omega) t2 (.inr hB2) (by rw [o2, o1, o0, ho]) (skip_not hsk')
   refine ⟨u0 :: vs, push0 p a, push0 b0 b, push0 e0 c, k, rfl, fun q hqq => ?_, fun q u hu => ?_, fun q hqq => ?_, he, hne, tk, ok, sk, (show p ≤ a vs.length by omega)⟩
   ·cases q with
    | zero => exact ⟨h93, by show p < s.size; omega, hsk, hle.1⟩
    | succ q => exact hq q (by simpa using hqq)
   ·cases q with
    | zero => simp at hu; subst hu; exact hPV
    | succ q => exact hv q u (by simpa using hu)
   ·cases q with
    | zero =>
     show IsSkip s e0 (a 0)
     rw [ha]
     exact hsk'
    | succ q => exact hs q (by simpa using hqq)
/-- The members from a place on. -/
theorem obj_ex {s : ByteArray} (hb : NoBad s) {i : Nat} (hi : ValEx s i) {op : List Nat} : ∀ (n p : Nat) (m : Mc), s.size - p ≤ n → i < p → Tk s p m → (m.st = 2 ∨ Bhd s p m) → m.op = op ++ [123] → blankN (byteAt s p) = false →
  ∃ (ks : List ByteArray) (vs : List Vt) (a nn mm d b c : Nat → Nat) (k : Mc), ks.length = vs.length ∧ a 0 = p ∧ (∀ q, q < vs.length → byteAt s (a q) ≠ 125 ∧ a q < s.size ∧ IsSkip s (if byteAt s (a q) = 44 then a q + 1 else a q) (nn q) ∧ nn q < s.size ∧ IsSkip s (mm q) (d q) ∧ d q < s.size ∧ IsSkip s (d q + 1) (b q) ∧ b q < s.size) ∧
   (∀ (q : Nat) (K : ByteArray), ks[q]? = some K → Txt s (nn q) (mm q) K) ∧
   (∀ (q : Nat) (u : Vt), vs[q]? = some u → PV s (b q) u (c q)) ∧ (∀ q, q < vs.length → IsSkip s (c q) (a (q + 1))) ∧ byteAt s (a vs.length) = 125 ∧ a vs.length < s.size ∧ Tk s (a vs.length + 1) k ∧ k.op = op ∧ k.st = 5 ∧ p ≤ a vs.length := by
 intro n
 induction n with
 | zero =>
  intro p m hn hp t hst ho hbl
  exfalso
  have hps : s.size ≤ p := by omega
  have h0 : byteAt s p = 0 := byteAt_out s p hps
  rcases hst with h | h
  ·have hq := qw_name t (.inr ⟨h, by omega⟩) hbl
   exact hb p (hq.off t (by omega))
  ·exact hb p (comma_off t h ho hbl (by omega) (by omega))
 | succ n ih =>
  intro p m hn hp t hst ho hbl
  by_cases h125 : byteAt s p = 125
  ·obtain ⟨k, t', o', s'⟩ := Cw.shut t (hst.elim (fun h => .inr (.inl h)) (fun h => .inr (.inr h))) ho h125
   exact ⟨[], [], fun _ => p, fun _ => p, fun _ => p, fun _ => p, fun _ => p, fun _ => p, k, rfl, rfl, fun q h => by simp at h, fun q u h => by simp at h, fun q u h => by simp at h, fun q h => by simp at h, h125, (show p < s.size from byteAt_in (by omega)), t', o', s', Nat.le_refl _⟩
  ·have hbeg : ∃ b k0, IsSkip s (if byteAt s p = 44 then p + 1 else p) b ∧ Tk s b k0 ∧ Qw s b true k0 ∧ k0.op = m.op ∧ i < b := by
    rcases hst with h | h
    ·have hq := qw_name t (.inr ⟨h, h125⟩) hbl
     have n44 : byteAt s p ≠ 44 := fun e => hb p (hq.off t (by omega))
     rw [if_neg n44]
     exact ⟨p, m, skip_self t.1 hbl, t, hq, rfl, hp⟩
    ·have e44 : byteAt s p = 44 := by
      by_cases e : byteAt s p = 44
      ·exact e
      ·exact absurd (comma_off t h ho hbl (by omega) e) (hb p)
     rw [if_pos e44]
     obtain ⟨k, t', o', s'⟩ := comma_tk t h ho e44
     rw [if_neg (by decide)] at s'
     obtain ⟨b, hsk⟩ := skip_ex s _ (p + 1) (Nat.le_refl _) t'.1
     obtain ⟨t2, -⟩ := t'.skip (by omega) hsk
     exact ⟨b, k, hsk, t2, qw_name t2 (.inl s') (skip_not hsk), o', by have := hsk.1; omega⟩
   obtain ⟨n0, k0, hsk, t0, hq0, o0, hib⟩ := hbeg
   obtain ⟨K0, m0, k1, hT, t1, o1, s1⟩ := txt_ex hb t0 hq0
   have s1' : k1.st = 4 := by simpa using s1
   obtain ⟨d0, hskd⟩ := skip_ex s _ m0 (Nat.le_refl _) t1.1
   obtain ⟨t2, -⟩ := t1.skip (by omega) hskd
   have h58 : byteAt s d0 = 58 := by
    by_cases e : byteAt s d0 = 58
    ·exact e
    ·exact absurd (colon_off t2 s1' (skip_not hskd) e) (hb d0)
   obtain ⟨k2, t3, o3, s3⟩ := colon_tk t2 s1' h58
   obtain ⟨b0, hskb⟩ := skip_ex s _ (d0 + 1) (Nat.le_refl _) t3.1
   obtain ⟨t4, -⟩ := t3.skip (by omega) hskb
   have hTl := hT.le
   have hb1 := hsk.1
   have hb2 := hskd.1
   have hb3 := hskb.1
   obtain ⟨u0, e0, k3, hPV, t5, hB5, o5, hlt⟩ := hi b0 k2 (by omega) t4 (.inl s3) (skip_not hskb)
   obtain ⟨p', hsk'⟩ := skip_ex s _ e0 (Nat.le_refl _) t5.1
   obtain ⟨k6, t6, hB6, o6, -⟩ := t5.skipB hB5 hsk'
   have hle := hPV.le
   have hb4 := hsk'.1
   have hpn : p ≤ n0 := by split at hb1 <;> omega
   obtain ⟨ks, vs, a, nn, mm, d, b, c, k, hkv, ha, hq, hk, hv, hs, he, hne, tk, ok, sk, hpa⟩ := ih p' k6 (by omega) (by omega) t6 (.inr hB6) (by rw [o6, o5, o3, o1, o0, ho]) (skip_not hsk')
   refine ⟨K0 :: ks, u0 :: vs, push0 p a, push0 n0 nn, push0 m0 mm, push0 d0 d, push0 b0 b, push0 e0 c, k, by simp [hkv], rfl, fun q hqq => ?_, fun q K hK => ?_, fun q u hu => ?_, fun q hqq => ?_, he, hne, tk, ok, sk, (show p ≤ a vs.length by omega)⟩
   ·cases q with
    | zero => exact ⟨h125, by show p < s.size; omega, hsk, hTl.1, hskd, (show d0 < s.size from byteAt_in (by omega)), hskb, hle.1⟩
    | succ q => exact hq q (by simpa using hqq)
   ·cases q with
    | zero => simp at hK; subst hK; exact hT
    | succ q => exact hk q K (by simpa using hK)
   ·cases q with
    | zero => simp at hu; subst hu; exact hPV
    | succ q => exact hv q u (by simpa using hu)
   ·cases q with
    | zero =>
     show IsSkip s e0 (a 0)
     rw [ha]
     exact hsk'
    | succ q => exact hs q (by simpa using hqq)
/-- A value that is awaited stands there. -/
theorem pv_ex {s : ByteArray} (hb : NoBad s) : ∀ (n i : Nat) (m : Mc), s.size - i ≤ n → Tk s i m → Vw s i m → blankN (byteAt s i) = false → ∃ t j k, PV s i t j ∧ Tk s j k ∧ Bhd s j k ∧ k.op = m.op ∧ i < j := by
 intro n
 induction n with
 | zero =>
  intro i m hn t hv hbl
  exfalso
  obtain ⟨k, hk⟩ := step_in hb t hv.whole
  rw [step_value hv hbl, byteAt_out s i (by omega)] at hk
  unfold valueM at hk
  simp [digN] at hk
 | succ n ih =>
  intro i m hn t hv hbl
  have hi : ValEx s i := fun j k h1 h2 h3 h4 => ih j k (by omega) h2 h3 h4
  by_cases c1 : byteAt s i = 110
  ·obtain ⟨k, t', o', s'⟩ := word_ex hb t hv (u := [110, 117, 108, 108]) (.inl rfl) c1
   exact ⟨_, _, k, .null i c1 t'.1, t', bhd_five s', o', by simp⟩
  by_cases c2 : byteAt s i = 116
  ·obtain ⟨k, t', o', s'⟩ := word_ex hb t hv (u := [116, 114, 117, 101]) (.inr (.inl rfl)) c2
   exact ⟨_, _, k, .yes i c2 t'.1, t', bhd_five s', o', by simp⟩
  by_cases c3 : byteAt s i = 102
  ·obtain ⟨k, t', o', s'⟩ := word_ex hb t hv (u := [102, 97, 108, 115, 101]) (.inr (.inr rfl)) c3
   exact ⟨_, _, k, .no i c3 t'.1, t', bhd_five s', o', by simp⟩
  by_cases c4 : byteAt s i = 34
  ·obtain ⟨T, j, k, hT, t', o', s'⟩ := txt_ex hb t (qw_value t hv c4)
   have := hT.le
   exact ⟨_, j, k, .text i j T hT, t', bhd_five (by simpa using s'), o', by omega⟩
  by_cases c5 : byteAt s i = 91
  ·obtain ⟨k, t', o', s'⟩ := open_tk t hv (.inl c5)
   rw [if_pos c5] at s'
   rw [c5] at o'
   obtain ⟨p, hsk⟩ := skip_ex s _ (i + 1) (Nat.le_refl _) t'.1
   obtain ⟨t2, -⟩ := t'.skip (by omega) hsk
   have hp := hsk.1
   obtain ⟨vs, a, b, c, k3, ha, hq, hvv, hs, he, hne, tk, ok, sk, hpa⟩ := arr_ex hb hi _ p k (Nat.le_refl _) (by omega) t2 (.inl s') o' (skip_not hsk)
   have hPV := PV.arr i vs a b c c5 (by rw [ha]; exact hsk) hq hvv hs he hne
   exact ⟨_, _, k3, hPV, tk, bhd_five sk, ok, by omega⟩
  by_cases c6 : byteAt s i = 123
  ·obtain ⟨k, t', o', s'⟩ := open_tk t hv (.inr c6)
   rw [if_neg (by omega)] at s'
   rw [c6] at o'
   obtain ⟨p, hsk⟩ := skip_ex s _ (i + 1) (Nat.le_refl _) t'.1
   obtain ⟨t2, -⟩ := t'.skip (by omega) hsk
   have hp := hsk.1
   obtain ⟨ks, vs, a, nn, mm, d, b, c, k3, hkv, ha, hq, hk, hvv, hs, he, hne, tk, ok, sk, hpa⟩ := obj_ex hb hi _ p k (Nat.le_refl _) (by omega) t2 (.inl s') o' (skip_not hsk)
   have hPV := PV.obj i ks vs hkv a nn mm d b c c6 (by rw [ha]; exact hsk) hq hk hvv hs he hne
   exact ⟨_, _, k3, hPV, tk, bhd_five sk, ok, by omega⟩
  ·rcases num_tk t hv hbl ⟨c5, c6, c4, c1, c2, c3⟩ with ⟨-, h⟩ | ⟨-, h1, -, k, h2, h3, h4⟩
   ·exact absurd h (hb _)
   ·have hre := read_end_scan s i
    exact ⟨_, _, k, .num i _ (by have := h2.1; omega) ⟨c5, c6, c4, c1, c2, c3⟩ hre (by omega) h2.1, h2, h4, h3, h1⟩
/-- The value of a document. -/
theorem doc_pv {s : ByteArray} (h : docM (byts s)) : ∃ i t j, IsSkip s 0 i ∧ PV s i t j := by
 have hb : NoBad s := fun k hk => bad_doc hk h
 obtain ⟨i, hsk⟩ := skip_ex s _ 0 (Nat.le_refl _) (Nat.zero_le _)
 obtain ⟨t2, -⟩ := (tk0 s).skip (by decide) hsk
 obtain ⟨t, j, k, hPV, -⟩ := pv_ex hb _ i mc0 (Nat.le_refl _) t2 (.inl rfl) (skip_not hsk)
 exact ⟨i, t, j, hsk, hPV⟩
end Go.Proofs.YtkejlejhnnjdkaaGreatDoor
