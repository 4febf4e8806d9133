/-
 The writer's put of any value that is well shaped.
-/
import Derived.Test.YtlhbgfhmcjaabaaGreatDoorWrE
import Derived.Test.YtlhbgfhmcjaabaaGreatDoorTxProg
import Derived.Test.YtlhbgfhmcjaabaaGreatDoorTrDA
namespace Go.Proofs.YtlhbgfhmcjaabaaGreatDoor
open Go.RowKit Go.Shelf
theorem wf_kind {k : Int} {b : Bool} {r t : ByteArray} {ks : List ByteArray} {vs : List Vt} {l : Int} (h : wfV (.mk k b r t ks vs) l = true) : 1 ≤ k ∧ k ≤ 6 ∧ (k = 6 → ks.length = vs.length) ∧ wfL vs (l - 1) = true := by
 unfold wfV at h
 simp only [Bool.and_eq_true] at h
 obtain ⟨h1, -, h3⟩ := h
 refine ⟨?_, ?_, ?_, h3⟩
 ·unfold plainV at h1
  dsimp only at h1
  repeat' split at h1
  all_goals first
   | omega
   | (cases h1; done)
 ·unfold plainV at h1
  dsimp only at h1
  repeat' split at h1
  all_goals first
   | omega
   | (cases h1; done)
 ·intro hk
  subst hk
  unfold plainV at h1
  dsimp only at h1
  rw [if_neg (by decide), if_neg (by decide), if_neg (by decide), if_neg (by decide), if_neg (by decide), if_pos rfl] at h1
  simp only [Bool.and_eq_true, decide_eq_true_eq] at h1
  exact h1.2.2.2.2
theorem wfL_get : ∀ {vs : List Vt} {l : Int} {i : Nat} {u : Vt}, wfL vs l = true → vs[i]? = some u → wfV u l = true
 | [], l, i, u, _, h => by simp at h
 | v :: vs, l, i, u, hw, h => by
  unfold wfL at hw
  simp only [Bool.and_eq_true] at hw
  cases i with
  | zero => simp at h; subst h; exact hw.1
  | succ i => exact wfL_get hw.2 (by simpa using h)
theorem esc_any (K : ByteArray) (hK : K.size ≤ 4294967296) (u : World) : ∃ E, Calls Tryz.prog 49 #[.string K] u fun e w' => e = .returned (.tuple #[.string (wrS K).1, .int .i64 E]) ∧ Below u.heap.size u w' :=
 ⟨(wrS K).2, es_calls K hK (wrS K).1 (wrS K).2 (hid rfl) u trivial⟩
theorem depL_get : ∀ {vs : List Vt} {i : Nat} {u : Vt}, vs[i]? = some u → depV u ≤ depL vs
 | [], i, u, h => by simp at h
 | v :: vs, i, u, h => by
  unfold depL
  cases i with
  | zero => simp at h; subst h; omega
  | succ i => have := depL_get (vs := vs) (i := i) (by simpa using h); omega
/-- The depth of the parts of what is an array or an object. -/
theorem dep_kid {k : Int} {b : Bool} {r t : ByteArray} {ks : List ByteArray} {vs : List Vt} {q : Nat} {u : Vt} (hk : k = 5 ∨ k = 6) (h : vs[q]? = some u) : depV u + 1 ≤ depV (.mk k b r t ks vs) := by
 conv => rhs; unfold depV
 rw [if_pos hk]
 have := depL_get h
 omega
theorem dep_some {k : Int} {b : Bool} {r t : ByteArray} {ks : List ByteArray} {vs : List Vt} (hk : k = 5 ∨ k = 6) : 1 ≤ depV (.mk k b r t ks vs) := by
 conv => rhs; unfold depV
 rw [if_pos hk]
 omega
/-- put writes what a value is written as. -/
theorem putV_ex (m B : Nat) (cl ln : ByteArray) (ix D : Nat) (hm : m < B) (hD : (D : Int) ≤ 1048576) (hF : ∀ d, d ≤ D → Fits ln ix d) : ∀ (n : Nat) (t : Vt), SizeOf.sizeOf t ≤ n → ∀ (lv : Int), wfV t lv = true → szV t → ∀ (d : Nat), d + depV t ≤ D → ∀ (ks' vs' : Value) (l L : List UInt8) (w : World),
  ValOn (fun c => c < m) w t (.agg #[.int .i64 t.kind, .bool t.b, .string t.raw, .string t.text, ks', vs']) → l ++ ptV cl ln ix t d = L → L.length ≤ 140737488355328 → WdI w m B cl ln (ix : Int) l → B ≤ w.heap.size →
  Calls Tryz.prog 31 #[.pointer (some ⟨m, 0, none⟩), kdI t.kind t.b t.raw t.text ks' vs', .int .i64 (d : Int)] w fun e w' => PutP m B cl ln ix L w e w' := by
 intro n
 induction n with
 | zero =>
  intro t hs
  cases t
  simp at hs
 | succ n ih =>
  intro t hs lv hw hsz d hdep ks' vs' l L w hv hL hn hWd hB
  cases hv with
  | mk k b r t ks vs ko kc vo vc X hwf hz hk hr hvv =>
  obtain ⟨h1, h6, hkl, hwl⟩ := wf_kind hw
  have hdi : (d : Int) ≤ 1048576 := by omega
  show Calls Tryz.prog _ #[_, kdI k b r t (.slice ko ks.length kc) (.slice vo vs.length vc), _] w _
  have hsz' := hsz
  unfold szV at hsz'
  have hput : k = 5 ∨ k = 6 → ∀ (q : Nat) (u : Vt), vs[q]? = some u → 1 ≤ u.kind ∧ u.kind ≤ 6 ∧ ∀ (ks' vs' : Value) (l2 L2 : List UInt8) (x : World), ValOn (fun c => c < m) x u (.agg #[.int .i64 u.kind, .bool u.b, .string u.raw, .string u.text, ks', vs']) → l2 ++ ptV cl ln ix u (d + 1) = L2 → L2.length ≤ 140737488355328 → WdI x m B cl ln (ix : Int) l2 → B ≤ x.heap.size →
   Calls Tryz.prog 31 #[.pointer (some ⟨m, 0, none⟩), kdI u.kind u.b u.raw u.text ks' vs', .int .i64 ((d : Int) + 1)] x fun e w' => PutP m B cl ln ix L2 x e w' := fun hk56 q u hu => by
   have hwu := wfL_get hwl hu
   have hku : 1 ≤ u.kind ∧ u.kind ≤ 6 := by
    cases u with
    | mk k2 b2 r2 t2 ks2 vs2 => exact ⟨(wf_kind hwu).1, (wf_kind hwu).2.1⟩
   refine ⟨hku.1, hku.2, fun ks' vs' l2 L2 x hx hl hn2 hd2 hb2 => ?_⟩
   have hsu := kid_size (k := k) (b := b) (r := r) (t := t) (ks := ks) hu
   have hdu := dep_kid (b := b) (r := r) (t := t) (ks := ks) hk56 hu
   have := ih u (by omega) (lv - 1) hwu (szL_get hsz'.2.2 hu) (d + 1) (by omega) ks' vs' l2 L2 x hx hl hn2 hd2 hb2
   push_cast at this
   exact this
  have hvl : (vs.length : Int) ≤ 140737488351232 := by have := hz.2.2.2; unfold capT at this; omega
  by_cases k4 : k = 4
  ·subst k4
   have hL' : l ++ quoL t = L := by rw [← hL]; simp [ptV]
   exact put_quoted m B cl ln (ix : Int) l t (wrS t).1 L hL' (d : Int) hm hn (hid (fun u => esc_any t hsz'.1 u)) w (hid hWd) hB
  by_cases k5 : k = 5
  ·subst k5
   have hds := dep_some (b := b) (r := r) (t := t) (ks := ks) (vs := vs) (.inl (rfl : (5 : Int) = 5))
   have hL' : l ++ (91 :: (ptA cl ln ix vs d 0 ++ ((if 0 < vs.length then fdL ln ix d else []) ++ [93]))) = L := by rw [← hL]; simp [ptV]
   exact put_arr m B cl ln ix l L vs d vo vc X hm hvl hdi (hid hL') (hid hn) (hid (hF d (by omega))) (hid (hF (d + 1) (by omega))) (hid (hput (.inl rfl))) w (hid hWd) hB (hid hr) (hid hvv)
  by_cases k6 : k = 6
  ·subst k6
   have hds := dep_some (b := b) (r := r) (t := t) (ks := ks) (vs := vs) (.inr (rfl : (6 : Int) = 6))
   have hL' : l ++ (123 :: (ptO cl ln ix vs ks d 0 ++ ((if 0 < vs.length then fdL ln ix d else []) ++ [125]))) = L := by rw [← hL]; simp [ptV]
   exact put_obj m B cl ln ix l L ks vs (hkl rfl) d ko vo kc vc X hm hvl hdi (hid hL') (hid hn) (hid (hF d (by omega))) (hid (hF (d + 1) (by omega))) (hid (fun q K hK u => esc_any K (hsz'.2.1 q K hK) u)) (hid (hput (.inr rfl))) w (hid hWd) hB (hid hk) (hid hr) (hid hvv)
  ·have hL' : l ++ (wordL k b r).data.toList = L := by rw [← hL]; simp [ptV, k4, k5, k6]
   have hkd : kdI k b r t (.slice ko ks.length kc) (.slice vo vs.length vc) = .iface 74 (.string (wordL k b r)) := by unfold kdI; rw [if_neg k4, if_neg k5, if_neg k6]
   rw [hkd]
   exact put_word m B cl ln (ix : Int) l (wordL k b r) L hL' (d : Int) hm hn w (hid hWd) hB
end Go.Proofs.YtlhbgfhmcjaabaaGreatDoor
