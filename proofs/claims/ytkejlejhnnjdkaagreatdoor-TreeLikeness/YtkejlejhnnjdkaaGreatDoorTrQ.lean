/-
 Alike is a likeness.
-/
import Derived.Test.YtkejlejhnnjdkaaGreatDoorTrMA
import Derived.Test.YtkejlejhnnjdkaaGreatDoorDecOrd
import Derived.Test.YtkejlejhnnjdkaaGreatDoorSplMath
namespace Go.Proofs.YtkejlejhnnjdkaaGreatDoor
open Go.RowKit Go.Shelf
theorem of_formed17 {s : ByteArray} (h : (ofS s).2 = 0) : frmS ⟨((ofS s).1.ds).toArray⟩ (ofS s).1.ex = true := by
 unfold ofS at h ⊢
 split
 ·rename_i h1
  rw [if_pos h1] at h
  exact read_formed (Nat.zero_le _) h
 ·rename_i h1
  rw [if_neg h1] at h
  cases h
/-- NumA, of two that have a worth: no order between them. -/
theorem numA_cmp {r r' : ByteArray} (h : (ofS r).2 = 0) (h' : (ofS r').2 = 0) : NumA r r' ↔ cmpS (ofS r).1.neg ⟨(ofS r).1.ds.toArray⟩ (ofS r).1.ex (ofS r').1.neg ⟨(ofS r').1.ds.toArray⟩ (ofS r').1.ex = 0 := by
 unfold NumA
 rw [if_neg (by omega), cmpR, of_formed17 h, of_formed17 h']
 exact Iff.rfl
theorem numA_refl (r : ByteArray) : NumA r r := by
 by_cases h : (ofS r).2 = 0
 ·rw [numA_cmp h h]
  have := cmpS_neg (ofS r).1.neg ⟨(ofS r).1.ds.toArray⟩ (ofS r).1.ex (ofS r).1.neg ⟨(ofS r).1.ds.toArray⟩ (ofS r).1.ex
  omega
 ·unfold NumA
  rw [if_pos (by omega)]
theorem numA_symm {r r' : ByteArray} (h : NumA r r') : NumA r' r := by
 by_cases h1 : (ofS r).2 = 0
 ·by_cases h2 : (ofS r').2 = 0
  ·rw [numA_cmp h1 h2] at h
   rw [numA_cmp h2 h1, cmpS_neg, h]
   rfl
  ·unfold NumA at h ⊢
   rw [if_pos (by omega)] at h ⊢
   exact h.symm
 ·unfold NumA at h ⊢
  rw [if_pos (by omega)] at h ⊢
  exact h.symm
theorem numA_trans {r r' r'' : ByteArray} (h : NumA r r') (g : NumA r' r'') : NumA r r'' := by
 by_cases h2 : (ofS r').2 = 0
 ·by_cases h1 : (ofS r).2 = 0
  ·by_cases h3 : (ofS r'').2 = 0
   ·rw [numA_cmp h1 h2] at h
    rw [numA_cmp h2 h3] at g
    rw [numA_cmp h1 h3]
    have a := (cmpS_trans _ _ _ _ _ _ _ _ _ (Int.le_of_eq h) (Int.le_of_eq g)).1
    have h' := h
    have g' := g
    rw [← Int.neg_inj, ← cmpS_neg] at h' g'
    have b := (cmpS_trans _ _ _ _ _ _ _ _ _ (Int.le_of_eq g') (Int.le_of_eq h')).1
    rw [cmpS_neg] at b
    omega
   ·unfold NumA at g
    rw [if_pos (by omega)] at g
    subst g
    exact absurd h2 h3
  ·unfold NumA at h
   rw [if_pos (by omega)] at h
   subst h
   exact absurd h2 h1
 ·unfold NumA at h
  rw [if_pos (by omega)] at h
  subst h
  exact g
theorem alk_iff (k : Int) (b : Bool) (r t : ByteArray) (ks : List ByteArray) (vs : List Vt) (k2 : Int) (b2 : Bool) (r2 t2 : ByteArray) (ks2 : List ByteArray) (vs2 : List Vt) :
  Alk (.mk k b r t ks vs) (.mk k2 b2 r2 t2 ks2 vs2) ↔ k = k2 ∧ (k = 2 → b = b2) ∧ (k = 4 → t = t2) ∧ (k = 3 → NumA r r2) ∧
   (k = 5 → vs.length = vs2.length ∧ ∀ (i : Nat) (x y : Vt), vs[i]? = some x → vs2[i]? = some y → Alk x y) ∧
   (k = 6 → (∀ (j : Nat) (nm : ByteArray), ks2[j]? = some nm → ∃ q : Nat, ks[q]? = some nm) ∧
    ∀ (i : Nat) (x : Vt), vs[i]? = some x → ∀ (nm : ByteArray), ks[i]? = some nm → IsFst ks nm (i : Int) → ∃ (q : Nat) (y : Vt), IsFst ks2 nm (q : Int) ∧ vs2[q]? = some y ∧ Alk x y) := by
 rw [Alk]
 exact Iff.rfl
theorem fst_has {ks : List ByteArray} {nm : ByteArray} {j : Nat} (h : ks[j]? = some nm) : ∃ i : Nat, IsFst ks nm (i : Int) ∧ ks[i]? = some nm := by
 obtain ⟨f, hf⟩ := fst_ex17 ks nm
 rcases hf with ⟨-, h'⟩ | ⟨i, rfl, h1, h2⟩
 ·exact absurd h (h' j)
 ·exact ⟨i, .inr ⟨i, rfl, h1, h2⟩, h1⟩
theorem fst_at {ks : List ByteArray} {nm : ByteArray} {i : Nat} (h : IsFst ks nm (i : Int)) : ks[i]? = some nm := by
 rcases h with ⟨h, -⟩ | ⟨j, h, h1, -⟩
 ·omega
 ·obtain rfl : i = j := by omega
  exact h1
theorem kid_at {ks : List ByteArray} {vs : List Vt} (hl : vs.length = ks.length) {i : Nat} {nm : ByteArray} (h : ks[i]? = some nm) : ∃ x, vs[i]? = some x :=
 ⟨_, List.getElem?_eq_getElem (by rw [hl]; exact (List.getElem?_eq_some_iff.mp h).1)⟩
theorem alk_refl : ∀ (n : Nat) (t : Vt), SizeOf.sizeOf t ≤ n → Alk t t := by
 intro n
 induction n with
 | zero => intro t hs; cases t; simp at hs
 | succ n ih =>
  intro t hs
  cases t with
  | mk k b r t ks vs =>
  rw [alk_iff]
  refine ⟨rfl, fun _ => rfl, fun _ => rfl, fun _ => numA_refl _, fun _ => ⟨rfl, fun i x y hx hy => ?_⟩, fun _ => ⟨fun j nm h => ⟨j, h⟩, fun i x hx nm hn hf => ⟨i, x, hf, hx, ?_⟩⟩⟩
  ·rw [hx] at hy
   injection hy with hy
   subst hy
   have hsz := kid_size (k := k) (b := b) (r := r) (t := t) (ks := ks) hx
   exact ih x (by omega)
  ·have hsz := kid_size (k := k) (b := b) (r := r) (t := t) (ks := ks) hx
   exact ih x (by omega)
theorem alk_symm : ∀ (n : Nat) (t u : Vt), SizeOf.sizeOf t ≤ n → okA t → okA u → Alk t u → Alk u t := by
 intro n
 induction n with
 | zero => intro t u hs; cases t; simp at hs
 | succ n ih =>
  intro t u hs h1 h2 h
  cases t with
  | mk k b r t ks vs =>
  cases u with
  | mk k2 b2 r2 t2 ks2 vs2 =>
  unfold okA at h1 h2
  rw [alk_iff] at h ⊢
  obtain ⟨rfl, g2, g4, g3, g5, g6⟩ := h
  have hk : ∀ (i q : Nat) (x y : Vt), vs[i]? = some x → vs2[q]? = some y → Alk x y → Alk y x := fun i q x y hx hy ha => by
   have hsz := kid_size (k := k) (b := b) (r := r) (t := t) (ks := ks) hx
   exact ih x y (by omega) (okAL_get h1.2 hx) (okAL_get h2.2 hy) ha
  refine ⟨rfl, fun e => (g2 e).symm, fun e => (g4 e).symm, fun e => numA_symm (g3 e), fun e => ⟨(g5 e).1.symm, fun i x y hx hy => hk i i y x hy hx ((g5 e).2 i y x hy hx)⟩, fun e => ⟨fun j nm hj => ?_, fun q y hy nm hn hf => ?_⟩⟩
  ·obtain ⟨i, hi, hi2⟩ := fst_has hj
   obtain ⟨x, hx⟩ := kid_at (h1.1 e).1 hi2
   obtain ⟨q, y, hq, -⟩ := (g6 e).2 i x hx nm hi2 hi
   exact ⟨q, fst_at hq⟩
  ·obtain ⟨j, hj⟩ := (g6 e).1 q nm hn
   obtain ⟨i, hi, hi2⟩ := fst_has hj
   obtain ⟨x, hx⟩ := kid_at (h1.1 e).1 hi2
   obtain ⟨q', y', hq, hy', ha⟩ := (g6 e).2 i x hx nm hi2 hi
   obtain rfl : q = q' := by have := hf.uniq hq; omega
   rw [hy] at hy'
   injection hy' with hy'
   subst hy'
   exact ⟨i, x, hi, hx, hk i q x y hx hy ha⟩
theorem alk_trans : ∀ (n : Nat) (t u v : Vt), SizeOf.sizeOf t ≤ n → okA t → okA u → okA v → Alk t u → Alk u v → Alk t v := by
 intro n
 induction n with
 | zero => intro t u v hs; cases t; simp at hs
 | succ n ih =>
  intro t u v hs h1 h2 h3 h h'
  cases t with
  | mk k b r t ks vs =>
  cases u with
  | mk k2 b2 r2 t2 ks2 vs2 =>
  cases v with
  | mk k3 b3 r3 t3 ks3 vs3 =>
  unfold okA at h1 h2 h3
  rw [alk_iff] at h h' ⊢
  obtain ⟨rfl, g2, g4, g3, g5, g6⟩ := h
  obtain ⟨rfl, f2, f4, f3, f5, f6⟩ := h'
  have hk : ∀ (i q p : Nat) (x y z : Vt), vs[i]? = some x → vs2[q]? = some y → vs3[p]? = some z → Alk x y → Alk y z → Alk x z := fun i q p x y z hx hy hz ha hb => by
   have hsz := kid_size (k := k) (b := b) (r := r) (t := t) (ks := ks) hx
   exact ih x y z (by omega) (okAL_get h1.2 hx) (okAL_get h2.2 hy) (okAL_get h3.2 hz) ha hb
  refine ⟨rfl, fun e => (g2 e).trans (f2 e), fun e => (g4 e).trans (f4 e), fun e => numA_trans (g3 e) (f3 e), fun e => ⟨(g5 e).1.trans (f5 e).1, fun i x z hx hz => ?_⟩, fun e => ⟨fun j nm hj => ?_, fun i x hx nm hn hf => ?_⟩⟩
  ·obtain ⟨y, hy⟩ : ∃ y, vs2[i]? = some y := ⟨_, List.getElem?_eq_getElem (by rw [← (g5 e).1]; exact (List.getElem?_eq_some_iff.mp hx).1)⟩
   exact hk i i i x y z hx hy hz ((g5 e).2 i x y hx hy) ((f5 e).2 i y z hy hz)
  ·obtain ⟨q, hq⟩ := (f6 e).1 j nm hj
   exact (g6 e).1 q nm hq
  ·obtain ⟨q, y, hq, hy, ha⟩ := (g6 e).2 i x hx nm hn hf
   obtain ⟨p, z, hp, hz, hb⟩ := (f6 e).2 q y hy nm (fst_at hq) hq
   exact ⟨p, z, hp, hz, hk i q p x y z hx hy hz ha hb⟩
end Go.Proofs.YtkejlejhnnjdkaaGreatDoor
