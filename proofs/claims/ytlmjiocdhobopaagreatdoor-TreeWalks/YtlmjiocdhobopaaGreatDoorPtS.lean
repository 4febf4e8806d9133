/-
 The value that a pointer leads to, by the program: Find (by gen_pts.py out of PtS.src).
-/
import Derived.Test.YtlmjiocdhobopaaGreatDoorPack5
import Derived.Test.YtlmjiocdhobopaaGreatDoorPack2
import Derived.Test.YtlmjiocdhobopaaGreatDoorPack6
import Derived.Test.YtlmjiocdhobopaaGreatDoorTpC2
namespace Go.Proofs.YtlmjiocdhobopaaGreatDoor
open Go.RowKit Go.Shelf
theorem wfL_at : ∀ {vs : List Vt} {l : Int} {i : Nat} {u : Vt}, wfL vs l = true → vs[i]? = some u → wfV u l = true
 | [], _, _, _, _, h => by simp at h
 | v :: vs, l, 0, u, hw, h => by
  simp at h
  subst h
  unfold wfL at hw
  rw [Bool.and_eq_true] at hw
  exact hw.1
 | v :: vs, l, i + 1, u, hw, h => by
  unfold wfL at hw
  rw [Bool.and_eq_true] at hw
  exact wfL_at hw.2 (by simpa using h)
theorem ValAt.lets {w : World} {t : Vt} {va : Value} (h : ValAt w t va) : ∃ (k1 : Int) (b1 : Bool) (r1 t1 : ByteArray) (ko1 : Option Addr) (N1 kc1 : Nat) (vo1 : Option Addr) (M1 vc1 : Nat), va = .agg #[.int .i64 k1, .bool b1, .string r1, .string t1, .slice ko1 N1 kc1, .slice vo1 M1 vc1] := by
 cases h
 exact ⟨_, _, _, _, _, _, _, _, _, _, rfl⟩
theorem ValAt.kid {w : World} {t : Vt} (k1 : Int) (b1 : Bool) (r1 t1 : ByteArray) (ko1 : Option Addr) (N1 kc1 : Nat) (vo1 : Option Addr) (M1 vc1 : Nat) (h : ValAt w t (.agg #[.int .i64 k1, .bool b1, .string r1, .string t1, .slice ko1 N1 kc1, .slice vo1 M1 vc1])) {i : Nat} {u : Vt} (hu : t.kids[i]? = some u) : i < M1 ∧ (M1 : Int) ≤ 9223372036854775807 ∧ ∃ (g o : Nat) (k2 : Int) (b2 : Bool) (r2 t2 : ByteArray) (ko2 : Option Addr) (N2 kc2 : Nat) (vo2 : Option Addr) (M2 vc2 : Nat), vo1 = some ⟨g, o, none⟩ ∧ w.rangeAt g (o + i * 6) [.int .i64 k2, .bool b2, .string r2, .string t2, .slice ko2 N2 kc2, .slice vo2 M2 vc2] ∧ ValAt w u (.agg #[.int .i64 k2, .bool b2, .string r2, .string t2, .slice ko2 N2 kc2, .slice vo2 M2 vc2]) := by
 cases h with
 | mk k b r t ks vs ko kc vo vc X hw hz hk hr hv =>
 have hi : i < vs.length := (List.getElem?_eq_some_iff.1 hu).1
 obtain ⟨g, o, rfl, hg, hrg, hl1⟩ := row_range hr hi
 have v1 := hv i u hu
 obtain ⟨ko', kc', vo', vc', hx⟩ := v1.cells
 rw [hx] at hrg v1
 exact ⟨hi, by have := hz.2.2.2; unfold capT at this; omega, g, o, _, _, _, _, _, _, _, _, _, _, rfl, hrg, v1⟩
theorem KeysOn.len {S : Nat → Prop} {w : World} {ao : Option Addr} {ks : List ByteArray} (h : KeysOn S w ao ks) {i : Nat} {s : ByteArray} (hi : ks[i]? = some s) : s.size ≤ 9223372036854775807 := by
 have := (h i s hi).1
 unfold capT at this
 omega
end Go.Proofs.YtlmjiocdhobopaaGreatDoor
