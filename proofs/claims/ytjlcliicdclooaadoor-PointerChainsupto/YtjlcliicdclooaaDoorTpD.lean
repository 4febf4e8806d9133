/-
 slices.Equal of texts, slices.EqualFunc of values, tree.Same (by gen_tpd.py).
-/
import Derived.Test.YtjlcliicdclooaaDoorTpB
namespace Go.Proofs.YtjlcliicdclooaaDoor
open Go.RowKit Go.Shelf
set_option maxRecDepth 10000 in
set_option maxHeartbeats 1000000 in
theorem equalK_calls (L L' : List ByteArray) (hl : L.length ≤ capT) (hl' : L'.length ≤ capT) (ao bo : Option Addr) (cap cap' : Nat) (w : World) (hA : KeysAt w ao L) (hB : KeysAt w bo L') :
  Calls Tryd.prog 24 #[.slice ao L.length cap, .slice bo L'.length cap'] w fun e w' => ∃ B : Bool, e = .returned (.bool B) ∧ (B = true ↔ L = L') ∧ Below w.heap.size w w' := by
 unfold capT at hl hl'
 have hA' := hid hA
 have hB' := hid hB
 obtain ⟨n, hn⟩ : ∃ n, Hid (L.length = n) := ⟨_, rfl⟩
 obtain ⟨m, hm⟩ : ∃ m, Hid (L'.length = m) := ⟨_, rfl⟩
 rw [hn.out] at hl ⊢
 rw [hm.out] at hl' ⊢
 have hli : (n : Int) ≤ 9223372036854775807 := by omega
 have hmi : (m : Int) ≤ 9223372036854775807 := by omega
 clear hl hl'
 clear hA hB
 by_cases hnm : n = m
 ·subst hnm
  have e0 : ((n : Int) != (n : Int)) = false := by simp
  go_enter Tryd.func24, Tryd.ntmps24
  go_wp2
  go_loopw [13] (fun ii wr => ∃ i : Nat, i ≤ n ∧ ii = .int .i64 (i : Int) ∧ Hid (∀ j, j < i → L[j]? = L'[j]?) ∧ Below w.heap.size w wr) (fun ii _ => n - (intOf ii).toNat)
  case atStart => exact ⟨0, Nat.zero_le _, rfl, hid (fun j hj => by omega), Below.refl _ _⟩
  case round =>
   obtain ⟨i, hi, rfl, hsm, hb⟩ := hrel
   by_cases hlt : i < n
   ·have hii : (i : Int) < (n : Int) := by omega
    obtain ⟨p, hp⟩ : ∃ p, Hid (L[i]? = some p) := ⟨_, List.getElem?_eq_getElem (by rw [hn.out]; exact hlt)⟩
    obtain ⟨q, hq⟩ : ∃ q, Hid (L'[i]? = some q) := ⟨_, List.getElem?_eq_getElem (by rw [hm.out]; exact hlt)⟩
    obtain ⟨-, g, o, rfl, hg, cg⟩ := hA'.out i p hp.out
    obtain ⟨-, h, o', rfl, hh, ch⟩ := hB'.out i q hq.out
    have s1 := (hb.cell (p := ⟨g, o + i, none⟩) hg).trans cg
    have s2 := (hb.cell (p := ⟨h, o' + i, none⟩) hh).trans ch
    have ad1 : (⟨g, o, none⟩ : Addr).add i = ⟨g, o + i, none⟩ := by by_cases h : i = 0 <;> simp [Addr.add, h]
    have ad2 : (⟨h, o', none⟩ : Addr).add i = ⟨h, o' + i, none⟩ := by by_cases h : i = 0 <;> simp [Addr.add, h]
    have ep := text_beq p q
    clear cg ch
    by_cases hpq : p = q
    ·subst hpq
     have ep2 : (p.toList != p.toList) = false := by simp
     clear ep
     go_wp2
     go_quiet (fail)
     go_wp2
     go_roundw
     case rel => exact ⟨i + 1, by omega, by simp, hid (fun j hj => by
      by_cases e : j = i
      ·subst e; rw [hp.out, hq.out]
      ·exact hsm.out j (by omega)), below_drewN hb _⟩
     case measure => simp [intOf]; omega
    ·have ep2 : (p.toList != q.toList) = true := by rw [text_beq, decide_eq_false hpq]; rfl
     have ep3 : (p.toList == q.toList) = false := by rw [bne] at ep2; simpa using ep2
     clear ep
     go_wp2
     go_quiet (fail)
     go_wp2
     go_ret
     refine ⟨false, rfl, ⟨fun h => (by cases h), fun h => ?_⟩, below_drewN hb _⟩
     subst h
     rw [hp.out] at hq
     have := hq.out
     injection this with this
     exact absurd this hpq
   ·obtain rfl : i = n := by omega
    go_wp2
    go_ret
    refine ⟨true, rfl, ⟨fun _ => ?_, fun _ => rfl⟩, hb⟩
    apply List.ext_getElem?
    intro j
    by_cases hj : j < i
    ·exact hsm.out j hj
    ·rw [List.getElem?_eq_none (by rw [hn.out]; omega), List.getElem?_eq_none (by rw [hm.out]; omega)]
 ·have e0 : ((n : Int) != (m : Int)) = true := by simp; omega
  go_enter Tryd.func24, Tryd.ntmps24
  go_wp2
  go_ret
  refine ⟨false, rfl, ⟨fun h => (by cases h), fun h => ?_⟩, Below.refl _ _⟩
  subst h
  exact absurd (hn.out.symm.trans hm.out) hnm
end Go.Proofs.YtjlcliicdclooaaDoor
