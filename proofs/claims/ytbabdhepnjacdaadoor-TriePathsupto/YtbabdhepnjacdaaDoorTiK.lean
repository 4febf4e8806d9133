/-
 quarryref23.Formed, Go.
-/
import Derived.Test.YtbabdhepnjacdaaDoorTiJ
import Derived.Test.YtbabdhepnjacdaaDoorTiH
namespace Go.Proofs.YtbabdhepnjacdaaDoor
open Go.RowKit Go.Shelf
set_option maxRecDepth 10000 in
set_option maxHeartbeats 4000000 in
theorem formedR23_calls (t : List Nod) (ao : Option Addr) (N cap : Nat) (hN : Hid (t.length = N)) (hm : Hid (Mid t)) (hsz : Hid (∀ n ∈ t, ∀ s ∈ n.steps, s.name.size ≤ 1048576)) (B : Bool) (hB : Hid (B = true ↔ FrmR t)) (w : World) (hk : Hid (NodesAt w ao t)) :
  Calls Tryd.prog 20 #[.slice ao N cap] w fun e w' => e = .returned (.bool B) ∧ Below w.heap.size w w' := by
 have hNi : N ≤ 1048576 := by have := hm.out.1; have := hN.out; omega
 have hNi' : (N : Int) ≤ 1048576 := by omega
 have hcn := hid (fun (u : World) (hu : Below w.heap.size w u) => count23_calls t ao N cap hN hm u (hid (hk.out.kept hu)))
 have htm := hid (fun (x : Int) (u : World) (hu : Below w.heap.size w u) => times23_calls t ao N cap hN hm x u (hid (hk.out.kept hu)))
 obtain ⟨C, hC⟩ : ∃ C, Hid ((enA t).length = C) := ⟨_, rfl⟩
 have hCb : C ≤ 1048576 := by have := hm.out.2.2.1; have := hC.out; omega
 have hCi : (C : Int) ≤ 1048576 := by omega
 rw [hC.out] at hcn
 go_enter Tryd.func20, Tryd.ntmps20
 by_cases h0 : N = 0
 ·have hfin : Hid (B = false) := hid (by
   cases hb : B with
   | false => rfl
   | true => exact absurd (List.length_eq_zero_iff.1 (hN.out.trans h0)) (hB.out.1 hb).1)
  have e0 : ((N : Int) == 0) = true := by rw [h0]; rfl
  subst h0
  go_wp2
  go_ret
  exact ⟨by rw [hfin.out] <;> rfl, Below.refl _ _⟩
 ·have e0 : ((N : Int) == 0) = false := beq_eq_false_iff_ne.2 (by omega)
  have h0' := hid h0
  clear h0
  go_wp2_with fail
  refine Calls.mono (hcn.out _ (Below.refl _ _)) ?_
  rintro e w2 ⟨rfl, b2⟩
  have B2 := hid b2
  clear b2
  by_cases h256 : 256 < C
  ·have f1 : decide ((256 : Int) < (C : Int)) = true := decide_eq_true (by omega)
   have hfin : Hid (B = false) := hid (by
    cases hb : B with
    | false => rfl
    | true => have := (hB.out.1 hb).2.1; have := hC.out; omega)
   go_wp2
   go_ret
   exact ⟨by rw [hfin.out] <;> rfl, B2.out⟩
  ·have f1 : decide ((256 : Int) < (C : Int)) = false := decide_eq_false (by omega)
   have f2 : decide (256 < C) = false := decide_eq_false h256
   have hC256 := hid (show (enA t).length ≤ 256 by have := hC.out; omega)
   go_wp2
   go_loopw [3] (fun ii wr => ∃ i : Nat, i ≤ N ∧ ii = .int .i64 (i : Int) ∧ Hid (∀ (q : Nat) (n : Nod), q < i → t[q]? = some n → nodOk N q n) ∧ Hid (∀ q : Nat, 0 < q → q < i → (toA t).count (q : Int) = 1) ∧ Hid (Below w.heap.size w wr)) (fun ii _ => N - (intOf ii).toNat)
   case atStart => exact ⟨0, Nat.zero_le _, rfl, hid (fun q n h => by omega), hid (fun q h h' => by omega), B2⟩
   case round =>
    obtain ⟨i, hi, rfl, hno, hto, hb⟩ := hrel
    by_cases hlt : i < N
    ·have hli : (i : Int) < (N : Int) := by omega
     have hlt' := hid (show i + 1 ≤ N by omega)
     obtain ⟨n, hn⟩ : ∃ n, Hid (t[i]? = some n) := ⟨_, List.getElem?_eq_getElem (by rw [hN.out]; exact hlt)⟩
     obtain ⟨V, hV⟩ : ∃ V : Bool, Hid (V = true ↔ nodOk N i n) := by
      by_cases h : nodOk N i n
      ·exact ⟨true, hid (by simp [h])⟩
      ·exact ⟨false, hid (by simp [h])⟩
     have hnd := hid (node23_calls t ao N cap hN hm hsz i n hn V hV wr (hid (hk.out.kept hb.out)))
     go_wp2_with fail
     refine Calls.mono hnd.out ?_
     rintro e w3 ⟨rfl, b3⟩
     have B3 := hid (hb.out.trans (b3.mono hb.out.size))
     clear b3 hnd
     cases V with
     | false =>
      have hfin : Hid (B = false) := hid (by
       cases hb : B with
       | false => rfl
       | true =>
        have h3 := (hB.out.1 hb).2.2.1 i n hn.out
        rw [hN.out] at h3
        have := hV.out.2 h3
        cases this)
      go_wp2
      go_ret
      exact ⟨by rw [hfin.out] <;> rfl, B3.out⟩
     | true =>
      have hno2 : Hid (∀ (q : Nat) (n : Nod), q < i + 1 → t[q]? = some n → nodOk N q n) := hid (fun q n' hq hn' => by
       by_cases e : q = i
       ·subst e
        have := hn.out.symm.trans hn'
        cases this
        exact hV.out.1 rfl
       ·exact hno.out q n' (by omega) hn')
      have ht2 := hid (htm.out (i : Int) _ B3.out)
      obtain ⟨c, hc⟩ : ∃ c, Hid ((toA t).count (i : Int) = c) := ⟨_, rfl⟩
      obtain ⟨d, hd⟩ : ∃ d, Hid ((enA t).count (i : Int) = d) := ⟨_, rfl⟩
      rw [hc.out, hd.out] at ht2
      clear hno hV
      go_wp2_with fail
      refine Calls.mono ht2.out ?_
      rintro e w4 ⟨rfl, b4⟩
      have B4 := hid (B3.out.trans (b4.mono B3.out.size))
      clear b4 ht2
      by_cases hi0 : 0 < i
      ·have g0 : decide ((0 : Int) < (i : Int)) = true := decide_eq_true (by omega)
       have g0' : decide (0 < i) = true := decide_eq_true hi0
       by_cases hc1 : c = 1
       ·subst hc1
        have g1 : (((1 : Nat) : Int) != 1) = false := by decide
        have hto2 : Hid (∀ q : Nat, 0 < q → q < i + 1 → (toA t).count (q : Int) = 1) := hid (fun q h h' => by
         by_cases e : q = i
         ·subst e; exact hc.out
         ·exact hto.out q h (by omega))
        clear hto
        go_wp2
        go_roundw
        case rel => exact ⟨i + 1, hlt'.out, by simp, hno2, hto2, B4⟩
        case measure => simp [intOf]; have := hlt'.out; omega
       ·have g1 : ((c : Int) != 1) = true := by simp; omega
        have hfin : Hid (B = false) := hid (by
         cases hb : B with
         | false => rfl
         | true => exact absurd (hc.out.symm.trans ((hB.out.1 hb).2.2.2.1 i hi0 (by rw [hN.out]; exact hlt))) hc1)
        go_wp2
        go_ret
        exact ⟨by rw [hfin.out] <;> rfl, B4.out⟩
      ·obtain rfl : i = 0 := by omega
       have hto2 : Hid (∀ q : Nat, 0 < q → q < 0 + 1 → (toA t).count (q : Int) = 1) := hid (fun q h h' => by omega)
       clear hto
       go_wp2
       go_roundw
       case rel => exact ⟨0 + 1, hlt'.out, by simp, hno2, hto2, B4⟩
       case measure => simp [intOf]; have := hlt'.out; omega
    ·obtain rfl : i = N := by omega
     have hB2 : Hid (B = true ↔ ∀ k : Nat, k < C → (enA t).count (k : Int) = 1) := hid (by
      rw [hB.out]
      constructor
      ·intro h k hk
       exact h.2.2.2.2 k (by rw [hC.out]; exact hk)
      ·intro h
       refine ⟨fun e => h0'.out (by rw [← hN.out, e]; rfl), hC256.out, fun q n hq => ?_, fun q h1 h2 => hto.out q h1 (by rw [← hN.out]; exact h2), fun k hk => h k (by rw [← hC.out]; exact hk)⟩
       have := hno.out q n (by rw [← hN.out]; exact (List.getElem?_eq_some_iff.1 hq).1) hq
       rwa [hN.out])
     clear hno hto hB
     go_wp2
     go_loopw [6] (fun ii wr => ∃ k : Nat, k ≤ C ∧ ii = .int .i64 (k : Int) ∧ Hid (∀ q : Nat, q < k → (enA t).count (q : Int) = 1) ∧ Hid (Below w.heap.size w wr)) (fun ii _ => C - (intOf ii).toNat)
     case atStart => exact ⟨0, Nat.zero_le _, rfl, hid (fun q h => by omega), hb⟩
     case round =>
      clear hb
      obtain ⟨k, hkC, rfl, hen, hb⟩ := hrel
      go_wp2_with fail
      refine Calls.mono (hcn.out _ hb.out) ?_
      rintro e w3 ⟨rfl, b3⟩
      have B3 := hid (hb.out.trans (b3.mono hb.out.size))
      clear b3
      by_cases hlt : k < C
      ·have hli : decide ((k : Int) < (C : Int)) = true := decide_eq_true (by omega)
       have hli2 : decide (k < C) = true := decide_eq_true hlt
       have hlt' := hid (show k + 1 ≤ C by omega)
       have ht2 := hid (htm.out (k : Int) _ B3.out)
       obtain ⟨c, hc⟩ : ∃ c, Hid ((toA t).count (k : Int) = c) := ⟨_, rfl⟩
       obtain ⟨d, hd⟩ : ∃ d, Hid ((enA t).count (k : Int) = d) := ⟨_, rfl⟩
       rw [hc.out, hd.out] at ht2
       go_wp2_with fail
       refine Calls.mono ht2.out ?_
       rintro e w4 ⟨rfl, b4⟩
       have B4 := hid (B3.out.trans (b4.mono B3.out.size))
       clear b4 ht2
       by_cases hd1 : d = 1
       ·subst hd1
        have g1 : (((1 : Nat) : Int) != 1) = false := by decide
        have hen2 : Hid (∀ q : Nat, q < k + 1 → (enA t).count (q : Int) = 1) := hid (fun q h => by
         by_cases e : q = k
         ·subst e; exact hd.out
         ·exact hen.out q (by omega))
        clear hen
        go_wp2
        go_roundw
        case rel => exact ⟨k + 1, hlt'.out, by simp, hen2, B4⟩
        case measure => simp [intOf]; have := hlt'.out; omega
       ·have g1 : ((d : Int) != 1) = true := by simp; omega
        have hfin : Hid (B = false) := hid (by
         cases hb : B with
         | false => rfl
         | true => exact absurd (hd.out.symm.trans (hB2.out.1 hb k hlt)) hd1)
        go_wp2
        go_ret
        exact ⟨by rw [hfin.out] <;> rfl, B4.out⟩
      ·have hli : decide ((k : Int) < (C : Int)) = false := decide_eq_false (by omega)
       have hli2 : decide (k < C) = false := decide_eq_false hlt
       have hfin : Hid (B = true) := hid (hB2.out.2 (fun q hq => hen.out q (by omega)))
       go_wp2
       go_ret
       exact ⟨by rw [hfin.out] <;> rfl, B3.out⟩
end Go.Proofs.YtbabdhepnjacdaaDoor
