/-
 quarryref17.escaped: how the reference writes a name.
-/
import Derived.Test.YtlmjiocdhobopaaGreatDoorPack3
import Derived.Test.YtlmjiocdhobopaaGreatDoorPwD
import Derived.Test.YtlmjiocdhobopaaGreatDoorRwE
namespace Go.Proofs.YtlmjiocdhobopaaGreatDoor
open Go.RowKit Go.Shelf
/-- How one byte of a name is written. -/
def wr1 (c : UInt8) : List UInt8 := if c = 126 then [126, 48] else if c = 47 then [126, 49] else [c]
theorem wrN_flat : ∀ a : List UInt8, wrN a = a.flatMap wr1
 | [] => by rw [wrN]; rfl
 | c :: a => by
  rw [wrN, List.flatMap_cons, ← wrN_flat a]
  unfold wr1
  by_cases h1 : c = 126
  ·rw [if_pos h1, if_pos h1]; rfl
  ·rw [if_neg h1, if_neg h1]
   by_cases h2 : c = 47
   ·rw [if_pos h2, if_pos h2]; rfl
   ·rw [if_neg h2, if_neg h2]; rfl
theorem wrN_takeX {l : List UInt8} {i : Nat} {c : UInt8} (h : l[i]? = some c) : wrN (l.take (i + 1)) = wrN (l.take i) ++ wr1 c := by
 rw [wrN_flat, wrN_flat, List.take_add_one, h, Option.toList_some, List.flatMap_append, List.flatMap_singleton]
theorem extract_one {l : List UInt8} {i : Nat} {c : UInt8} (h : l[i]? = some c) : (mkL l).extract i (i + 1) = mkL [c] := by
 obtain ⟨hi, e⟩ := List.getElem?_eq_some_iff.1 h
 apply ByteArray.ext
 rw [ByteArray.data_extract]
 show (l.toArray).extract i (i + 1) = [c].toArray
 apply Array.ext'
 rw [Array.toList_extract]
 have h2 : (l.drop i).take 1 = [c] := by rw [List.drop_eq_getElem_cons hi, e]; rfl
 simpa [List.extract] using h2
theorem add_runL {x y : List UInt8} (h : x.length + y.length ≤ 140737488355328) : ∀ u : World, (Op.stringOp .add (mkL x) (mkL y)).run Tryz.prog u = .ok (.string (mkL (x ++ y))) u := fun u => by
 rw [run_string_add_sum u (mkL x) (mkL y) (by rw [mkL_size, mkL_size]; omega)]
 have e : mkL x ++ mkL y = mkL (x ++ y) := by
  apply ByteArray.ext
  rw [ByteArray.data_append]
  show x.toArray ++ y.toArray = (x ++ y).toArray
  rw [List.append_toArray]
 rw [e]
set_option maxRecDepth 10000 in
set_option maxHeartbeats 4000000 in
theorem escapedR_calls (l : List UInt8) (hl : l.length ≤ 2147483640) (w : World) :
  Calls Tryz.prog 27 #[.string (mkL l)] w fun e w' => e = .returned (.string (mkL (wrN l))) ∧ Below w.heap.size w w' := by
 obtain ⟨N, hN⟩ : ∃ N, Hid (l.length = N) := ⟨_, rfl⟩
 have hs : (mkL l).size = N := by rw [mkL_size]; exact hN.out
 have hNi : (N : Int) ≤ 2147483640 := by have := hN.out; omega
 obtain ⟨S, hS⟩ : ∃ S, mkL l = S := ⟨_, rfl⟩
 have hS' := hid hS
 rw [hS] at hs ⊢
 have hs0 := hid hs
 have hl0 := hid hl
 clear hS hl
 go_enter Tryz.func27, Tryz.ntmps27
 go_wp2
 go_loopw [3, 4] (fun ss ii wr => ∃ i : Nat, i ≤ N ∧ ii = .int .i64 (i : Int) ∧ ss = .string (mkL (wrN (l.take i))) ∧ Hid (Below w.heap.size w wr)) (fun _ ii _ => N - (intOf ii).toNat)
 case atStart => exact ⟨0, Nat.zero_le _, rfl, by rw [List.take_zero]; rfl, hid (Below.refl _ _)⟩
 case round =>
  obtain ⟨i, hi, rfl, rfl, hB⟩ := hrel
  by_cases hlt : i < N
  ·have hli : (i : Int) < (N : Int) := by omega
   have hlS : i < S.size := by rw [hs]; exact hlt
   obtain ⟨c, hc⟩ : ∃ c, l[i]? = some c := ⟨_, List.getElem?_eq_getElem (by rw [hN.out]; exact hlt)⟩
   have hcv : (S[i]'hlS).toNat = c.toNat := by rw [← lk_at S i hlS, ← hS'.out]; exact lk_mkD hc
   have hnx := hid (wrN_takeX hc)
   have hbn := hid (show (wrN (l.take i)).length ≤ 4294967280 by have := wrN_len (l.take i); have := List.length_take_le i l; have := hl0.out; omega)
   by_cases h126 : c = 126
   ·subst h126
    have hcv' : ((S[i]'hlS).toNat : Int) = 126 := by rw [hcv]; rfl
    have had : ∀ u : World, (Op.stringOp .add (mkL (wrN (l.take i))) ⟨#[126, 48]⟩).run Tryz.prog u = .ok (.string (mkL (wrN (l.take (i + 1))))) u := by rw [hnx.out]; exact add_runL (y := [126, 48]) (by have := hbn.out; simp; omega)
    clear hcv hc hnx
    generalize mkL (wrN (l.take i)) = Z at *
    generalize hZ2 : mkL (wrN (l.take (i + 1))) = Z2 at had
    have hZ3 := hid hZ2
    clear hZ2
    go_wp2
    go_roundw
    case rel => exact ⟨i + 1, by omega, by simp, by rw [hZ3.out], hB⟩
    case measure => simp [intOf]; omega
   ·by_cases h47 : c = 47
    ·subst h47
     have hcv' : ((S[i]'hlS).toNat : Int) = 47 := by rw [hcv]; rfl
     have had : ∀ u : World, (Op.stringOp .add (mkL (wrN (l.take i))) ⟨#[126, 49]⟩).run Tryz.prog u = .ok (.string (mkL (wrN (l.take (i + 1))))) u := by rw [hnx.out]; exact add_runL (y := [126, 49]) (by have := hbn.out; simp; omega)
     clear hcv hc hnx h126
     generalize mkL (wrN (l.take i)) = Z at *
     generalize hZ2 : mkL (wrN (l.take (i + 1))) = Z2 at had
     have hZ3 := hid hZ2
     clear hZ2
     go_wp2
     go_roundw
     case rel => exact ⟨i + 1, by omega, by simp, by rw [hZ3.out], hB⟩
     case measure => simp [intOf]; omega
    ·have e1 : (((S[i]'hlS).toNat : Int) == 126) = false := by
      rw [hcv, beq_eq_false_iff_ne]
      intro h
      have h' : c.toNat = 126 := by omega
      exact h126 (UInt8.toNat_inj.1 h')
     have e2 : (((S[i]'hlS).toNat : Int) == 47) = false := by
      rw [hcv, beq_eq_false_iff_ne]
      intro h
      have h' : c.toNat = 47 := by omega
      exact h47 (UInt8.toNat_inj.1 h')
     have hex : S.extract i (i + 1) = mkL [c] := by rw [← hS'.out]; exact extract_one hc
     have had : ∀ u : World, (Op.stringOp .add (mkL (wrN (l.take i))) (S.extract i (i + 1))).run Tryz.prog u = .ok (.string (mkL (wrN (l.take (i + 1))))) u := by rw [hnx.out, hex, wr1, if_neg h126, if_neg h47]; exact add_runL (y := [c]) (by have := hbn.out; simp; omega)
     clear hcv hc hnx h126 h47 hex
     generalize mkL (wrN (l.take i)) = Z at *
     generalize hZ2 : mkL (wrN (l.take (i + 1))) = Z2 at had
     have hZ3 := hid hZ2
     clear hZ2
     go_wp2
     go_roundw
     case rel => exact ⟨i + 1, by omega, by simp, by rw [hZ3.out], hB⟩
     case measure => simp [intOf]; omega
  ·obtain rfl : N = i := by omega
   have hfin : Hid (l.take N = l) := hid (List.take_of_length_le (by rw [hN.out]; exact Nat.le_refl _))
   rw [hfin.out]
   go_wp2
   go_ret
   exact ⟨rfl, hB.out⟩
end Go.Proofs.YtlmjiocdhobopaaGreatDoor
