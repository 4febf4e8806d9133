/-
 Within, by the program and by the reference.
-/
import Derived.Test.YtjlcliicdclooaaDoorPtI
import Derived.Test.YtjlcliicdclooaaDoorTpD
namespace Go.Proofs.YtjlcliicdclooaaDoor
open Go.RowKit Go.Shelf
/-- Are the names of b the first names of a? -/
def wiB (a b : List UInt8) : Bool := (ptrL a).isSome && ((ptrL b).isSome && decide ((ptN a).take (ptN b).length = ptN b))
def wiE (a b : List UInt8) : Int := if (ptrL a).isSome && (ptrL b).isSome then 0 else 200
theorem wi_none1 {a : List UInt8} (h : (ptrL a).isSome = false) (b : List UInt8) : wiB a b = false ∧ wiE a b = 200 ∧ ptE a = 200 := by unfold wiB wiE ptE; rw [h]; exact ⟨rfl, rfl, rfl⟩
theorem wi_none2 {b : List UInt8} (h : (ptrL b).isSome = false) (a : List UInt8) : wiB a b = false ∧ wiE a b = 200 ∧ ptE b = 200 := by unfold wiB wiE ptE; rw [h]; cases (ptrL a).isSome <;> exact ⟨rfl, rfl, rfl⟩
theorem wi_some {a b : List UInt8} (h1 : (ptrL a).isSome = true) (h2 : (ptrL b).isSome = true) : wiB a b = decide ((ptN a).take (ptN b).length = ptN b) ∧ wiE a b = 0 ∧ ptE a = 0 ∧ ptE b = 0 := by unfold wiB wiE ptE; rw [h1, h2]; exact ⟨rfl, rfl, rfl, rfl⟩
theorem map_mkL {A B : List (List UInt8)} : A.map mkL = B.map mkL ↔ A = B := by
 constructor
 ·intro h
  have h2 := congrArg (List.map (fun s : ByteArray => s.data.toList)) h
  rw [List.map_map, List.map_map] at h2
  have e : ((fun s : ByteArray => s.data.toList) ∘ mkL) = id := by funext x; exact data_mkL x
  rw [e, List.map_id, List.map_id] at h2
  exact h2
 ·rintro rfl; rfl
theorem wi_map (A B : List (List UInt8)) : decide (A.take B.length = B) = decide ((A.map mkL).take (B.map mkL).length = B.map mkL) := by
 rw [List.length_map, ← List.map_take]
 by_cases h : A.take B.length = B
 ·rw [decide_eq_true h, decide_eq_true (map_mkL.2 h)]
 ·rw [decide_eq_false h, decide_eq_false (fun e => h (map_mkL.1 e))]
theorem KeysAt.take {w : World} {ao : Option Addr} {ks : List ByteArray} (h : KeysAt w ao ks) (n : Nat) : KeysAt w ao (ks.take n) := fun i s hi => by
 rw [List.getElem?_take] at hi
 split at hi
 ·exact h i s hi
 ·cases hi
theorem KeysG.cap {B : Nat} {W : World} {so : Option Addr} {n cap : Nat} {ks : List ByteArray} (h : KeysG B W (.slice so n cap) ks) : n ≤ cap ∧ (so = none → n = 0 ∧ cap = 0) ∧ cap ≤ 9223372036854775807 := by
 rcases h.1.2 with ⟨e, -⟩ | ⟨g, c, cur, e, hb, hg, hnc, hcm, hcs, htk⟩
 ·cases e; exact ⟨Nat.le_refl _, fun _ => ⟨rfl, rfl⟩, Nat.zero_le _⟩
 ·cases e; exact ⟨hnc, fun h => (by cases h), hcm⟩
/-- The texts of two lists, one shorter or not: are they the same? -/
theorem equalK_at (S T : List ByteArray) (hs : S.length ≤ capT) (ao bo : Option Addr) (m cap cap' : Nat) (hm : Hid (T.length = m)) (hmn : m ≤ S.length) (B : Bool) (hB : Hid (decide (S.take m = T) = B)) (w : World) (hA : KeysAt w ao S) (hT : KeysAt w bo T) :
  Calls Tryd.prog 24 #[.slice ao m cap, .slice bo m cap'] w fun e w' => e = .returned (.bool B) ∧ Below w.heap.size w w' := by
 have hl : (S.take m).length = m := by rw [List.length_take]; omega
 have c := equalK_calls (S.take m) T (by omega) (by rw [hm.out]; omega) ao bo cap cap' w (hA.take m) hT
 rw [hl, hm.out] at c
 refine c.mono ?_
 rintro e w' ⟨B', rfl, h, hb⟩
 refine ⟨?_, hb⟩
 rw [← hB.out]
 congr 2
 by_cases e : S.take m = T
 ·rw [h.2 e, decide_eq_true e]
 ·rw [decide_eq_false e]
  cases B' with
  | false => rfl
  | true => exact absurd (h.1 rfl) e
set_option maxRecDepth 10000 in
set_option maxHeartbeats 4000000 in
theorem within_calls (a b : List UInt8) (ha : a.length ≤ 4294967296) (hb : b.length ≤ 4294967296) (w : World) : Calls Tryd.prog 11 #[.string (mkL a), .string (mkL b)] w fun e w' => e = .returned (.tuple #[.bool (wiB a b), .int .i64 (wiE a b)]) ∧ Below w.heap.size w w' := by
 have c1 := hid (fun u : World => parse20_calls a ha u)
 have c2 := hid (fun u : World => parse20_calls b hb u)
 have l1 := ptN_len a
 have l2 := ptN_len b
 cases h1 : (ptrL a).isSome with
 | false =>
  obtain ⟨e1, e2, e3⟩ := wi_none1 h1 b
  rw [e3] at c1
  rw [e1, e2]
  generalize (ptN a).map mkL = S at c1
  generalize mkL a = sa at c1 ⊢
  generalize mkL b = sb at c2 ⊢
  clear c2 l1 l2 h1 e1 e2 e3 ha hb
  go_enter Tryd.func11, Tryd.ntmps11
  go_wp2_with fail
  refine Calls.mono (c1.out _) ?_
  rintro e w1 ⟨v, rfl, k1, b1⟩
  obtain ⟨so, cap, rfl⟩ := k1.shape
  have B1 := hid b1
  clear k1 b1 c1
  go_wp2
  go_ret2
  exact ⟨rfl, B1.out⟩
 | true =>
  cases h2 : (ptrL b).isSome with
  | false =>
   obtain ⟨e1, e2, e3⟩ := wi_none2 h2 a
   have e4 : ptE a = 0 := by unfold ptE; rw [h1]; rfl
   rw [e3] at c2
   rw [e4] at c1
   rw [e1, e2]
   generalize (ptN a).map mkL = S at c1
   generalize (ptN b).map mkL = T at c2
   generalize mkL a = sa at c1 ⊢
   generalize mkL b = sb at c2 ⊢
   clear l1 l2 h1 h2 e1 e2 e3 e4 ha hb
   go_enter Tryd.func11, Tryd.ntmps11
   go_wp2_with fail
   refine Calls.mono (c1.out _) ?_
   rintro e w1 ⟨v, rfl, k1, b1⟩
   obtain ⟨so, cap, rfl⟩ := k1.shape
   have B1 := hid b1
   clear k1 b1 c1
   go_wp2_with fail
   refine Calls.mono (c2.out _) ?_
   rintro e w2 ⟨v, rfl, k2, b2⟩
   obtain ⟨so2, cap2, rfl⟩ := k2.shape
   have B2 := hid (B1.out.trans (b2.mono B1.out.size))
   clear k2 b2 c2 B1
   go_wp2
   go_ret2
   exact ⟨rfl, B2.out⟩
  | true =>
   obtain ⟨e1, e2, e3, e4⟩ := wi_some h1 h2
   rw [wi_map] at e1
   rw [e4] at c2
   rw [e3] at c1
   rw [e1, e2]
   have l1' : ((ptN a).map mkL).length ≤ 4294967296 := by rw [List.length_map]; omega
   have l2' : ((ptN b).map mkL).length ≤ 4294967296 := by rw [List.length_map]; omega
   generalize (ptN a).map mkL = S at c1 l1' ⊢
   generalize (ptN b).map mkL = T at c2 l2' ⊢
   generalize mkL a = sa at c1 ⊢
   generalize mkL b = sb at c2 ⊢
   clear l1 l2 h1 h2 e1 e2 e3 e4 ha hb
   obtain ⟨n, hn⟩ : ∃ n, Hid (S.length = n) := ⟨_, rfl⟩
   obtain ⟨m, hm⟩ : ∃ m, Hid (T.length = m) := ⟨_, rfl⟩
   rw [hm.out]
   rw [hn.out] at l1'
   rw [hm.out] at l2'
   obtain ⟨R, hR⟩ : ∃ R, Hid (decide (S.take m = T) = R) := ⟨_, rfl⟩
   rw [hR.out]
   have n1 : (n : Int) ≤ 4294967296 := by omega
   have m1 : (m : Int) ≤ 4294967296 := by omega
   clear l1' l2'
   go_enter Tryd.func11, Tryd.ntmps11
   go_wp2_with fail
   refine Calls.mono (c1.out _) ?_
   rintro e w1 ⟨v, rfl, k1, b1⟩
   obtain ⟨so, cap, rfl⟩ := k1.shape
   rw [hn.out] at k1 ⊢
   have B1 := hid b1
   have K1 := hid k1.keys
   obtain ⟨p1, p2, p3⟩ := k1.cap
   clear k1 b1 c1
   go_wp2_with fail
   refine Calls.mono (c2.out _) ?_
   rintro e w2 ⟨v, rfl, k2, b2⟩
   obtain ⟨so2, cap2, rfl⟩ := k2.shape
   rw [hm.out] at k2 ⊢
   have B2 := hid (B1.out.trans (b2.mono B1.out.size))
   have K1' := hid (K1.out.kept b2)
   have K2 := hid k2.keys
   clear k2 b2 c2 B1 K1
   by_cases hmn : m ≤ n
   ·have hmi : (m : Int) ≤ (n : Int) := by omega
    have hmc : (m : Int) ≤ (cap : Int) := by omega
    have hcc : (cap : Int) ≤ 9223372036854775807 := by omega
    have hmd : decide ((m : Int) ≤ (n : Int)) = true := decide_eq_true hmi
    have ceq := hid (fun (u : World) (bb : Below w2.heap.size w2 u) (c : Nat) => equalK_at S T (by rw [hn.out]; unfold capT; omega) so so2 m c cap2 hm (by rw [hn.out]; exact hmn) R hR u (K1'.out.kept bb) (K2.out.kept bb))
    cases so with
    | none =>
     obtain ⟨rfl, rfl⟩ := p2 rfl
     obtain rfl : m = 0 := by omega
     clear p1 p2 p3 hmn K1' K2
     go_wp2_with fail
     refine Calls.mono (ceq.out _ (Below.refl _ _) _) ?_
     rintro e w3 ⟨rfl, b3⟩
     have B3 := hid (B2.out.trans (b3.mono B2.out.size))
     clear b3 ceq
     go_wp2
     go_ret2
     exact ⟨by simp, B3.out⟩
    | some ad =>
     clear p1 p2 p3 hmn K1' K2
     go_wp2_with fail
     refine Calls.mono (ceq.out _ (Below.refl _ _) _) ?_
     rintro e w3 ⟨rfl, b3⟩
     have B3 := hid (B2.out.trans (b3.mono B2.out.size))
     clear b3 ceq
     go_wp2
     go_ret2
     exact ⟨by simp, B3.out⟩
   ·have hmi : (n : Int) < (m : Int) := by omega
    have hmd : decide ((m : Int) ≤ (n : Int)) = false := decide_eq_false (by omega)
    have hRf : R = false := by
     rw [← hR.out]
     apply decide_eq_false
     intro e
     have := congrArg List.length e
     rw [List.length_take, hn.out, hm.out] at this
     omega
    have hRf' := hid hRf
    clear hRf hR p1 p2 p3 hmn
    go_wp2
    go_ret2
    exact ⟨by rw [hRf'.out]; rfl, B2.out⟩
end Go.Proofs.YtjlcliicdclooaaDoor
