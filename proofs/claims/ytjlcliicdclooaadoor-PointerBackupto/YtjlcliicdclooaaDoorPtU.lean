/-
 The laws PointerBack and PointerChains, walked.
-/
import Derived.Test.YtjlcliicdclooaaDoorPtT
import Derived.Test.YtjlcliicdclooaaDoorPtP
import Derived.Test.YtjlcliicdclooaaDoorPtJ
namespace Go.Proofs.YtjlcliicdclooaaDoor
open Go.RowKit Go.Shelf
theorem mnAll_each : ∀ {R L : List (List UInt8)} {n : Nat}, mnAll R = some L → (∀ a ∈ R, a.length ≤ n) → ∀ a ∈ L, a.length ≤ n
 | [], L, n, h, _, a, ha => by cases h; simp at ha
 | x :: R, L, n, h, hn, a, ha => by
  rw [mnAll] at h
  cases hx : mnL x with
  | none => rw [hx] at h; simp at h
  | some y =>
   cases hR : mnAll R with
   | none => rw [hx, hR] at h; simp at h
   | some ys =>
    rw [hx, hR] at h
    cases h
    simp at ha
    rcases ha with rfl | ha
    ·exact Nat.le_trans (mnL_len _ x a (Nat.le_refl _) hx) (hn x (by simp))
    ·exact mnAll_each hR (fun b hb => hn b (by simp [hb])) a ha
theorem ptN_each (l : List UInt8) : ∀ a ∈ ptN l, a.length ≤ l.length := by
 unfold ptN
 cases l with
 | nil => intro a h; simp [ptrL] at h
 | cons d t =>
  by_cases h : d = 47
  ·rw [ptrL, if_pos h]
   cases hm : mnAll (cuL t) with
   | none => intro a ha; simp at ha
   | some L =>
    intro a ha
    have := mnAll_each hm (cuL_each t) a ha
    simp
    omega
  ·rw [ptrL, if_neg h]
   intro a ha
   simp at ha
theorem ptr_some {l : List UInt8} (h : (ptrL l).isSome = true) : ptrL l = some (ptN l) := by
 unfold ptN
 cases hp : ptrL l with
 | none => rw [hp] at h; cases h
 | some L => rfl
set_option maxRecDepth 10000 in
set_option maxHeartbeats 4000000 in
theorem pointerBack_walk (ao : Option Addr) (cap : Nat) (ss : List ByteArray) (hb : sizesS ss ≤ 1048576) (s : ByteArray) (hs : s.size ≤ 1048576) (w : World) (hT : TabU w) (hM : MxI w) (hin : TextsOf w ao ss) :
  Calls Tryd.prog 3 #[.slice ao ss.length cap, .string s] w fun e w' => e = .returned (.bool true) ∧ Below w.heap.size w w' := by
 obtain ⟨L, rfl⟩ : ∃ L : List (List UInt8), ss = L.map mkL := ⟨_, (map_data ss).symm⟩
 obtain ⟨l, rfl⟩ : ∃ l, s = mkL l := ⟨_, (mkL_data s).symm⟩
 rw [mkL_size] at hs
 have hk := hin.keys hb
 have l1 := wrL_len L
 have l2 := each_sizes L
 have l3 := len_sizes L
 obtain ⟨N, hN⟩ : ∃ N, Hid (L.length = N) := ⟨_, rfl⟩
 have hNN : (L.map mkL).length = N := by rw [List.length_map, hN.out]
 rw [hNN]
 rw [hN.out] at l3
 have c0 := hid (fun (u : World) (h : TabU u) => awake20_calls u h)
 have c1 := hid (fun (u : World) (bb : Below w.heap.size w u) => print_calls L ao N cap hN (by omega) (hid (fun a ha => by have := l2 a ha; omega)) (hid (by omega)) u (hid (hk.kept bb)) (hid (hM.kept bb)))
 have c2 := hid (fun u : World => parse20_calls (wrL L) (by omega) u)
 have e1 : ptE (wrL L) = 0 := by unfold ptE; rw [ptrL_wr]; rfl
 have e2 : ptN (wrL L) = L := by unfold ptN; rw [ptrL_wr]; rfl
 rw [e1, e2] at c2
 have hkk := hid (fun (u : World) (bb : Below w.heap.size w u) => hk.kept bb)
 have hNc := hid (show (L.map mkL).length ≤ capT by rw [hNN]; unfold capT; omega)
 have hNN' := hid hNN
 have c3 := hid (fun u : World => parse20_calls l (by omega) u)
 have n1 := ptN_len l
 have n2 := ptN_each l
 have hM' := hid hM
 have hT' := hid hT
 generalize mkL (wrL L) = T at c1 c2
 generalize L.map mkL = K at c2 hkk hNc hNN'
 clear e1 e2 l1 l2 l3 hk hin hb hM hT hNN hN
 cases hp : (ptrL l).isSome with
 | false =>
  have e3 : ptE l = 200 := by unfold ptE; rw [hp]; rfl
  have e4 : ptN l = [] := by
   unfold ptN
   cases h : ptrL l with
   | none => rfl
   | some x => rw [h] at hp; cases hp
  have hlne : l ≠ [] := fun e => by rw [e] at hp; cases hp
  have hne : ((mkL l).toList == []) = false := by rw [eq_const, data_mkL]; exact decide_eq_false hlne
  have hne2 : ((mkL l).toList != []) = true := by rw [bne, hne]; rfl
  rw [e3, e4] at c3
  generalize mkL l = sl at c3 hne hne2 ⊢
  clear e3 e4 hlne hp n1 n2 hs
  go_enter Tryd.func3, Tryd.ntmps3
  go_wp2_with fail
  refine Calls.mono (c0.out _ hT'.out) ?_
  rintro e w1 ⟨rfl, b1⟩
  have B1 := hid b1
  clear b1 c0
  go_wp2_with fail
  refine Calls.mono (c1.out _ B1.out) ?_
  rintro e w2 ⟨rfl, b2⟩
  have B2 := hid (B1.out.trans (b2.mono B1.out.size))
  clear b2 c1 B1
  go_wp2_with fail
  refine Calls.mono (c2.out _) ?_
  rintro e w3 ⟨v, rfl, k3, b3⟩
  obtain ⟨so, cap3, rfl⟩ := k3.shape
  rw [hNN'.out] at k3 ⊢
  have B3 := hid (B2.out.trans (b3.mono B2.out.size))
  have sm := hid (sameT_yes K hNc.out so ao N cap3 cap hNN' w3 k3.keys (hkk.out _ B3.out))
  clear b3 c2 B2 k3
  go_wp2_with fail
  refine Calls.mono sm.out ?_
  rintro e w4 ⟨rfl, b4⟩
  have B4 := hid (B3.out.trans (b4.mono B3.out.size))
  clear b4 sm B3
  go_wp2_with fail
  refine Calls.mono (c3.out _) ?_
  rintro e w5 ⟨v, rfl, k5, b5⟩
  obtain ⟨so5, cap5, rfl⟩ := k5.shape
  have B5 := hid (B4.out.trans (b5.mono B4.out.size))
  clear b5 c3 B4 k5
  go_wp2
  go_ret
  exact ⟨by simp, B5.out⟩
 | true =>
  have e3 : ptE l = 0 := by unfold ptE; rw [hp]; rfl
  have hwr := wrL_ptr (ptr_some hp)
  rw [e3] at c3
  obtain ⟨n, hn⟩ : ∃ n, Hid ((ptN l).length = n) := ⟨_, rfl⟩
  have hmn := hid (show ((ptN l).map mkL).length = n by rw [List.length_map, hn.out])
  have c4 := hid (fun (ao' : Option Addr) (cap' : Nat) (u : World) (hkk : KeysAt u ao' ((ptN l).map mkL)) (hm : MxI u) => print_calls (ptN l) ao' n cap' hn (by rw [← hn.out]; omega) (hid (fun a ha => by have := n2 a ha; omega)) (hid (by rw [hwr]; omega)) u (hid hkk) (hid hm))
  rw [hwr] at c4
  generalize (ptN l).map mkL = K2 at c3 c4 hmn
  generalize mkL l = sl at c3 c4 ⊢
  have heq : (sl.toList == sl.toList) = true := beq_self_eq_true _
  clear e3 hwr hp n1 n2 hs hn
  go_enter Tryd.func3, Tryd.ntmps3
  go_wp2_with fail
  refine Calls.mono (c0.out _ hT'.out) ?_
  rintro e w1 ⟨rfl, b1⟩
  have B1 := hid b1
  clear b1 c0
  go_wp2_with fail
  refine Calls.mono (c1.out _ B1.out) ?_
  rintro e w2 ⟨rfl, b2⟩
  have B2 := hid (B1.out.trans (b2.mono B1.out.size))
  clear b2 c1 B1
  go_wp2_with fail
  refine Calls.mono (c2.out _) ?_
  rintro e w3 ⟨v, rfl, k3, b3⟩
  obtain ⟨so, cap3, rfl⟩ := k3.shape
  rw [hNN'.out] at k3 ⊢
  have B3 := hid (B2.out.trans (b3.mono B2.out.size))
  have sm := hid (sameT_yes K hNc.out so ao N cap3 cap hNN' w3 k3.keys (hkk.out _ B3.out))
  clear b3 c2 B2 k3
  go_wp2_with fail
  refine Calls.mono sm.out ?_
  rintro e w4 ⟨rfl, b4⟩
  have B4 := hid (B3.out.trans (b4.mono B3.out.size))
  clear b4 sm B3
  go_wp2_with fail
  refine Calls.mono (c3.out _) ?_
  rintro e w5 ⟨v, rfl, k5, b5⟩
  obtain ⟨so5, cap5, rfl⟩ := k5.shape
  rw [hmn.out] at k5 ⊢
  have K5 := hid k5.keys
  have B5 := hid (B4.out.trans (b5.mono B4.out.size))
  clear b5 c3 B4 k5
  go_wp2_with fail
  refine Calls.mono (c4.out so5 cap5 _ K5.out (hM'.out.kept B5.out)) ?_
  rintro e w6 ⟨rfl, b6⟩
  have B6 := hid (B5.out.trans (b6.mono B5.out.size))
  clear b6 c4 B5
  go_wp2
  go_ret
  exact ⟨by simp, B6.out⟩
end Go.Proofs.YtjlcliicdclooaaDoor
