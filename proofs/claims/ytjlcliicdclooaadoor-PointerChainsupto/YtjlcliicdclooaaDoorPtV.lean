/-
 The law PointerChains, walked.
-/
import Derived.Test.YtjlcliicdclooaaDoorPtT
import Derived.Test.YtjlcliicdclooaaDoorPtJ
namespace Go.Proofs.YtjlcliicdclooaaDoor
open Go.RowKit Go.Shelf
theorem wiE_eq (a b : List UInt8) : wiE a b = if (ptrL a).isSome && (ptrL b).isSome then 0 else 200 := rfl
theorem ptE_eq (a : List UInt8) : ptE a = if (ptrL a).isSome then 0 else 200 := rfl
theorem wiB_some {a b : List UInt8} (h1 : (ptrL a).isSome = true) (h2 : (ptrL b).isSome = true) : wiB a b = decide ((ptN a).take (ptN b).length = ptN b) := (wi_some h1 h2).1
theorem take_trans {α : Type} {R S T : List α} (h1 : R.take S.length = S) (h2 : S.take T.length = T) : R.take T.length = T := by
 have hl : T.length ≤ S.length := by
  have := congrArg List.length h2
  rw [List.length_take] at this
  omega
 rw [← h1, List.take_take, Nat.min_eq_left hl] at h2
 exact h2
theorem ptr_get {l : List UInt8} (h : (ptrL l).isSome = true) : ptrL l = some (ptN l) := by
 unfold ptN
 cases hp : ptrL l with
 | none => rw [hp] at h; cases h
 | some L => rfl
theorem wi_self {s : List UInt8} (h : (ptrL s).isSome = true) : wiB s s = true := by
 rw [wiB_some h h]
 apply decide_eq_true
 exact List.take_length
theorem wi_behind {s r : List UInt8} (h1 : (ptrL s).isSome = true) (h2 : (ptrL r).isSome = true) : wiB (s ++ r) s = true ∧ wiE (s ++ r) s = 0 := by
 have h3 := ptrL_app (ptr_get h1) (ptr_get h2)
 have h4 : (ptrL (s ++ r)).isSome = true := by rw [h3]; rfl
 have h5 : ptN (s ++ r) = ptN s ++ ptN r := by
  have : ptN (s ++ r) = (ptrL (s ++ r)).getD [] := rfl
  rw [this, h3]
  rfl
 refine ⟨?_, ?_⟩
 ·rw [wiB_some h4 h1, h5]
  apply decide_eq_true
  simp
 ·rw [wiE_eq, h4, h1]
  rfl
theorem wi_trans {r s t : List UInt8} (h1 : (ptrL r).isSome = true) (h2 : (ptrL s).isSome = true) (h3 : (ptrL t).isSome = true) : wiB r s = false ∨ (wiB r s = true ∧ wiB s t = false) ∨ (wiB r s = true ∧ wiB s t = true ∧ wiB r t = true) := by
 cases hx : wiB r s with
 | false => exact .inl rfl
 | true =>
  cases hy : wiB s t with
  | false => exact .inr (.inl ⟨rfl, rfl⟩)
  | true =>
   refine .inr (.inr ⟨rfl, rfl, ?_⟩)
   rw [wiB_some h1 h2] at hx
   rw [wiB_some h2 h3] at hy
   rw [wiB_some h1 h3]
   exact decide_eq_true (take_trans (of_decide_eq_true hx) (of_decide_eq_true hy))
/-- What the calls answer, taken together: seven ways. -/
def ChK (a : Bool) (ea es : Int) (x : Bool) (ex : Int) (y : Bool) (ey : Int) (z : Bool) (ez er : Int) (b : Bool) (eb : Int) : Prop :=
 (a = false ∧ ea = 200 ∧ es = 200 ∧ ex = 200 ∧ er = 200) ∨ (a = false ∧ ea = 200 ∧ es = 200 ∧ ex = 200 ∧ er = 0) ∨ (a = true ∧ ea = 0 ∧ es = 0 ∧ ex = 200 ∧ er = 200) ∨
 (a = true ∧ ea = 0 ∧ es = 0 ∧ ex = 0 ∧ ey = 200 ∧ er = 0 ∧ b = true ∧ eb = 0) ∨
 (a = true ∧ ea = 0 ∧ es = 0 ∧ ex = 0 ∧ ey = 0 ∧ ez = 0 ∧ er = 0 ∧ b = true ∧ eb = 0 ∧ x = false) ∨
 (a = true ∧ ea = 0 ∧ es = 0 ∧ ex = 0 ∧ ey = 0 ∧ ez = 0 ∧ er = 0 ∧ b = true ∧ eb = 0 ∧ x = true ∧ y = false) ∨
 (a = true ∧ ea = 0 ∧ es = 0 ∧ ex = 0 ∧ ey = 0 ∧ ez = 0 ∧ er = 0 ∧ b = true ∧ eb = 0 ∧ x = true ∧ y = true ∧ z = true)
theorem chain_key (r s t : List UInt8) : ChK (wiB s s) (wiE s s) (ptE s) (wiB r s) (wiE r s) (wiB s t) (wiE s t) (wiB r t) (wiE r t) (ptE r) (wiB (s ++ r) s) (wiE (s ++ r) s) := by
 unfold ChK
 cases hs : (ptrL s).isSome with
 | false =>
  have h1 := wi_none1 hs s
  have h2 := wi_none2 hs r
  cases hr : (ptrL r).isSome with
  | false => exact .inl ⟨h1.1, h1.2.1, h1.2.2, h2.2.1, by rw [ptE_eq, hr]; rfl⟩
  | true => exact .inr (.inl ⟨h1.1, h1.2.1, h1.2.2, h2.2.1, by rw [ptE_eq, hr]; rfl⟩)
 | true =>
  have h1 : wiE s s = 0 := by rw [wiE_eq, hs]; rfl
  have h2 : ptE s = 0 := by rw [ptE_eq, hs]; rfl
  cases hr : (ptrL r).isSome with
  | false => exact .inr (.inr (.inl ⟨wi_self hs, h1, h2, by rw [wiE_eq, hr]; rfl, by rw [ptE_eq, hr]; rfl⟩))
  | true =>
   have h3 : wiE r s = 0 := by rw [wiE_eq, hr, hs]; rfl
   have h4 : ptE r = 0 := by rw [ptE_eq, hr]; rfl
   obtain ⟨h5, h6⟩ := wi_behind hs hr
   cases ht : (ptrL t).isSome with
   | false => exact .inr (.inr (.inr (.inl ⟨wi_self hs, h1, h2, h3, by rw [wiE_eq, ht, hs]; rfl, h4, h5, h6⟩)))
   | true =>
    have h7 : wiE s t = 0 := by rw [wiE_eq, hs, ht]; rfl
    have h8 : wiE r t = 0 := by rw [wiE_eq, hr, ht]; rfl
    rcases wi_trans hr hs ht with k | ⟨k, k'⟩ | ⟨k, k', k''⟩
    ·exact .inr (.inr (.inr (.inr (.inl ⟨wi_self hs, h1, h2, h3, h7, h8, h4, h5, h6, k⟩))))
    ·exact .inr (.inr (.inr (.inr (.inr (.inl ⟨wi_self hs, h1, h2, h3, h7, h8, h4, h5, h6, k, k'⟩)))))
    ·exact .inr (.inr (.inr (.inr (.inr (.inr ⟨wi_self hs, h1, h2, h3, h7, h8, h4, h5, h6, k, k', k''⟩)))))
set_option maxRecDepth 10000 in
set_option maxHeartbeats 8000000 in
theorem pointerChains_walk (r : ByteArray) (hr : r.size ≤ 1048576) (s : ByteArray) (hs : s.size ≤ 1048576) (t : ByteArray) (ht : t.size ≤ 1048576) (w : World) (hT : TabU w) :
  Calls Tryd.prog 4 #[.string r, .string s, .string t] w fun e w' => e = .returned (.bool true) ∧ Below w.heap.size w w' := by
 obtain ⟨lr, rfl⟩ : ∃ l, r = mkL l := ⟨_, (mkL_data r).symm⟩
 obtain ⟨ls, rfl⟩ : ∃ l, s = mkL l := ⟨_, (mkL_data s).symm⟩
 obtain ⟨lt, rfl⟩ : ∃ l, t = mkL l := ⟨_, (mkL_data t).symm⟩
 rw [mkL_size] at hr hs ht
 have c0 := hid (fun (u : World) (h : TabU u) => awake20_calls u h)
 have c1 := hid (fun u : World => within_calls ls ls (by omega) (by omega) u)
 have c2 := hid (fun u : World => parse20_calls ls (by omega) u)
 have c3 := hid (fun u : World => within_calls lr ls (by omega) (by omega) u)
 have c4 := hid (fun u : World => within_calls ls lt (by omega) (by omega) u)
 have c5 := hid (fun u : World => within_calls lr lt (by omega) (by omega) u)
 have c6 := hid (fun u : World => parse20_calls lr (by omega) u)
 have c7 := hid (fun u : World => within_calls (ls ++ lr) ls (by simp; omega) (by omega) u)
 have hadd : ∀ u : World, (Op.stringOp .add (mkL ls) (mkL lr)).run Tryd.prog u = .ok (.string (mkL (ls ++ lr))) u := fun u => by rw [run_string_add_sum u (mkL ls) (mkL lr) (by rw [mkL_size, mkL_size]; omega), mkL_app]
 have key := chain_key lr ls lt
 have hT' := hid hT
 generalize wiB ls ls = a at c1 key
 generalize wiE ls ls = ea at c1 key
 generalize ptE ls = es at c2 key
 generalize wiB lr ls = x at c3 key
 generalize wiE lr ls = ex at c3 key
 generalize wiB ls lt = y at c4 key
 generalize wiE ls lt = ey at c4 key
 generalize wiB lr lt = z at c5 key
 generalize wiE lr lt = ez at c5 key
 generalize ptE lr = er at c6 key
 generalize wiB (ls ++ lr) ls = b at c7 key
 generalize wiE (ls ++ lr) ls = eb at c7 key
 generalize (ptN ls).map mkL = Ks at c2
 generalize (ptN lr).map mkL = Kr at c6
 generalize mkL (ls ++ lr) = sr at c7 hadd
 generalize mkL lr = zr at c3 c5 c6 hadd ⊢
 generalize mkL ls = zs at c1 c2 c3 c4 c7 hadd ⊢
 generalize mkL lt = zt at c4 c5 ⊢
 clear hr hs ht hT
 unfold ChK at key
 rcases key with ⟨rfl, rfl, rfl, rfl, rfl⟩ | ⟨rfl, rfl, rfl, rfl, rfl⟩ | ⟨rfl, rfl, rfl, rfl, rfl⟩ | ⟨rfl, rfl, rfl, rfl, rfl, rfl, rfl, rfl⟩ | ⟨rfl, rfl, rfl, rfl, rfl, rfl, rfl, rfl, rfl, rfl⟩ | ⟨rfl, rfl, rfl, rfl, rfl, rfl, rfl, rfl, rfl, rfl, rfl⟩ | ⟨rfl, rfl, rfl, rfl, rfl, rfl, rfl, rfl, rfl, rfl, rfl, rfl⟩
 all_goals
  go_enter Tryd.func4, Tryd.ntmps4
  go_wp2_with fail
  refine Calls.mono (c0.out _ hT'.out) ?_
  rintro e w0 ⟨rfl, b0⟩
  have B0 := hid b0
  clear b0 c0
  go_wp2_with fail
  refine Calls.mono (c1.out _) ?_
  rintro e w1 ⟨rfl, b1⟩
  have B1 := hid (B0.out.trans (b1.mono B0.out.size))
  clear b1 c1 B0
  go_wp2_with fail
  refine Calls.mono (c2.out _) ?_
  rintro e w2 ⟨v, rfl, k2, b2⟩
  obtain ⟨so2, cap2, rfl⟩ := k2.shape
  have B2 := hid (B1.out.trans (b2.mono B1.out.size))
  clear b2 k2 B1
  go_wp2_with fail
  refine Calls.mono (c3.out _) ?_
  rintro e w3 ⟨rfl, b3⟩
  have B3 := hid (B2.out.trans (b3.mono B2.out.size))
  clear b3 c3 B2
  go_wp2_with fail
  refine Calls.mono (c4.out _) ?_
  rintro e w4 ⟨rfl, b4⟩
  have B4 := hid (B3.out.trans (b4.mono B3.out.size))
  clear b4 c4 B3
  go_wp2_with fail
  refine Calls.mono (c5.out _) ?_
  rintro e w5 ⟨rfl, b5⟩
  have B5 := hid (B4.out.trans (b5.mono B4.out.size))
  clear b5 c5 B4
  go_wp2_with fail
  refine Calls.mono (c6.out _) ?_
  rintro e w6 ⟨v, rfl, k6, b6⟩
  obtain ⟨so6, cap6, rfl⟩ := k6.shape
  have B6 := hid (B5.out.trans (b6.mono B5.out.size))
  clear b6 k6 c6 B5
  go_wp2_with fail
  refine Calls.mono (c2.out _) ?_
  rintro e w7 ⟨v, rfl, k7, b7⟩
  obtain ⟨so7, cap7, rfl⟩ := k7.shape
  have B7 := hid (B6.out.trans (b7.mono B6.out.size))
  clear b7 k7 c2 B6
  go_wp2_with fail
  refine Calls.mono (c7.out _) ?_
  rintro e w8 ⟨rfl, b8⟩
  have B8 := hid (B7.out.trans (b8.mono B7.out.size))
  clear b8 c7 B7
  go_wp2
  go_ret
  exact ⟨rfl, B8.out⟩
end Go.Proofs.YtjlcliicdclooaaDoor
