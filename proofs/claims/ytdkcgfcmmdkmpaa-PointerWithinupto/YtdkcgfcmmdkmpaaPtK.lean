/-
  The reference's Within; the law PointerWithin, walked.
-/
import Derived.Test.YtdkcgfcmmdkmpaaPtJ
namespace Go.Proofs.Ytdkcgfcmmdkmpaa
open Go.RowKit Go.Shelf

theorem text_ne (a b : ByteArray) : (a.toList != b.toList) = !decide (a = b) := text_beq a b
set_option maxRecDepth 10000 in
set_option maxHeartbeats 4000000 in
theorem withinR_calls (a b : List UInt8) (ha : a.length ≤ 4294967296) (hb : b.length ≤ 4294967296) (w : World) : Calls Try.prog 12 #[.string (mkL a), .string (mkL b)] w fun e w' => e = .returned (.tuple #[.bool (wiB a b), .int .i64 (wiE a b)]) ∧ Below w.heap.size w w' := by
  have c1 := hid (fun u : World => parseR20_calls a ha u)
  have c2 := hid (fun u : World => parseR20_calls b hb u)
  have l1 := ptN_len a
  have l2 := ptN_len b
  by_cases h12 : (ptrL a).isSome = true ∧ (ptrL b).isSome = true
  · obtain ⟨h1, h2⟩ := h12
    obtain ⟨e1, e2, e3, e4⟩ := wi_some h1 h2
    rw [wi_map] at e1
    rw [e4] at c2
    rw [e3] at c1
    rw [e1, e2]
    have l1' : ((ptN a).map mkL).length ≤ 4294967296 := by rw [List.length_map]; omega
    have l2' : ((ptN b).map mkL).length ≤ 4294967296 := by rw [List.length_map]; omega
    generalize (ptN a).map mkL = S at c1 l1' ⊢
    generalize (ptN b).map mkL = T at c2 l2' ⊢
    generalize mkL a = sa at c1 ⊢
    generalize mkL b = sb at c2 ⊢
    clear l1 l2 h1 h2 e1 e2 e3 e4 ha hb
    obtain ⟨n, hn⟩ : ∃ n, Hid (S.length = n) := ⟨_, rfl⟩
    obtain ⟨m, hm⟩ : ∃ m, Hid (T.length = m) := ⟨_, rfl⟩
    rw [hm.out]
    rw [hn.out] at l1'
    rw [hm.out] at l2'
    obtain ⟨R, hR⟩ : ∃ R, Hid (decide (S.take m = T) = R) := ⟨_, rfl⟩
    rw [hR.out]
    have n1 : (n : Int) ≤ 4294967296 := by omega
    have m1 : (m : Int) ≤ 4294967296 := by omega
    clear l1' l2'
    go_enter Try.func12, Try.ntmps12
    go_wp2_with fail
    refine Calls.mono (c1.out _) ?_
    rintro e w1 ⟨v, rfl, k1, b1⟩
    obtain ⟨so, cap, rfl⟩ := k1.shape
    rw [hn.out] at k1 ⊢
    have B1 := hid b1
    have K1 := hid k1.keys
    clear k1 b1 c1
    go_wp2_with fail
    refine Calls.mono (c2.out _) ?_
    rintro e w2 ⟨v, rfl, k2, b2⟩
    obtain ⟨so2, cap2, rfl⟩ := k2.shape
    rw [hm.out] at k2 ⊢
    have B2 := hid (B1.out.trans (b2.mono B1.out.size))
    have K1' := hid (K1.out.kept b2)
    have K2 := hid k2.keys
    clear k2 b2 c2 B1 K1
    by_cases hmn : m ≤ n
    · have hmi : (m : Int) ≤ (n : Int) := by omega
      go_wp2
      go_loopw [10] (fun ii wr => ∃ i : Nat, i ≤ m ∧ ii = .int .i64 (i : Int) ∧ Hid (∀ j, j < i → S[j]? = T[j]?) ∧ Hid (Below w2.heap.size w2 wr)) (fun ii _ => m - (intOf ii).toNat)
      case atStart => exact ⟨0, Nat.zero_le _, rfl, hid (fun j hj => by omega), hid (Below.refl _ _)⟩
      case round =>
        obtain ⟨i, hi, rfl, hsm, hb⟩ := hrel
        by_cases hlt : i < m
        · have hii : (i : Int) < (m : Int) := by omega
          have hin : (i : Int) < (n : Int) := by omega
          obtain ⟨p, hp⟩ : ∃ p, Hid (S[i]? = some p) := ⟨_, List.getElem?_eq_getElem (by rw [hn.out]; omega)⟩
          obtain ⟨q, hq⟩ : ∃ q, Hid (T[i]? = some q) := ⟨_, List.getElem?_eq_getElem (by rw [hm.out]; exact hlt)⟩
          obtain ⟨-, g, o, rfl, hg, cg⟩ := K1'.out i p hp.out
          obtain ⟨-, h, o', rfl, hh, ch⟩ := K2.out i q hq.out
          have s1 := (hb.out.cell (p := ⟨g, o + i, none⟩) hg).trans cg
          have s2 := (hb.out.cell (p := ⟨h, o' + i, none⟩) hh).trans ch
          have s1' : wr.drew.cell? ⟨g, o + i, none⟩ = some (.string p) := s1
          have s2' : wr.drew.cell? ⟨h, o' + i, none⟩ = some (.string q) := s2
          have i0 : (0 : Int) ≤ (i : Int) := by omega
          have mixed : Try.prog.follows .mixedOrders = true := by kernel_rfl
          clear cg ch hg hh
          by_cases hpq : p = q
          · have hne : (p.toList != q.toList) = false := by rw [text_ne, decide_eq_true hpq]; rfl
            go_wp2
            go_region_o
            go_wp2
            go_roundw
            case rel =>
              refine ⟨i + 1, by omega, by simp, hid (fun j hj => ?_), hid hb.out.drew⟩
              by_cases e : j = i
              · subst e; rw [hp.out, hq.out, hpq]
              · exact hsm.out j (by omega)
            case measure => simp [intOf]; omega
          · have hne : (p.toList != q.toList) = true := by rw [text_ne, decide_eq_false hpq]; rfl
            have hne2 : (p.toList == q.toList) = false := by have := hne; rw [bne] at this; cases h : (p.toList == q.toList) <;> simp [h] at this ⊢
            have hRf := hid (show R = false by
              rw [← hR.out]
              apply decide_eq_false
              intro e
              have h1 : (S.take m)[i]? = T[i]? := by rw [e]
              rw [List.getElem?_take, if_pos hlt, hp.out, hq.out] at h1
              exact hpq (Option.some.inj h1))
            clear hpq
            go_wp2
            go_region_o
            go_wp2
            go_ret2
            exact ⟨by rw [hRf.out]; rfl, (B2.out.trans (hb.out.mono B2.out.size)).drew⟩
        · obtain rfl : i = m := by omega
          have hRt := hid (show R = true by
            rw [← hR.out]
            apply decide_eq_true
            apply List.ext_getElem?
            intro j
            rw [List.getElem?_take]
            split
            · rename_i h; exact hsm.out j h
            · rename_i h
              exact (List.getElem?_eq_none (by rw [hm.out]; omega)).symm)
          go_wp2
          go_ret2
          exact ⟨by rw [hRt.out]; rfl, B2.out.trans (hb.out.mono B2.out.size)⟩
    · have hmi : (n : Int) < (m : Int) := by omega
      have hRf := hid (show R = false by
        rw [← hR.out]
        apply decide_eq_false
        intro e
        have := congrArg List.length e
        rw [List.length_take, hn.out, hm.out] at this
        omega)
      clear hmn hR
      go_wp2
      go_ret2
      exact ⟨by rw [hRf.out]; rfl, B2.out⟩
  · have hE : wiB a b = false ∧ wiE a b = 200 := by
      cases h1 : (ptrL a).isSome with
      | false => exact ⟨(wi_none1 h1 b).1, (wi_none1 h1 b).2.1⟩
      | true =>
        cases h2 : (ptrL b).isSome with
        | false => exact ⟨(wi_none2 h2 a).1, (wi_none2 h2 a).2.1⟩
        | true => exact absurd ⟨h1, h2⟩ h12
    have key : ptE a = 200 ∨ (ptE a = 0 ∧ ptE b = 200) := by
      unfold ptE
      cases h1 : (ptrL a).isSome with
      | false => exact .inl rfl
      | true =>
        cases h2 : (ptrL b).isSome with
        | false => exact .inr ⟨rfl, rfl⟩
        | true => exact absurd ⟨h1, h2⟩ h12
    rw [hE.1, hE.2]
    generalize (ptN a).map mkL = S at c1
    generalize (ptN b).map mkL = T at c2
    generalize mkL a = sa at c1 ⊢
    generalize mkL b = sb at c2 ⊢
    generalize ptE a = Ea at c1 key
    generalize ptE b = Eb at c2 key
    clear l1 l2 h12 hE ha hb
    rcases key with rfl | ⟨rfl, rfl⟩
    · go_enter Try.func12, Try.ntmps12
      go_wp2_with fail
      refine Calls.mono (c1.out _) ?_
      rintro e w1 ⟨v, rfl, k1, b1⟩
      obtain ⟨so, cap, rfl⟩ := k1.shape
      have B1 := hid b1
      clear k1 b1 c1
      go_wp2_with fail
      refine Calls.mono (c2.out _) ?_
      rintro e w2 ⟨v, rfl, k2, b2⟩
      obtain ⟨so2, cap2, rfl⟩ := k2.shape
      have B2 := hid (B1.out.trans (b2.mono B1.out.size))
      clear k2 b2 c2 B1
      go_wp2
      go_ret2
      exact ⟨rfl, B2.out⟩
    · go_enter Try.func12, Try.ntmps12
      go_wp2_with fail
      refine Calls.mono (c1.out _) ?_
      rintro e w1 ⟨v, rfl, k1, b1⟩
      obtain ⟨so, cap, rfl⟩ := k1.shape
      have B1 := hid b1
      clear k1 b1 c1
      go_wp2_with fail
      refine Calls.mono (c2.out _) ?_
      rintro e w2 ⟨v, rfl, k2, b2⟩
      obtain ⟨so2, cap2, rfl⟩ := k2.shape
      have B2 := hid (B1.out.trans (b2.mono B1.out.size))
      clear k2 b2 c2 B1
      go_wp2
      go_ret2
      exact ⟨rfl, B2.out⟩
set_option maxRecDepth 10000 in
set_option maxHeartbeats 2000000 in
theorem pointerWithin_walk (s : ByteArray) (hs : s.size ≤ 1048576) (t : ByteArray) (ht : t.size ≤ 1048576) (w : World) : Calls Try.prog 5 #[.string s, .string t] w fun e w' => e = .returned (.bool true) ∧ Below w.heap.size w w' := by
  obtain ⟨a, rfl⟩ : ∃ l, s = mkL l := ⟨_, (mkL_data s).symm⟩
  obtain ⟨b, rfl⟩ : ∃ l, t = mkL l := ⟨_, (mkL_data t).symm⟩
  rw [mkL_size] at hs ht
  have c1 := fun u : World => within_calls [47, 97, 47, 98] [47, 97] (by decide) (by decide) u
  rw [show wiB [47, 97, 47, 98] [47, 97] = true from rfl, show wiE [47, 97, 47, 98] [47, 97] = 0 from rfl] at c1
  have c1' : Hid (∀ u : World, Calls Try.prog 11 #[.string ⟨#[47, 97, 47, 98]⟩, .string ⟨#[47, 97]⟩] u fun e w' => e = .returned (.tuple #[.bool true, .int .i64 0]) ∧ Below u.heap.size u w') := hid c1
  have c2 := hid (fun u : World => within_calls a b (by omega) (by omega) u)
  have c3 := hid (fun u : World => withinR_calls a b (by omega) (by omega) u)
  generalize wiB a b = B at c2 c3
  generalize wiE a b = E at c2 c3
  generalize mkL a = sa at c2 c3 ⊢
  generalize mkL b = sb at c2 c3 ⊢
  clear c1 hs ht
  go_enter Try.func5, Try.ntmps5
  go_wp2_with fail
  refine Calls.mono (c1'.out _) ?_
  rintro e w1 ⟨rfl, b1⟩
  have B1 := hid b1
  clear b1 c1'
  go_wp2_with fail
  refine Calls.mono (c2.out _) ?_
  rintro e w2 ⟨rfl, b2⟩
  have B2 := hid (B1.out.trans (b2.mono B1.out.size))
  clear b2 c2 B1
  go_wp2_with fail
  refine Calls.mono (c3.out _) ?_
  rintro e w3 ⟨rfl, b3⟩
  have B3 := hid (B2.out.trans (b3.mono B2.out.size))
  clear b3 c3 B2
  cases B
  · go_wp2
    go_ret
    exact ⟨rfl, B3.out⟩
  · go_wp2
    go_ret
    exact ⟨rfl, B3.out⟩
end Go.Proofs.Ytdkcgfcmmdkmpaa
