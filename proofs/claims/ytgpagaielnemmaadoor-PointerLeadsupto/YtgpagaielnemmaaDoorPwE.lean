/-
 tree.Walk: what its rounds tell; quarrylaw20.twice.
-/
import Derived.Test.YtgpagaielnemmaaDoorPwC
import Derived.Test.YtgpagaielnemmaaDoorPwD
import Derived.Test.YtgpagaielnemmaaDoorTpC2
namespace Go.Proofs.YtgpagaielnemmaaDoor
open Go.RowKit Go.Shelf
set_option maxRecDepth 10000 in
set_option maxHeartbeats 4000000 in
theorem walkF_calls (t : Vt) (hwf : Hid (wfV t 1024 = true)) (hln : lnV t) (k : Int) (b : Bool) (r tx : ByteArray) (ko : Option Addr) (N kc : Nat) (vo : Option Addr) (M vc : Nat) (w : World) (hT : Hid (TabU w)) (ha : Hid (ValAt w t (.agg #[.int .i64 k, .bool b, .string r, .string tx, .slice ko N kc, .slice vo M vc]))) :
  Calls Tryd.prog 11 #[.agg #[.int .i64 k, .bool b, .string r, .string tx, .slice ko N kc, .slice vo M vc]] w fun e w' => ∃ (Bk : Nat) (cs : Array Value), e = .returned (.func (.func 31) #[] #[.pointer (some ⟨Bk, 0, none⟩)]) ∧ w.heap.size ≤ Bk ∧ At w' Bk cs 25 ∧ ValOn (fun b => w.heap.size ≤ b) w' t (.agg cs) ∧ Below w.heap.size w w' := by
 have hmf : ∀ (fn : Fn) (first cap : Array Value) (w : World), (Instr.makeFunc fn first cap).run Tryd.prog w = .ok (.func fn first cap) w := fun _ _ _ _ => rfl
 have A1 : Hid (At (w.alloc (.cells #[.int .i64 k, .bool b, .string r, .string tx, .slice ko N kc, .slice vo M vc] 25)) w.heap.size #[.int .i64 k, .bool b, .string r, .string tx, .slice ko N kc, .slice vo M vc] 25) := At.new w _ _
 have B1 : Hid (Below w.heap.size w (w.alloc (.cells #[.int .i64 k, .bool b, .string r, .string tx, .slice ko N kc, .slice vo M vc] 25))) := (Below.refl _ w).alloc (Nat.le_refl _) _
 have hf := hid (fun u (h1 : TabU u) h2 => formedP_calls t (.agg #[.int .i64 k, .bool b, .string r, .string tx, .slice ko N kc, .slice vo M vc]) u h1 h2)
 rw [hwf.out] at hf
 have hcp := hid (fun u h => copiedP_ex _ t (Nat.le_refl _) hln (.agg #[.int .i64 k, .bool b, .string r, .string tx, .slice ko N kc, .slice vo M vc]) u h)
 generalize hW1 : w.alloc (.cells #[.int .i64 k, .bool b, .string r, .string tx, .slice ko N kc, .slice vo M vc] 25) = W1 at A1 B1
 go_enter Tryd.func11, Tryd.ntmps11
 go_wp2_with (first | refine wpList_load_want 25 _ w.heap.size 0 [.int .i64 k, .bool b, .string r, .string tx, .slice ko N kc, .slice vo M vc] _ (A1.out.range rfl) Tryd.underlying25 sizeVl rfl rfl rfl (by rfl) ?_ | fail)
 refine Calls.mono (hf.out _ (hT.out.below B1.out) (ha.out.kept B1.out)) ?_
 rintro e W2 ⟨rfl, b2⟩
 have A2 := hid (A1.out.keptAll b2)
 have B2 := hid (B1.out.trans (b2.mono B1.out.size))
 clear hf b2 A1 B1 hW1
 go_wp2_with (first | refine wpList_load_want 25 _ w.heap.size 0 [.int .i64 k, .bool b, .string r, .string tx, .slice ko N kc, .slice vo M vc] _ (A2.out.range rfl) Tryd.underlying25 sizeVl rfl rfl rfl (by rfl) ?_ | fail)
 refine Calls.mono (hcp.out _ (ha.out.kept B2.out)) ?_
 rintro e W3 ⟨x, rfl, vx, b3⟩
 obtain ⟨k1, b1, r1, t1, ko1, N1, kc1, vo1, M1, vc1, rfl⟩ := vx.at.lets
 have B3 := hid (B2.out.trans (b3.mono B2.out.size))
 have V3 := hid (vx.mono (S' := fun c => w.heap.size ≤ c) (fun c _ hc => Nat.le_trans B2.out.size hc))
 clear hcp b3 vx A2
 have N4 := hid (At.new W3 #[.int .i64 k1, .bool b1, .string r1, .string t1, .slice ko1 N1 kc1, .slice vo1 M1 vc1] 25)
 have B4 := hid (show Below W3.heap.size W3 (W3.alloc (.cells #[.int .i64 k1, .bool b1, .string r1, .string t1, .slice ko1 N1 kc1, .slice vo1 M1 vc1] 25)) from (Below.refl _ _).alloc (Nat.le_refl _) _)
 have hb3 := hid B3.out.size
 go_wp2
 go_ret
 exact ⟨W3.heap.size, _, rfl, hb3.out, N4.out, V3.out.keptB B4.out, B3.out.trans (B4.out.mono B3.out.size)⟩
set_option maxRecDepth 10000 in
set_option maxHeartbeats 4000000 in
/-- What the rounds of a Walk tell: the value and its parts. -/
theorem walk2_tell (S : Nat → Prop) (n : Nat) (t : Vt) (hln : lnV t) (hok : okP t) (hb : ∀ x ∈ prV [] t, x.1.length ≤ 1099511627776) (Bk : Nat) (cs : Array Value) (w : World) (hA : At w Bk cs 25) (hV : ValOn S w t (.agg cs)) :
  SeqTellR (fun W => PowT W ∧ MxI W) n Tryd.prog 31 #[.pointer (some ⟨Bk, 0, none⟩)] (TellE (prV [] t)) (KpS S) (prV [] t).length w := by
 intro l J Jx W hbW hJ hJx hGd hY h0
 obtain ⟨k1, b1, r1, t1, ko1, N1, kc1, vo1, M1, vc1, he⟩ := hV.at.lets
 injection he with he
 subst he
 have hA' := hid (hA.keptAll hbW)
 have hV' := hid (hV.keptB hbW)
 have hw := hid (callsIn_wide.1 (walk_ex S W.heap.size l n J Jx (prV [] t) hJ hGd hb hY _ t (Nat.le_refl _) hln hok [] _ 0 W (Nat.le_refl _) hV'.out h0 (fun i x hx => by rw [Nat.zero_add]; exact hx)))
 refine callsIn_of_wp Tryd.func31 rfl trivial ?_ rfl
 simp only [Tryd.ntmps31, List.size_toArray, List.length_cons, List.length_nil, Nat.reduceAdd, Nat.reduceSub, Array.replicate_succ, Array.replicate_zero, List.push_toArray, List.append_toArray, List.nil_append, List.cons_append]
 clear hY hGd hJ hJx h0 hb
 gi_wp2_with (first | refine wpListIn_load_want 25 _ Bk 0 [.int .i64 k1, .bool b1, .string r1, .string t1, .slice ko1 N1 kc1, .slice vo1 M1 vc1] _ (hA'.out.range rfl) Tryd.underlying25 sizeVl rfl rfl rfl (by rfl) ?_ | fail)
 refine ⟨trivial, (fun h => by cases h), ?_⟩
 refine (callsIn_wide.2 hw.out).mono ?_
 rintro e W' hor
 obtain ⟨Bq, rfl, hor'⟩ : ∃ Bq : Bool, e = .returned (.bool Bq) ∧ Hid (J (prV [] t).length W' ∨ ∃ r, r ≤ (prV [] t).length ∧ Jx r W') := by
  rcases hor with ⟨h1, h2, h3⟩ | ⟨h1, h2, h3⟩
  ·exact ⟨true, h1, hid (.inl (by rw [Nat.zero_add] at h2; exact h2))⟩
  ·exact ⟨false, h1, hid (.inr h2)⟩
 clear hor hw
 gi_wp2
 refine bodyPost_end (results_none rfl _ _ _) rfl ?_
 exact ⟨⟨_, rfl⟩, hor'.out⟩
set_option maxRecDepth 10000 in
set_option maxHeartbeats 4000000 in
theorem twice_ex : ∀ (n : Nat) (t : Vt), SizeOf.sizeOf t ≤ n → ∀ (va : Value) (w : World), ValAt w t va →
  Calls Tryd.prog 10 #[va] w fun e w' => ∃ Bq : Bool, e = .returned (.bool Bq) ∧ Hid (Bq = false → noTw t) ∧ Below w.heap.size w w' := by
 intro n
 induction n with
 | zero =>
  intro t hs
  cases t
  simp at hs
 | succ n ih =>
  intro t hs va w ha
  cases ha with
  | mk k b r t ks vs ko kc vo vc X hw hz hk hr hv =>
  have ih' := hid ih
  have hs' := hid hs
  have hk1 := hid hk
  have hr1 := hid hr
  have hv1 := hid hv
  obtain ⟨N, hN⟩ : ∃ N, Hid (ks.length = N) := ⟨_, rfl⟩
  obtain ⟨M, hM⟩ : ∃ M, Hid (vs.length = M) := ⟨_, rfl⟩
  rw [hN.out, hM.out]
  have hNi : (N : Int) ≤ 9223372036854775807 := by have := hz.2.2.1; rw [hN.out] at this; unfold capT at this; omega
  have hMi : (M : Int) ≤ 9223372036854775807 := by have := hz.2.2.2; rw [hM.out] at this; unfold capT at this; omega
  clear ih hs hk hr hv hz hw
  have A1 : Hid (At (w.alloc (.cells #[.int .i64 k, .bool b, .string r, .string t, .slice ko N kc, .slice vo M vc] 25)) w.heap.size #[.int .i64 k, .bool b, .string r, .string t, .slice ko N kc, .slice vo M vc] 25) := At.new w _ _
  have B1 : Hid (Below w.heap.size w (w.alloc (.cells #[.int .i64 k, .bool b, .string r, .string t, .slice ko N kc, .slice vo M vc] 25))) := (Below.refl _ w).alloc (Nat.le_refl _) _
  go_enter Tryd.func10, Tryd.ntmps10
  go_wp2
  go_loopw [3] (fun ii wr => ∃ (i : Nat), i ≤ N ∧ ii = .int .i64 (i : Int) ∧ Hid (∀ (i' j' : Nat) (s : ByteArray), i' < i → j' < i' → ks[i']? = some s → ks[j']? ≠ some s) ∧ Hid (At wr w.heap.size #[.int .i64 k, .bool b, .string r, .string t, .slice ko N kc, .slice vo M vc] 25) ∧ Hid (Below w.heap.size w wr)) (fun ii _ => N - (intOf ii).toNat)
  case atStart => exact ⟨0, Nat.zero_le _, rfl, hid (fun i' j' s h => absurd h (Nat.not_lt_zero _)), A1, B1⟩
  case round =>
   obtain ⟨i, hi, rfl, hno, hA, hb⟩ := hrel
   clear A1 B1
   have c4 : wr.cell? ⟨w.heap.size, 4, none⟩ = some (.slice ko N kc) := hA.out.cell 4
   have c5 : wr.cell? ⟨w.heap.size, 5, none⟩ = some (.slice vo M vc) := hA.out.cell 5
   by_cases hlt : i < N
   ·have hli : (i : Int) < (N : Int) := by omega
    obtain ⟨s1, hs1⟩ : ∃ s, Hid (ks[i]? = some s) := ⟨_, List.getElem?_eq_getElem (by rw [hN.out]; exact hlt)⟩
    obtain ⟨g, o, rfl, hg, hc1⟩ : ∃ g o, ko = some ⟨g, o, none⟩ ∧ g < w.heap.size ∧ w.cell? ⟨g, o + i, none⟩ = some (.string s1) := by
     obtain ⟨-, g, o, h1, h2, h3⟩ := hk1.out i s1 hs1.out
     exact ⟨g, o, h1, h2, h3⟩
    have hcs : Hid (∀ (u : World) (j : Nat) (s : ByteArray), Below w.heap.size w u → ks[j]? = some s → u.cell? ⟨g, o + j, none⟩ = some (.string s)) := fun u j s hu hj => by
     obtain ⟨-, g', o', h1, h2, h3⟩ := hk1.out j s hj
     injection h1 with h1
     injection h1 with h1 h1'
     subst h1 h1'
     rw [World.cell?_of_block (w := w) (hu.block _ h2)]
     exact h3
    obtain ⟨wo, hwo⟩ : ∃ wo, wo = wr := ⟨_, rfl⟩
    go_wp2
    go_loopw [4] (fun jj wi => ∃ (j : Nat), j ≤ i ∧ jj = .int .i64 (j : Int) ∧ Hid (∀ (j' : Nat), j' < j → ks[j']? ≠ some s1) ∧ Hid (At wi w.heap.size #[.int .i64 k, .bool b, .string r, .string t, .slice (some ⟨g, o, none⟩) N kc, .slice vo M vc] 25) ∧ Hid (Below w.heap.size w wi)) (fun jj _ => i - (intOf jj).toNat)
    case atStart => exact ⟨0, Nat.zero_le _, rfl, hid (fun j' h => absurd h (Nat.not_lt_zero _)), hA, hb⟩
    case round =>
     obtain ⟨j, hj, rfl, hnj, hAi, hbi⟩ := hrel
     have i4 : wr.cell? ⟨w.heap.size, 4, none⟩ = some (.slice (some ⟨g, o, none⟩) N kc) := hAi.out.cell 4
     by_cases hltj : j < i
     ·have hlj : (j : Int) < (i : Int) := by omega
      have hljN : (j : Int) < (N : Int) := by omega
      obtain ⟨s2, hs2⟩ : ∃ s, Hid (ks[j]? = some s) := ⟨_, List.getElem?_eq_getElem (by rw [hN.out]; omega)⟩
      have d1 : wr.drew.cell? ⟨g, o + i, none⟩ = some (.string s1) := hcs.out _ i s1 (hbi.out.drew) hs1.out
      have d2 : wr.drew.cell? ⟨g, o + j, none⟩ = some (.string s2) := hcs.out _ j s2 (hbi.out.drew) hs2.out
      have d4 : wr.drew.cell? ⟨w.heap.size, 4, none⟩ = some (.slice (some ⟨g, o, none⟩) N kc) := i4
      have Ad := hid hAi.out.drew
      have Bd := hid hbi.out.drew
      obtain ⟨Eq, hEq⟩ : ∃ Eq : Bool, (s1.toList == s2.toList) = Eq := ⟨_, rfl⟩
      have hEq' := hid hEq
      clear hc1 hA hb c4 c5 hAi hbi
      go_wp2
      go_region
      generalize wr.drew = wd at *
      cases Eq with
      | true =>
       go_wp2
       go_ret
       exact ⟨true, rfl, hid (fun h => by cases h), Bd.out⟩
      | false =>
       go_wp2
       go_roundw
       case rel => exact ⟨j + 1, by omega, by simp, hid (fun j' hj' => by
        by_cases e : j' = j
        ·subst e
         rw [hs2.out]
         intro h
         injection h with h
         subst h
         have := hEq'.out
         simp at this
        ·exact hnj.out j' (by omega)), Ad, Bd⟩
       case measure => simp [intOf]; omega
     ·obtain rfl : j = i := by omega
      go_wp2
      go_roundw
      case rel => exact ⟨j + 1, by omega, by simp, hid (fun i' j' s h1 h2 h3 => by
       by_cases e : i' = j
       ·subst e
        rw [hs1.out] at h3
        injection h3 with h3
        subst h3
        exact hnj.out j' h2
       ·exact hno.out i' j' s (by omega) h2 h3), hAi, hbi⟩
      case measure => simp [intOf]; omega
   ·obtain rfl : N = i := by omega
    have hND := hid (show NoD ks from fun i' j' s h1 h2 => hno.out i' j' s (by rw [← hN.out]; exact (List.getElem?_eq_some_iff.1 h2).1) h1 h2)
    clear hno
    go_wp2
    go_loopw [5] (fun ii wr => ∃ (i : Nat), i ≤ M ∧ ii = .int .i64 (i : Int) ∧ Hid (∀ (i' : Nat) (u : Vt), i' < i → vs[i']? = some u → noTw u) ∧ Hid (At wr w.heap.size #[.int .i64 k, .bool b, .string r, .string t, .slice ko N kc, .slice vo M vc] 25) ∧ Hid (Below w.heap.size w wr)) (fun ii _ => M - (intOf ii).toNat)
    case atStart => exact ⟨0, Nat.zero_le _, rfl, hid (fun i' u h => absurd h (Nat.not_lt_zero _)), hA, hb⟩
    case round =>
     obtain ⟨i, hi', rfl, hno, hAr, hbr⟩ := hrel
     have e5 : wr.cell? ⟨w.heap.size, 5, none⟩ = some (.slice vo M vc) := hAr.out.cell 5
     by_cases hltM : i < M
     ·have hliM : (i : Int) < (M : Int) := by omega
      obtain ⟨u1, hu1⟩ : ∃ u, Hid (vs[i]? = some u) := ⟨_, List.getElem?_eq_getElem (by rw [hM.out]; exact hltM)⟩
      obtain ⟨g, o, rfl, hg, hrg, hl1⟩ := row_range (hr1.out.kept hbr.out) (i := i) (by rw [hM.out]; exact hltM)
      obtain ⟨L1, hL1⟩ : ∃ L, Hid ((X i).toList = L) := ⟨_, rfl⟩
      rw [hL1.out] at hrg hl1
      have z1 : (Tryd.prog.info? 25).map (·.size) = some L1.length := by rw [hl1]; exact sizeVl
      have v1 : Hid (ValAt wr u1 (.agg L1.toArray)) := by
       have := (hv1.out i u1 hu1.out).kept hbr.out
       rw [← hL1.out, Array.toArray_toList]
       exact this
      obtain ⟨k1, b1, r1, t1, ko1, N1, kc1, vo1, M1, vc1, rfl⟩ := v1.out.six
      have hcall := hid (ih'.out u1 (by have hsz := kid_size (k := k) (b := b) (r := r) (t := t) (ks := ks) hu1.out; have := hs'.out; omega) _ wr v1.out)
      have hrgk := hid hrg
      clear hrg hl1 hA hb c4 c5
      go_wp2_with (first | refine wpList_load_want 25 _ g (o + i * 6) [.int .i64 k1, .bool b1, .string r1, .string t1, .slice ko1 N1 kc1, .slice vo1 M1 vc1] _ hrgk.out Tryd.underlying25 z1 rfl rfl rfl (by rfl) ?_ | fail)
      refine Calls.mono hcall.out ?_
      rintro e w5 ⟨Bq, rfl, hBq, hbb⟩
      have B5 := hid (hbr.out.trans (hbb.mono hbr.out.size))
      have A5 := hid (hAr.out.keptAll hbb)
      clear hbb hcall hrgk
      cases Bq with
      | true =>
       go_wp2
       go_ret
       exact ⟨true, rfl, hid (fun h => by cases h), B5.out⟩
      | false =>
       go_wp2
       go_roundw
       case rel => exact ⟨i + 1, by omega, by simp, hid (fun i' u h1 h2 => by
        by_cases e : i' = i
        ·subst e
         rw [hu1.out] at h2
         injection h2 with h2
         subst h2
         first | exact hBq.out rfl | exact hBq.out trivial
        ·exact hno.out i' u (by omega) h2), A5, B5⟩
       case measure => simp [intOf]; omega
     ·obtain rfl : M = i := by omega
      have hfin := hid (show noTw (.mk k b r t ks vs) by
       unfold noTw
       exact ⟨hND.out, noTwL_all (fun i' u h => hno.out i' u (by rw [← hM.out]; exact (List.getElem?_eq_some_iff.1 h).1) h)⟩)
      clear hno hA hb c4 c5
      go_wp2
      go_ret
      exact ⟨false, rfl, hid (fun _ => hfin.out), hbr.out⟩
end Go.Proofs.YtgpagaielnemmaaDoor
