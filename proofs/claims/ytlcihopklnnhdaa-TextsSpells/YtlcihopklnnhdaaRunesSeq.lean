/-
  What utf8.Runes tells: the characters of a text and where each begins.
-/
import Derived.Test.YtlcihopklnnhdaaFreeKit
import Derived.Test.YtlcihopklnnhdaaUtf8Walk
import Derived.Test.YtlcihopklnnhdaaUtf8State
import Derived.Deep.DeepCutAuto
namespace Go.Proofs.Ytlcihopklnnhdaa
open Go.RowKit Go.Shelf

attribute [local go_sem] Oper.semAt_some

/-- What is told at the x-th time. -/
def encU (T : List (Nat × Nat)) (x : Nat) : Array Value := #[.int .i64 (((T.getD x (0, 0)).1 : Nat) : Int), .int .i32 (((T.getD x (0, 0)).2 : Nat) : Int)]
theorem only_grown {b : Nat} {w w' : World} (h : Only b w w') : w.grownBy w' (some b) := ⟨h.1.os, h.1.tape, h.1.output, by rw [h.2.1]; exact Nat.le_refl _, fun k _ hk => h.2.2 k (fun e => hk (by rw [e]))⟩

theorem bits_or_i32_nat (a b : Nat) (ha : a < 2147483648) (hb : b < 2147483648) : bits .or .i32 (a : Int) (b : Int) = ((a ||| b : Nat) : Int) := by
  have hx : a ||| b < 2 ^ 31 := Nat.or_lt_two_pow (n := 31) ha hb
  have h1 : (BitVec.ofInt 32 (a : Int)).toNat = a := by
    rw [BitVec.ofInt_natCast, BitVec.toNat_ofNat]; exact Nat.mod_eq_of_lt (by omega)
  have h2 : (BitVec.ofInt 32 (b : Int)).toNat = b := by
    rw [BitVec.ofInt_natCast, BitVec.toNat_ofNat]; exact Nat.mod_eq_of_lt (by omega)
  show IntKind.i32.wrap ((BitVec.ofInt 32 (a : Int) ||| BitVec.ofInt 32 (b : Int)).toNat : Int) = _
  rw [BitVec.toNat_or, h1, h2]
  simp [IntKind.wrap, IntKind.signed, IntKind.bits]
  omega
theorem and63 : ∀ x : Fin 256, bits BinOp.and IntKind.u8 ((x.val : Nat) : Int) 63 = ((x.val % 64 : Nat) : Int) := by decide +kernel
theorem andShr : ∀ (x : Fin 256) (k : Fin 4), bits BinOp.and IntKind.u8 ((x.val : Nat) : Int) ((127 : Int) / 2 ^ k.val) = ((x.val &&& (127 >>> k.val) : Nat) : Int) := by decide +kernel
theorem or_mul (r y : Nat) (h : y < 64) : r * 64 ||| y = r * 64 + y := by
  have := Nat.two_pow_add_eq_or_of_lt (i := 6) (b := y) (by omega) r
  rw [show (2 : Nat) ^ 6 = 64 by decide, Nat.mul_comm] at this
  exact this.symm

theorem wrap32_nat (n : Nat) (h : n < 2147483648) : wrap32 (n : Int) = (n : Int) := by unfold wrap32; omega
theorem rune_or (r y : Nat) (hr : r < 20480) (hy : y < 64) : bits BinOp.or IntKind.i32 (wrap32 ((r : Int) * 64)) (wrap32 (y : Int)) = ((r * 64 + y : Nat) : Int) := by
  have e1 := wrap32_nat (r * 64) (by omega)
  rw [show ((r * 64 : Nat) : Int) = (r : Int) * 64 from Int.natCast_mul _ _] at e1
  rw [e1, wrap32_nat y (by omega), show (r : Int) * 64 = ((r * 64 : Nat) : Int) from (Int.natCast_mul _ _).symm, bits_or_i32_nat _ _ (by omega) (by omega), or_mul _ _ hy]

set_option maxRecDepth 100000 in
set_option maxHeartbeats 4000000 in
theorem runes1_in (n : Nat) (l Bs n0 B : Nat) (s : ByteArray) (hs : s.size < 9223372036854775807) (J Jx : List Nat → World → Prop) (W : World) (hB : B ≤ W.heap.size) (hJ : FreeFrom W.heap.size J)
    (hY : ∀ pre x W1, J pre W1 → pre.length < (telOf s).length → YieldAt Fence.wide (n - 1) Try.prog l (encU (telOf s) x) W1 fun e W' =>
      (e = .returned (.bool true) ∧ J (pre ++ [x]) W' ∧ Held n0 B Bs W1 W') ∨ (e = .returned (.bool false) ∧ Jx (pre ++ [x]) W' ∧ Held n0 B Bs W1 W'))
    (has : At W Bs #[.string s] 9) (h0 : J [] W) :
    CallsIn Fence.wide n Try.prog 37 #[.func (.yield l) #[] #[], .pointer (some ⟨Bs, 0, none⟩)] W fun e W' => (∃ v, e = .returned v) ∧
      ((∃ xs, xs = List.range (telOf s).length ∧ J xs W') ∨ (∃ pre, (∃ k, k ≤ (telOf s).length ∧ pre = List.range k) ∧ Jx pre W')) := by
  obtain ⟨W1, hW1⟩ : ∃ W1, W.alloc (.cells #[.int .i64 0, .bool false, .int .i64 0, .int .u8 0, .int .u8 0] 61) = W1 := ⟨_, rfl⟩
  have hAs := has.alloc (.cells #[.int .i64 0, .bool false, .int .i64 0, .int .u8 0, .int .u8 0] 61)
  have hAb : At (W.alloc (.cells #[.int .i64 0, .bool false, .int .i64 0, .int .u8 0, .int .u8 0] 61)) W.heap.size (stC s5) 61 := At.new W (stC s5) 61
  have hJ0 := hJ [] W _ none h0 (World.grownBy_alloc W (.cells #[.int .i64 0, .bool false, .int .i64 0, .int .u8 0, .int .u8 0] 61) none) (fun r e => by cases e)
  have hsz : (W.alloc (.cells #[.int .i64 0, .bool false, .int .i64 0, .int .u8 0, .int .u8 0] 61)).heap.size = W.heap.size + 1 := by simp
  have hb0 : Below W.heap.size W (W.alloc (.cells #[.int .i64 0, .bool false, .int .i64 0, .int .u8 0, .int .u8 0] 61)) := (Below.refl _ _).alloc (Nat.le_refl _) _
  rw [hW1] at hAs hAb hJ0 hsz hb0
  have cs := hAs.cell 0
  simp only [List.getElem?_toArray, List.getElem?_cons_zero] at cs
  have hAs0 := hid hAs
  have hAb0 := hid hAb
  have hJ0' := hid hJ0
  have hJ' := hid hJ
  have hY' := hid hY
  have hBsW := hid has.lt
  have hsz' := hid hsz
  clear has h0 hJ hY hAs hAb hJ0 hsz hb0
  refine callsIn_of_wp Try.func37 rfl trivial ?_ rfl
  simp only [Try.ntmps37, List.size_toArray, List.length_cons, List.length_nil, Nat.reduceAdd, Nat.reduceSub, Array.replicate_succ, Array.replicate_zero, List.push_toArray, List.append_toArray, List.nil_append, List.cons_append]
  gi_wp2
  clear hW1 cs
  obtain ⟨b, hb⟩ : ∃ b, W.heap.size = b := ⟨_, rfl⟩
  rw [hb] at hAb0 ⊢
  gi_loopw [4, 5, 9] (fun rr aa ii wr => ∃ (i p r : Nat) (z : Int) (bb : List Nat) (q : Q5) (pre : List (Nat × Nat)), rr = .int .i32 z ∧ aa = .int .i64 (p : Int) ∧ ii = .int .i64 (i : Int) ∧ Hid (bb ≠ [] → z = (r : Int)) ∧ Hid (WalkAt s p i bb q r pre) ∧ Hid (J (List.range pre.length) wr) ∧ Hid (At wr b (stC ⟨i, false, q⟩) 61) ∧ Hid (At wr Bs #[.string s] 9)) (fun _ _ ii _ => s.size - (intOf ii).toNat)
  case atStart => exact ⟨0, 0, 0, 0, [], s5.q, [], rfl, rfl, rfl, hid (fun h => absurd rfl h), hid (WalkAt.start s), hJ0', hAb0, hAs0⟩
  case round =>
    obtain ⟨i, p, r, z, bb, q, pre, rfl, rfl, rfl, hz, hW, hJr, hAb, hAs⟩ := hrel
    clear hJ0' hAb0 hAs0
    have hile := hW.out.2.1
    by_cases hlt : i < s.size
    · have hlti : (i : Int) < (s.size : Int) := by omega
      have cs := hAs.out.cell 0
      simp only [List.getElem?_toArray, List.getElem?_cons_zero] at cs
      have hti := hid (take_calls b 61 ⟨i, false, q⟩ (byt s i) wr hAb.out (form_left hW.out.2.2.2.1) (by show i < _; omega))
      gi_wp2_with fail
      rw [byt_at]
      refine ⟨trivial, (fun h => by cases h), ?_⟩
      refine (callsIn_wide.2 hti.out).mono ?_
      rintro e w1 ⟨rfl, hO1, hA1⟩
      have hO1' := hid hO1
      have hA1' := hid hA1
      have hJ1 := hid (hJ'.out _ _ _ _ hJr.out (only_grown hO1) (fun r e => by cases e; omega))
      have hAs1 := hid (hO1.at hAs.out (show Bs ≠ b by have := hBsW.out; omega))
      clear hti hO1 hA1 cs
      cases hst : stp q (byt s i) with
      | none =>
        rw [tk_none (s := ⟨i, false, q⟩) rfl hst]
        have hfin := hid (show telOf s = pre from (hW.out.bad hlt hst).2)
        clear hst
        gi_wp2
        refine bodyPost_ret (results_none rfl _ _ _) rfl ?_
        exact ⟨⟨_, rfl⟩, .inl ⟨_, rfl, by rw [hfin.out]; exact hJ1.out⟩⟩
      | some q' =>
        rw [tk_some (s := ⟨i, false, q⟩) rfl hst] at hA1' ⊢
        have hnx := hid (hW.out.next hlt hst)
        have hl3 : q'.left ≤ 3 := stp_left (form_left hW.out.2.2.2.1) hst
        have cs := hAs1.out.cell 0
        have c2 : w1.cell? ⟨b, 2, none⟩ = some (.int .i64 (q'.left : Int)) := by rw [hA1'.out.cell]; simp [stC]
        simp only [List.getElem?_toArray, List.getElem?_cons_zero] at cs
        have hx := byt_lt s i
        clear hst
        obtain ⟨c, hc⟩ : ∃ c : Nat, c = nextR bb r (byt s i) q'.left := ⟨_, rfl⟩
        have hcd := hid hc
        have hbb := hid (hW.out.1)
        by_cases hip : i = p
        · subst hip
          have hnil := hid (show bb = [] from List.eq_nil_of_length_eq_zero (by have := hbb.out; omega))
          have hv := andShr ⟨byt s i, hx⟩ ⟨q'.left, by omega⟩
          simp only at hv
          have hcn : byt s i &&& (127 >>> q'.left) = c := by rw [hc, hnil.out, nextR, if_pos rfl]
          rw [hcn] at hv
          have hsi : s[i].toNat = byt s i := byt_at s i hlt
          have hli : (q'.left : Int) ≤ 3 := by omega
          have hc256 : c < 256 := by rw [← hcn]; exact Nat.lt_of_le_of_lt Nat.and_le_left hx
          have hw32 := wrap32_nat c (by omega)
          clear hc hc256 hcn
          gi_wp2_with fail
          refine wpIn_wide.2 ?_
          go_region
          rw [hw32]
          have hJd := hid (hJ'.out _ _ _ none hJ1.out (grown_of_below ((Below.refl _ w1).drew)) (fun r e => by cases e))
          have hAd := hid hA1'.out.drew
          have hAsd := hid hAs1.out.drew
          have csd : w1.drew.cell? ⟨Bs, 0, none⟩ = some (.string s) := cs
          have c2d : w1.drew.cell? ⟨b, 2, none⟩ = some (.int .i64 (q'.left : Int)) := c2
          clear hJ1 hA1' hAs1 cs c2 hv hw32 hO1'
          generalize w1.drew = w1 at *
          have hJ1 := hJd
          have hA1' := hAd
          have hAs1 := hAsd
          have cs := csd
          have c2 := c2d
          clear hJd hAd hAsd csd c2d
          by_cases hl0 : q'.left = 0
          · have hl0i : ¬ ((0 : Int) < (q'.left : Int)) := by omega
            have hw := hid (hnx.out.1 hl0)
            rw [← hcd.out] at hw
            have hlen := hid (show pre.length < (telOf s).length by
              have h := hw.out.2.2.2.2.2.1
              rw [h]; simp)
            have hget := hid (show (telOf s).getD pre.length (0, 0) = (i, c) by
              have h := hw.out.2.2.2.2.2.1
              rw [h, List.append_assoc, List.getD_eq_getElem?_getD, List.getElem?_append_right (Nat.le_refl _)]
              simp)
            obtain ⟨fn, tmps, assign, body, hy, hRd⟩ := hY'.out (List.range pre.length) pre.length w1 hJ1.out (by simpa using hlen.out)
            rw [show encU (telOf s) pre.length = #[.int .i64 (i : Int), .int .i32 (c : Int)] by rw [encU, hget.out]] at hy
            have hRd' := hid hRd
            clear hl0 hRd
            gi_wp2_with fail
            refine ⟨(fun h => by cases h), ?_⟩
            refine (hRd'.out).mono ?_
            rintro e W3 (⟨rfl, hJ3, hk3⟩ | ⟨rfl, hJx3, hk3⟩)
            · have hA3 := hid (hk3.at hA1'.out (.inl (by omega)))
              have hAs3 := hid (hk3.at hAs1.out (.inr rfl))
              have hJ3' := hid (show J (List.range (pre ++ [(i, c)]).length) W3 by rw [List.length_append]; show J (List.range (pre.length + 1)) W3; rw [List.range_succ]; exact hJ3)
              clear hy hRd' hJ3 hk3 cs c2
              gi_wp2
              go_roundw
              case rel => exact ⟨i + 1, i + 1, c, (c : Int), [], q', pre ++ [(i, c)], rfl, by simp, by simp, hid (fun h => absurd rfl h), hw, hJ3', hA3, hAs3⟩
              case measure => simp [intOf]; omega
            · have hJx' := hid (show ∃ pre, (∃ k, k ≤ (telOf s).length ∧ pre = List.range k) ∧ Jx pre W3 from ⟨_, ⟨pre.length + 1, hlen.out, (List.range_succ).symm⟩, hJx3⟩)
              clear hy hRd' hJx3 hk3 cs c2
              gi_wp2
              refine bodyPost_ret (results_none rfl _ _ _) rfl ?_
              exact ⟨⟨_, rfl⟩, .inr hJx'.out⟩
          · have hl0i : (0 : Int) < (q'.left : Int) := by omega
            have hw := hid (hnx.out.2 hl0)
            rw [← hcd.out] at hw
            clear hl0
            gi_wp2
            go_roundw
            case rel => exact ⟨i + 1, i, c, (c : Int), bb ++ [byt s i], q', pre, rfl, by simp, by simp, hid (fun _ => rfl), hw, hJ1, hA1', hAs1⟩
            case measure => simp [intOf]; omega
        · have hipi : ¬ ((i : Int) = (p : Int)) := by omega
          have hnn := hid (show bb ≠ [] from fun k => hip (by have := hbb.out; rw [k] at this; simpa using this.symm))
          obtain rfl : z = (r : Int) := hz.out hnn.out
          have hr := form_small hW.out.2.2.2.1 hnn.out
          have hv1 := and63 ⟨byt s i, hx⟩
          simp only at hv1
          have hv := rune_or r (byt s i % 64) hr (Nat.mod_lt _ (by decide))
          rw [show r * 64 + byt s i % 64 = c by rw [hc, nextR, if_neg hnn.out]] at hv
          have hsi : s[i].toNat = byt s i := byt_at s i hlt
          obtain ⟨m, hm⟩ : ∃ m : Nat, byt s i % 64 = m := ⟨_, rfl⟩
          rw [hm] at hv hv1
          clear hip hc hr hm
          by_cases hl0 : q'.left = 0
          · have hl0i : ¬ ((0 : Int) < (q'.left : Int)) := by omega
            have hw := hid (hnx.out.1 hl0)
            rw [← hcd.out] at hw
            have hlen := hid (show pre.length < (telOf s).length by
              have h := hw.out.2.2.2.2.2.1
              rw [h]; simp)
            have hget := hid (show (telOf s).getD pre.length (0, 0) = (p, c) by
              have h := hw.out.2.2.2.2.2.1
              rw [h, List.append_assoc, List.getD_eq_getElem?_getD, List.getElem?_append_right (Nat.le_refl _)]
              simp)
            obtain ⟨fn, tmps, assign, body, hy, hRd⟩ := hY'.out (List.range pre.length) pre.length w1 hJ1.out (by simpa using hlen.out)
            rw [show encU (telOf s) pre.length = #[.int .i64 (p : Int), .int .i32 (c : Int)] by rw [encU, hget.out]] at hy
            have hRd' := hid hRd
            clear hl0 hRd
            gi_wp2_with fail
            refine ⟨(fun h => by cases h), ?_⟩
            refine (hRd'.out).mono ?_
            rintro e W3 (⟨rfl, hJ3, hk3⟩ | ⟨rfl, hJx3, hk3⟩)
            · have hA3 := hid (hk3.at hA1'.out (.inl (by omega)))
              have hAs3 := hid (hk3.at hAs1.out (.inr rfl))
              have hJ3' := hid (show J (List.range (pre ++ [(p, c)]).length) W3 by rw [List.length_append]; show J (List.range (pre.length + 1)) W3; rw [List.range_succ]; exact hJ3)
              clear hy hRd' hJ3 hk3 cs c2
              gi_wp2
              go_roundw
              case rel => exact ⟨i + 1, i + 1, c, (c : Int), [], q', pre ++ [(p, c)], rfl, by simp, by simp, hid (fun h => absurd rfl h), hw, hJ3', hA3, hAs3⟩
              case measure => simp [intOf]; omega
            · have hJx' := hid (show ∃ pre, (∃ k, k ≤ (telOf s).length ∧ pre = List.range k) ∧ Jx pre W3 from ⟨_, ⟨pre.length + 1, hlen.out, (List.range_succ).symm⟩, hJx3⟩)
              clear hy hRd' hJx3 hk3 cs c2
              gi_wp2
              refine bodyPost_ret (results_none rfl _ _ _) rfl ?_
              exact ⟨⟨_, rfl⟩, .inr hJx'.out⟩
          · have hl0i : (0 : Int) < (q'.left : Int) := by omega
            have hw := hid (hnx.out.2 hl0)
            rw [← hcd.out] at hw
            clear hl0
            gi_wp2
            go_roundw
            case rel => exact ⟨i + 1, p, c, (c : Int), bb ++ [byt s i], q', pre, rfl, by simp, by simp, hid (fun _ => rfl), hw, hJ1, hA1', hAs1⟩
            case measure => simp [intOf]; omega
    · obtain rfl : i = s.size := by omega
      have hfin := hid (show telOf s = pre from hW.out.done.1)
      clear hlt
      gi_wp2
      refine ⟨rfl, .tuple #[], ?_, ⟨_, rfl⟩, .inl ⟨_, rfl, by rw [hfin.out]; exact hJr.out⟩⟩
      simp [results, Try.f37, go_sem]

theorem runes_free (n Bs n0 B : Nat) (s : ByteArray) (hs : s.size < 9223372036854775807) (w : World) (hB : B ≤ w.heap.size + 1 + 1) (has : At w Bs #[.string s] 9) :
    SeqFree n Try.prog 37 #[.pointer (some ⟨Bs, 0, none⟩)] (encU (telOf s)) (Held n0 B Bs) (fun xs => xs = List.range (telOf s).length) (fun pre => ∃ k, k ≤ (telOf s).length ∧ pre = List.range k) (telOf s).length w :=
  fun l J Jx W hW hJ _ hY h0 h2 => runes1_in n l Bs n0 B s hs J Jx W (by omega) hJ hY (has.keptAll hW) h0

set_option maxRecDepth 10000 in
theorem runes_calls (s : ByteArray) (w : World) :
    Calls Try.prog 19 #[.string s] w fun e w' => e = .returned (.func (.func 37) #[] #[.pointer (some ⟨w.heap.size, 0, none⟩)]) ∧ w' = w.alloc (.cells #[.string s] 9) := by
  have hmf : ∀ (fn : Fn) (first cap : Array Value) (w : World), (Instr.makeFunc fn first cap).run Try.prog w = .ok (.func fn first cap) w := fun _ _ _ _ => rfl
  go_enter Try.func19, Try.ntmps19
  go_wp2
  go_ret
  exact ⟨rfl, rfl⟩
end Go.Proofs.Ytlcihopklnnhdaa
