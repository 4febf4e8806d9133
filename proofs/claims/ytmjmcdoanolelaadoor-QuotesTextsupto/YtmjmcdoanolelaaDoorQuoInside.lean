/-
  What quotes.Inside and quotes.Open answer.
-/
import Derived.Test.YtmjmcdoanolelaaDoorQuoMarks
import Derived.Test.YtmjmcdoanolelaaDoorTurnOps
import Derived.Test.YtmjmcdoanolelaaDoorCountWalk
namespace Go.Proofs.YtmjmcdoanolelaaDoor
open Go.RowKit Go.Shelf

set_option maxRecDepth 10000 in
theorem belowQ_calls (I M : Nat) (hM : Hid (lowm (I : Int) = M)) (w : World) : Calls Tryd.prog 52 #[.int .i64 (I : Int)] w fun e w' => e = .returned (.int .u64 (M : Int)) ∧ w' = w := by
  have hm := hM.out
  go_enter Tryd.func52, Tryd.ntmps52
  by_cases h64 : I < 64
  · have hp : (2 : Nat) ^ I ≤ 9223372036854775808 := Nat.pow_le_pow_right (n := 2) (j := 63) (by decide) (by omega)
    have hp0 : 0 < (2 : Nat) ^ I := Nat.pow_pos (by decide)
    have b : IntKind.u64.wrap (IntKind.u64.wrap ((2 : Int) ^ I) - 1) = (M : Int) := by
      have w1 : IntKind.u64.wrap ((2 : Int) ^ I) = ((2 ^ I : Nat) : Int) := (put_bit (X := 0) (by omega) h64).1
      rw [w1, IntKind.wrap_u64, ← hm, lowm, show min ((I : Nat) : Int).toNat 64 = I by simp; omega]
      omega
    replace b : Hid _ := b
    clear hm hM hp hp0
    go_wp2
    go_ret
    refine ⟨?_, rfl⟩
    first | (rw [b.out]; rfl) | rfl
  · have b : IntKind.u64.wrap (IntKind.u64.wrap ((2 : Int) ^ min I 64) - 1) = (M : Int) := by
      rw [← hm, lowm, show min I 64 = 64 by omega, show min ((I : Nat) : Int).toNat 64 = 64 by simp; omega]
      decide
    replace b : Hid _ := b
    clear hm hM
    go_wp2
    go_ret
    refine ⟨?_, rfl⟩
    first | (rw [b.out]; rfl) | rfl

/-- The method makes of the row's words, one behind the other, these; S is what it keeps, in block m. -/
def Passes (n0 n1 m : Nat) (k : Nat) (X C : Nat → Nat) (S : Nat → World → Prop) : Prop :=
  (∀ j, j < k → C j < 18446744073709551616) ∧ (∀ j w1 w2, S j w1 → Below n1 w1 w2 → S j w2) ∧
  ∀ (j : Nat) (w1 : World), j < k → S j w1 → n1 ≤ w1.heap.size → Calls Tryd.prog 32 #[.pointer (some ⟨m, 0, none⟩), .int .u64 ((X j : Nat) : Int)] w1 fun e w' => e = .returned (.int .u64 ((C j : Nat) : Int)) ∧ S (j + 1) w' ∧ Below n0 w1 w' ∧ ∀ b cs t, b ≠ m → At w1 b cs t → At w' b cs t

set_option maxRecDepth 10000 in
set_option maxHeartbeats 4000000 in
theorem wbw_calls (w0 w : World) (m : Nat) (n : Int) (g k cap : Nat) (X C : Nat → Nat) (S : Nat → World → Prop) (hgf : Passes w0.heap.size w.heap.size m k X C S) (hn : (Lit.int .i64 n).wf = true) (hk : k ≤ 17592186044416)
    (hf : Hid (formed n k X)) (hA : At w g (rowCells k X) 46) (hgm : g ≠ m) (hX : ∀ j, j < k → X j < 18446744073709551616) (hb0 : Below w0.heap.size w0 w) (hm : m < w.heap.size) (hS : S 0 w) :
    Calls Tryd.prog 31 #[bv n (some ⟨g, 0, none⟩) k cap, .func (.func 32) #[.pointer (some ⟨m, 0, none⟩)] #[]] w fun e w' =>
      (∃ g, w.heap.size ≤ g ∧ At w' g (rowCells k (fun j => C j &&& lowm (n - 64 * (j : Int)))) 46 ∧ e = .returned (bv n (some ⟨g, 0, none⟩) k k)) ∧ Below w0.heap.size w0 w' ∧ ∀ b cs t, b ≠ m → At w b cs t → At w' b cs t := by
  obtain ⟨hn1, hn2⟩ := wf_i64 hn
  have hsz0 := hb0.size
  obtain ⟨N, rfl⟩ := Int.eq_ofNat_of_zero_le hf.out.1
  have hkN : 64 * k ≤ N + 63 ∧ N ≤ 64 * k := by have := hf.out.2.1; simp at this; unfold need at this; omega
  have hmk := fun u => make_row k hk u
  obtain ⟨hC, hst, hcl⟩ := hgf
  have he : ∀ args w, (callFunc 32 args).run Tryd.prog w = .ok (.enter 32 args) w := enters_of Tryd.func32 (by kernel_rfl) rfl
  have hst' : Hid _ := hst
  have hcl' : Hid _ := hcl
  have hC' : Hid _ := hC
  clear hn hst hcl hC
  go_enter Tryd.func31, Tryd.ntmps31
  have A2 : At ((w.alloc (.cells #[.int .i64 (N : Int), .slice (some ⟨g, 0, none⟩) k cap] 25)).alloc (.cells #[.int .i64 0, .slice none 0 0] 25)) (w.heap.size + 1) #[.int .i64 0, .slice none 0 0] 25 := by
    have := At.new (w.alloc (.cells #[.int .i64 (N : Int), .slice (some ⟨g, 0, none⟩) k cap] 25)) #[.int .i64 0, .slice none 0 0] 25
    simpa using this
  have A1 : At ((w.alloc (.cells #[.int .i64 (N : Int), .slice (some ⟨g, 0, none⟩) k cap] 25)).alloc (.cells #[.int .i64 0, .slice none 0 0] 25)) w.heap.size #[.int .i64 (N : Int), .slice (some ⟨g, 0, none⟩) k cap] 25 := (At.new w _ _).alloc _
  have A2' : Hid _ := A2
  have A1' : Hid _ := A1
  clear A1 A2
  obtain ⟨w1, hw1⟩ : ∃ w1, (w.alloc (.cells #[.int .i64 (N : Int), .slice (some ⟨g, 0, none⟩) k cap] 25)).alloc (.cells #[.int .i64 0, .slice none 0 0] 25) = w1 := ⟨_, rfl⟩
  have hz1 : w1.heap.size = w.heap.size + 1 + 1 := by rw [← hw1]; simp
  rw [hw1] at A1' A2'
  have a1 : At w1 w.heap.size #[.int .i64 (N : Int), .slice (some ⟨g, 0, none⟩) k cap] 25 := A1'.out
  have a2 : At w1 (w.heap.size + 1) #[.int .i64 0, .slice none 0 0] 25 := A2'.out
  have hB1 : Below w.heap.size w w1 := by rw [← hw1]; repeat (first | with_reducible exact Below.refl _ _ | with_reducible refine Below.setCell ?_ (by first | (simp; done) | (simp; omega)) _ | with_reducible refine below_drewN ?_ _ | with_reducible refine Below.alloc ?_ (by first | (simp; done) | (simp; omega)) _ | with_reducible refine Below.drew ?_)
  clear A1' A2'
  obtain ⟨a10, a11, -, -⟩ := a1.facts
  have hlt1 := a2.lt
  have a1' : Hid (At w1 w.heap.size #[.int .i64 (N : Int), .slice (some ⟨g, 0, none⟩) k cap] 25) := a1
  have a2' : Hid (At w1 (w.heap.size + 1) #[.int .i64 0, .slice none 0 0] 25) := a2
  have a11n : (w1.alloc (.cells (rowCells k (fun _ => 0)) 46)).cell? ⟨w.heap.size, 1, none⟩ = some (.slice (some ⟨g, 0, none⟩) k cap) := (a1'.out.alloc _).cell 1
  have hA' : Hid (At w g (rowCells k X) 46) := hA
  have hX' := hid hX
  have hS' : Hid (S 0 w) := hS
  have hf' : Hid (formed N k X) := hf.out
  clear a1 a2 hA hX hS hf hn1 hn2
  go_wp2
  go_loopw [6, 7, 15] (fun _ _ ii wr => ∃ j : Nat, j ≤ k ∧ ii = .int .i64 (j : Int) ∧ At wr w.heap.size #[.int .i64 (N : Int), .slice (some ⟨g, 0, none⟩) k cap] 25 ∧ At wr (w.heap.size + 1) #[.int .i64 0, .slice none 0 0] 25 ∧
      At wr (w.heap.size + 1 + 1) (rowCells k (fun i => if i < j then C i &&& lowm ((N : Int) - 64 * (i : Int)) else 0)) 46 ∧ Hid (S j wr) ∧ Below w0.heap.size w0 wr ∧ Hid (∀ b cs t, b ≠ m → At w b cs t → At wr b cs t) ∧ w.heap.size ≤ wr.heap.size) (fun _ _ ii _ => k - (intOf ii).toNat)
  case atStart =>
    refine ⟨0, Nat.zero_le _, rfl, a1'.out.alloc _, a2'.out.alloc _, ?_, ?_, ?_, fun b cs t _ h => (h.keptAll hB1).alloc _, by simp; have := hB1.size; omega⟩
    · rw [show rowCells k (fun i => if i < 0 then C i &&& lowm ((N : Int) - 64 * (i : Int)) else 0) = rowCells k (fun _ => 0) from rowCells_congr (fun j _ => by rw [if_neg (by omega)])]
      rw [← hz1]; exact At.new w1 _ _
    · exact hst'.out 0 w _ hS'.out (hB1.alloc hB1.size _)
    · exact (hb0.trans (hB1.mono hsz0)).alloc (by have := hB1.size; omega) _
  case round =>
    obtain ⟨j, hj, rfl, b1, b2, b4, hSj, hb, hkp, hszr⟩ := hrel
    obtain ⟨b10, b11, -, -⟩ := b1.facts
    by_cases hlt : j < k
    · have hx := hX'.out j hlt
      have d1 := (hkp.out g _ _ hgm hA'.out).cell j
      rw [rowCells_get _ hlt] at d1
      have hcj := hcl'.out j
      obtain ⟨x, hx'⟩ : ∃ x, Hid (X j = x) := ⟨_, rfl⟩
      rw [hx'.out] at d1 hx hcj
      obtain ⟨c, hc'⟩ : ∃ c, Hid (C j = c) := ⟨_, rfl⟩
      rw [hc'.out] at hcj
      have hcl2 : c < 18446744073709551616 := hc'.out ▸ hC'.out j hlt
      obtain ⟨M, hM⟩ : ∃ M, Hid (lowm ((N : Int) - 64 * (j : Int)) = M) := ⟨_, rfl⟩
      have hMl : M < 18446744073709551616 := hM.out ▸ lowm_lt _
      obtain ⟨I, hI⟩ : ∃ I, Hid (N - 64 * j = I) := ⟨_, rfl⟩
      have hIe : (N : Int) - 64 * (j : Int) = (I : Int) := by have := hI.out; omega
      have hbel : Hid _ := fun w => belowQ_calls I M (by rw [← hIe]; exact hM) w
      have e1 : bits BinOp.and IntKind.u64 (c : Int) (M : Int) = ((c &&& M : Nat) : Int) := u64_and_nat c M hcl2 hMl
      have hcj' : Hid _ := fun (w2 : World) (h : Below w.heap.size wr w2) => hcj w2 hlt (hst'.out j wr w2 hSj.out h) (Nat.le_trans hszr h.size)
      have b1' : Hid (At wr w.heap.size #[.int .i64 (N : Int), .slice (some ⟨g, 0, none⟩) k cap] 25) := b1
      have b2' : Hid (At wr (w.heap.size + 1) #[.int .i64 0, .slice none 0 0] 25) := b2
      have b4' : Hid (At wr (w.heap.size + 1 + 1) (rowCells k (fun i => if i < j then C i &&& lowm ((N : Int) - 64 * (i : Int)) else 0)) 46) := b4
      have ew1 : IntKind.i64.wrap (64 * (j : Int)) = 64 * (j : Int) := by rw [IntKind.wrap_i64]; omega
      have ew2 : IntKind.i64.wrap (I : Int) = (I : Int) := by rw [IntKind.wrap_i64]; omega
      clear b1 b2 b4 hcj hcl' hmk hS'
      go_wp2
      go_region_with (first
        | (go_at_call 52; refine (hbel.out _).mono ?_; rintro e w4 ⟨rfl, hw4⟩; obtain rfl := hw4.symm)
        | (refine Calls.mono (hcj'.out _ (Below.drew (Below.refl _ _))) ?_; rintro e w3 ⟨rfl, hS3, hb3, hk3⟩; have c1 := hk3 _ _ _ (by omega) b1'.out.drew; obtain ⟨c10, c11, -, -⟩ := c1.facts; have c4 := hk3 _ _ _ (by omega) b4'.out.drew; have c4c := c4.cell j; rw [rowCells_get _ hlt] at c4c; have c4f := c4.frozen j))
      all_goals
        have c2 := hk3 _ _ _ (by omega) b2'.out.drew
        have c4' : Hid (At w3 (w.heap.size + 1 + 1) (rowCells k (fun i => if i < j then C i &&& lowm ((N : Int) - 64 * (i : Int)) else 0)) 46) := c4
        have c2' : Hid (At w3 (w.heap.size + 1) #[.int .i64 0, .slice none 0 0] 25) := c2
        have c1' : Hid (At w3 w.heap.size #[.int .i64 (N : Int), .slice (some ⟨g, 0, none⟩) k cap] 25) := c1
        have hS3' : Hid _ := hS3
        have hk3' : Hid _ := hk3
        clear c1 c2 c4 hS3 hk3
        go_wp2
        go_roundw
        case rel =>
          have hs3 := hb3.size
          refine ⟨j + 1, by omega, by simp, c1'.out.other (p := ⟨w.heap.size + 1 + 1, j, none⟩) (by show w.heap.size ≠ w.heap.size + 1 + 1; omega) _, c2'.out.other (p := ⟨w.heap.size + 1 + 1, j, none⟩) (by show w.heap.size + 1 ≠ w.heap.size + 1 + 1; omega) _, ?_, ?_, ?_, ?_, ?_⟩
          · have h1 := c4'.out.set j (.int .u64 ((c &&& M : Nat) : Int))
            rw [rowCells_set] at h1
            rw [show rowCells k (fun i => if i < j + 1 then C i &&& lowm ((N : Int) - 64 * (i : Int)) else 0) = rowCells k (fun i => if i = j then c &&& M else if i < j then C i &&& lowm ((N : Int) - 64 * (i : Int)) else 0) from rowCells_congr (fun i _ => by
              by_cases hij : i = j
              · rw [if_pos (by omega), if_pos hij, hij, hc'.out, hM.out]
              · by_cases hl : i < j
                · rw [if_pos (by omega), if_neg hij, if_pos hl]
                · rw [if_neg (by omega), if_neg hij, if_neg hl])]
            exact h1
          · exact hst'.out (j + 1) w3 _ hS3'.out ((Below.refl _ _).setCell (p := ⟨w.heap.size + 1 + 1, j, none⟩) (by show w.heap.size ≤ w.heap.size + 1 + 1; omega) _)
          · exact (hb.drew.trans hb3).setCell (p := ⟨w.heap.size + 1 + 1, j, none⟩) (by show w0.heap.size ≤ w.heap.size + 1 + 1; omega) _
          · intro b cs t hbm h
            have hlt' := h.lt
            exact (hk3'.out b cs t hbm (hkp.out b cs t hbm h).drew).other (p := ⟨w.heap.size + 1 + 1, j, none⟩) (by show b ≠ w.heap.size + 1 + 1; omega) _
          · simp at hs3 ⊢; omega
        case measure => simp [intOf]; omega
    · obtain rfl : j = k := by omega
      obtain ⟨b20, b21, f20, f21⟩ := b2.facts
      have b2' : Hid (At wr (w.heap.size + 1) #[.int .i64 0, .slice none 0 0] 25) := b2
      have b4' : Hid (At wr (w.heap.size + 1 + 1) (rowCells j (fun i => if i < j then C i &&& lowm ((N : Int) - 64 * (i : Int)) else 0)) 46) := b4
      clear b1 b2 b4 hcl' hmk hS' hSj hA'
      go_wp2
      refine ret_bits1 rfl rfl b2'.out.two rfl ⟨⟨w.heap.size + 1 + 1, by omega, ?_, rfl⟩, ?_, ?_⟩
      · rw [show rowCells j (fun i => C i &&& lowm ((N : Int) - 64 * (i : Int))) = rowCells j (fun i => if i < j then C i &&& lowm ((N : Int) - 64 * (i : Int)) else 0) from rowCells_congr (fun i hi => by rw [if_pos hi])]
        exact (b4'.out.other (p := ⟨w.heap.size + 1, 0, none⟩) (by show w.heap.size + 1 + 1 ≠ w.heap.size + 1; omega) _).other (p := ⟨w.heap.size + 1, 1, none⟩) (by show w.heap.size + 1 + 1 ≠ w.heap.size + 1; omega) _
      · exact (hb.setCell (p := ⟨w.heap.size + 1, 0, none⟩) (by show w0.heap.size ≤ w.heap.size + 1; omega) _).setCell (p := ⟨w.heap.size + 1, 1, none⟩) (by show w0.heap.size ≤ w.heap.size + 1; omega) _
      · intro b cs t hbm h
        have hlt' := h.lt
        exact ((hkp.out b cs t hbm h).other (p := ⟨w.heap.size + 1, 0, none⟩) (by show b ≠ w.heap.size + 1; omega) _).other (p := ⟨w.heap.size + 1, 1, none⟩) (by show b ≠ w.heap.size + 1; omega) _

theorem odd_next {X : Nat → Nat} {j p : Nat} (hp : prefW (X j) ^^^ odW X j = p) : (((p : Int) / 9223372036854775808) == 1) = oddB X (64 * (j + 1)) := by
  have hl : p < 18446744073709551616 := hp ▸ Nat.xor_lt_two_pow (n := 64) (prefW_lt _) (odW_lt _ _)
  have hb := prefC_bit X j 63 (by decide)
  rw [hp, show 64 * j + 63 + 1 = 64 * (j + 1) by omega, Nat.testBit_eq_decide_div_mod_eq] at hb
  have e : ((p : Int) / 9223372036854775808) = ((p / 2 ^ 63 : Nat) : Int) := by simp
  rw [e, ← hb, Bool.eq_iff_iff, beq_iff_eq, decide_eq_true_eq]
  simp only [Nat.reducePow]
  omega

set_option maxRecDepth 10000 in
set_option maxHeartbeats 1000000 in
theorem pass_passes (n0 n1 m k : Nat) (hm : n0 ≤ m) (hm1 : m < n1) (X : Nat → Nat) (hX : ∀ j, j < k → X j < 18446744073709551616) : Passes n0 n1 m k X (fun j => prefW (X j) ^^^ odW X j) (fun j w => At w m #[.bool (oddB X (64 * j))] 56) := by
  refine ⟨fun j _ => Nat.xor_lt_two_pow (n := 64) (prefW_lt _) (odW_lt _ _), fun _ _ _ h hb => h.kept hb hm1, fun j w1 hj hS _ => ?_⟩
  obtain ⟨p, hp⟩ : ∃ p, Hid (prefW (X j) ^^^ odW X j = p) := ⟨_, rfl⟩
  have e3 := odd_next hp.out
  obtain ⟨P, hP⟩ : ∃ P, Hid (prefW (X j) = P) := ⟨_, rfl⟩
  have hPl : P < 18446744073709551616 := hP.out ▸ prefW_lt _
  obtain ⟨c, hc⟩ : ∃ c, Hid (oddB X (64 * j) = c) := ⟨_, rfl⟩
  obtain ⟨d, hd⟩ : ∃ d, Hid (oddB X (64 * (j + 1)) = d) := ⟨_, rfl⟩
  simp only [hp.out, hd.out]
  rw [hd.out] at e3
  dsimp only at hS
  rw [hc.out] at hS
  have hxl := hX j hj
  have hpc : Hid _ := fun w => prefix_calls (X j) P hxl hP w
  obtain ⟨x, hx⟩ : ∃ x, X j = x := ⟨_, rfl⟩
  rw [hx] at hpc hxl ⊢
  have cS := hS.cell 0
  have fS := hS.frozen 0
  simp only [List.getElem?_toArray, List.getElem?_cons_zero] at cS
  have hS' : Hid (At w1 m #[.bool c] 56) := hS
  have hpe : Hid ((c = false → p = P) ∧ (c = true → p = 18446744073709551615 ^^^ P)) := by
    refine ⟨fun h => ?_, fun h => ?_⟩
    · rw [← hp.out, odW, hc.out, h, hP.out]; simp
    · rw [← hp.out, odW, hc.out, h, hP.out, Nat.xor_comm]; simp
  clear hx hX hS hp hP hd hc
  go_enter Tryd.func32, Tryd.ntmps32
  go_wp2_with fail
  refine (hpc.out _).mono ?_
  rintro e w' ⟨rfl, hw'⟩
  obtain rfl := hw'
  cases c with
  | false =>
    obtain rfl : p = P := hpe.out.1 rfl
    clear hpe
    go_wp2
    go_ret
    refine ⟨rfl, hS'.out.set 0 _, (Below.refl _ _).setCell (p := ⟨m, 0, none⟩) hm _, fun b cs t hb h => h.other (p := ⟨m, 0, none⟩) hb _⟩
  | true =>
    have hpp := hpe.out.2 rfl
    have e1 := not_eq hPl
    rw [← hpp] at e1
    clear hpe hpp
    go_wp2
    go_ret
    refine ⟨rfl, hS'.out.set 0 _, (Below.refl _ _).setCell (p := ⟨m, 0, none⟩) hm _, fun b cs t hb h => h.other (p := ⟨m, 0, none⟩) hb _⟩

set_option maxRecDepth 10000 in
set_option maxHeartbeats 1000000 in
theorem insideQ_calls (s : ByteArray) (hs : s.size ≤ 281474976710656) (w : World) (hT : Tab w) (hw0 : 0 < w.heap.size) :
    Calls Tryd.prog 12 #[.string s] w fun e w' => ∃ g, w.heap.size ≤ g ∧ e = .returned (.agg #[.int .i64 (s.size : Int), .slice (some ⟨g, 0, none⟩) (need s.size) (need s.size)]) ∧ At w' g (rowCells (need s.size) (rowOf (inS s) s.size)) 46 ∧ Below w.heap.size w w' := by
  have hmf : ∀ (fn : Fn) (first cap : Array Value) (w : World), (Instr.makeFunc fn first cap).run Tryd.prog w = .ok (.func fn first cap) w := fun _ _ _ _ => rfl
  have hmk := hid (fun (w1 : World) (hb : Below w.heap.size w w1) => marksQ_calls s hs w1 (hT.below hb hw0) (Nat.lt_of_lt_of_le hw0 hb.size))
  obtain ⟨k, hk⟩ : ∃ k, Hid (need s.size = k) := ⟨_, rfl⟩
  rw [hk.out]
  clear hT
  go_enter Tryd.func12, Tryd.ntmps12
  rw [hk.out] at hmk
  go_wp2_with fail
  refine Calls.mono (hmk.out _ (by repeat (first | with_reducible exact Below.refl _ _ | with_reducible refine Below.setCell ?_ (by first | (simp; done) | (simp; omega)) _ | with_reducible refine below_drewN ?_ _ | with_reducible refine Below.alloc ?_ (by first | (simp; done) | (simp; omega)) _ | with_reducible refine Below.drew ?_))) ?_
  rintro e w1 ⟨g, hg, rfl, hA, hb⟩
  simp only [World.size_alloc] at hg
  have hB1 : Below w.heap.size w w1 := Below.trans (by repeat (first | with_reducible exact Below.refl _ _ | with_reducible refine Below.setCell ?_ (by first | (simp; done) | (simp; omega)) _ | with_reducible refine below_drewN ?_ _ | with_reducible refine Below.alloc ?_ (by first | (simp; done) | (simp; omega)) _ | with_reducible refine Below.drew ?_)) (hb.mono (by simp; try omega))
  have hr0 := (((At.new w #[.int .i64 0, .slice none 0 0] 25).alloc (.cells #[.bool false] 56)).keptAll hb)
  have hm0 : At w1 (w.heap.size + 1) #[.bool false] 56 := by
    have := (At.new (w.alloc (.cells #[.int .i64 0, .slice none 0 0] 25)) #[.bool false] 56).keptAll (by exact hb)
    simpa using this
  have hgl := hA.lt
  have hA' := hid hA
  have hr0' := hid hr0
  have hwb := hid (wbw_calls w w1 (w.heap.size + 1) (s.size : Int) g (need s.size) (need s.size) (rowOf (markS s) s.size) _ _ (pass_passes w.heap.size w1.heap.size (w.heap.size + 1) (need s.size) (by omega) hm0.lt (rowOf (markS s) s.size) (fun _ _ => rowOf_lt _ _ _)) (wf_size hs) (need_le hs) (hid (rowOf_formed _ _)) (by rw [hk.out]; exact hA) (by omega) (fun _ _ => rowOf_lt _ _ _) hB1 hm0.lt hm0)
  clear hA hr0 hm0 hmk hb hA'
  rw [hk.out] at hwb
  have hwb' : Hid _ := hwb
  unfold bv at hwb'
  clear hwb
  go_wp2_with fail
  refine Calls.mono hwb'.out ?_
  rintro e w2 ⟨⟨g2, hg2, hrow, rfl⟩, hb2, hkp⟩
  have a1 := hkp _ _ _ (by omega) hr0'.out
  obtain ⟨c0, c1, f0, f1⟩ := a1.facts
  have a1' := hid a1
  have hrow' := hid hrow
  have hz := hB1.size
  clear hkp a1 hrow hwb' hr0'
  go_wp2
  refine ret_bits1 rfl rfl a1'.out.two rfl ⟨g2, by omega, rfl, ?_, (hb2.setCell (p := ⟨w.heap.size, 0, none⟩) (Nat.le_refl _) _).setCell (p := ⟨w.heap.size, 1, none⟩) (Nat.le_refl _) _⟩
  rw [show rowCells k (rowOf (inS s) s.size) = rowCells k (fun j => (prefW (rowOf (markS s) s.size j) ^^^ odW (rowOf (markS s) s.size) j) &&& lowm ((s.size : Int) - 64 * (j : Int))) from
    rowCells_congr (fun j _ => by rw [← inS_row]; exact (turn_row (Nat.xor_lt_two_pow (n := 64) (prefW_lt _) (odW_lt _ _)) (fun t ht => prefC_bit _ j t ht)).symm)]
  exact (hrow'.out.other (p := ⟨w.heap.size, 0, none⟩) (by show g2 ≠ w.heap.size; omega) _).other (p := ⟨w.heap.size, 1, none⟩) (by show g2 ≠ w.heap.size; omega) _

/-- How many are set below n: odd just if oddG says so. -/
theorem cntB_odd (X : Nat → Nat) (n : Nat) : decide (cntB X n % 2 = 1) = oddB X n := by
  induction n with
  | zero => rfl
  | succ n ih =>
    rw [cntB_succ, oddB, ← ih]
    cases bitAt X n
    · simp
    · rw [Bool.toNat_true, Bool.xor_true]
      rcases Nat.mod_two_eq_zero_or_one (cntB X n) with h | h
      · rw [decide_eq_true (by omega), decide_eq_false (by omega)]; rfl
      · rw [decide_eq_false (by omega), decide_eq_true h]; rfl
set_option maxRecDepth 10000 in
theorem openQ_calls (s : ByteArray) (hs : s.size ≤ 281474976710656) (B : Bool) (hB : Hid (openS s = B)) (w : World) (hT : Tab w) (hw0 : 0 < w.heap.size) :
    Calls Tryd.prog 14 #[.string s] w fun e w' => e = .returned (.bool B) ∧ Below w.heap.size w w' := by
  have hmk := hid (marksQ_calls s hs w hT hw0)
  obtain ⟨c, hc⟩ : ∃ c, Hid (cntIn (rowOf (markS s) s.size) s.size 0 (s.size : Int) = c) := ⟨_, rfl⟩
  have e1 : ((c : Int) % 2 == 1) = B := by
    rw [← hB.out, openS, ← oddB_rowOf (markS s) (N := s.size) (Nat.le_refl _), ← cntB_odd, ← hc.out, cntIn]
    simp only [Int.toNat_natCast, Int.toNat_zero, Nat.min_self, Nat.zero_min, cntB, Nat.sub_zero]
    rw [Bool.eq_iff_iff, beq_iff_eq, decide_eq_true_eq]
    omega
  have hct := hid (fun (ao : Option Addr) (cap : Nat) (w : World) (hW : Wds w ao (need s.size) (rowOf (markS s) s.size)) => count_calls s.size 0 s.size ao (need s.size) cap (rowOf (markS s) s.size) s.size c (wf_size hs) (by decide) (wf_size hs) (need_le hs) (.inl ⟨rowOf_formed _ _, rfl⟩) hc w hW)
  clear hT hB hc
  go_enter Tryd.func14, Tryd.ntmps14
  go_wp2_with fail
  refine Calls.mono hmk.out ?_
  rintro e w1 ⟨g, hg, rfl, hA, hb⟩
  have hb' := hid hb
  have hA' := hid hA
  clear hmk hb hA
  unfold bv at hct
  go_wp2_with fail
  refine Calls.mono (hct.out _ _ _ hA'.out.row6) ?_
  rintro e w2 ⟨rfl, hb2⟩
  clear hct
  go_wp2
  go_ret
  exact ⟨rfl, hb'.out.trans (hb2.mono hb'.out.size)⟩
end Go.Proofs.YtmjmcdoanolelaaDoor
