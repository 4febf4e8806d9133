/-
  What bitmap.Not and bitmap.Prefix answer.
-/
import Derived.Test.YtmjmcdoanolelaaDoorChangeWalk
import Derived.Test.YtmjmcdoanolelaaDoorGivesKit
import Derived.Test.YtmjmcdoanolelaaDoorPrefixOnly
namespace Go.Proofs.YtmjmcdoanolelaaDoor
open Go.RowKit Go.Shelf

theorem not_eq {x : Nat} (h : x < 18446744073709551616) : bits BinOp.xor IntKind.u64 (if IntKind.u64.signed = true then -1 else IntKind.u64.max) (x : Int) = ((18446744073709551615 ^^^ x : Nat) : Int) := by
  rw [show (if IntKind.u64.signed = true then (-1 : Int) else IntKind.u64.max) = ((18446744073709551615 : Nat) : Int) by decide]
  exact bits_xor_nat 18446744073709551615 x (by decide) h
theorem not_bit (v i : Nat) (hi : i < 64) : (18446744073709551615 ^^^ v).testBit i = !v.testBit i := by
  rw [Nat.testBit_xor, show (18446744073709551615 : Nat) = 2 ^ 64 - 1 by decide, Nat.testBit_two_pow_sub_one]
  simp [hi]

/-- What Prefix has kept behind j words. -/
def odW (X : Nat → Nat) (j : Nat) : Nat := if oddB X (64 * j) then 18446744073709551615 else 0
theorem odW_lt (X : Nat → Nat) (j : Nat) : odW X j < 18446744073709551616 := by unfold odW; split <;> decide
theorem odW_bit (X : Nat → Nat) (j r : Nat) (hr : r < 64) : (odW X j).testBit r = oddB X (64 * j) := by
  unfold odW
  split
  · rename_i h
    rw [show (18446744073709551615 : Nat) = 2 ^ 64 - 1 by decide, Nat.testBit_two_pow_sub_one, h]
    simp [hr]
  · rename_i h
    have : oddB X (64 * j) = false := by simpa using h
    rw [this]; simp
theorem prefC_bit (X : Nat → Nat) (j r : Nat) (hr : r < 64) : (prefW (X j) ^^^ odW X j).testBit r = oddB X (64 * j + r + 1) := by
  rw [Nat.testBit_xor, prefW_bit _ _ hr, odW_bit _ _ _ hr, show 64 * j + r + 1 = 64 * j + (r + 1) by omega, oddB_word X j (r + 1) (by omega), Bool.xor_comm]
theorem odW_next {X : Nat → Nat} {j p : Nat} (hp : prefW (X j) ^^^ odW X j = p) : IntKind.u64.wrap (-((p : Int) / 2 ^ 63)) = ((odW X (j + 1) : Nat) : Int) := by
  have hl : p < 18446744073709551616 := hp ▸ Nat.xor_lt_two_pow (n := 64) (prefW_lt _) (odW_lt _ _)
  have hb := prefC_bit X j 63 (by decide)
  rw [hp, show 64 * j + 63 + 1 = 64 * (j + 1) by omega, Nat.testBit_eq_decide_div_mod_eq] at hb
  have e : ((p : Int) / 2 ^ 63) = ((p / 2 ^ 63 : Nat) : Int) := by simp
  rw [e, IntKind.wrap_u64, odW, ← hb]
  simp only [Nat.reducePow, decide_eq_true_eq]
  split <;> omega

set_option maxRecDepth 10000 in
set_option maxHeartbeats 1000000 in
theorem prefix_turns (n0 n1 m k : Nat) (hm : n0 ≤ m) (hm1 : m < n1) (X : Nat → Nat) (hX : ∀ j, j < k → X j < 18446744073709551616) : Turns n0 n1 m 42 #[.pointer (some ⟨m, 0, none⟩)] k X (fun j => prefW (X j) ^^^ odW X j) (fun j w => At w m #[.int .u64 ((odW X j : Nat) : Int)] 46) := by
  refine ⟨enters_of Tryd.func42 (by kernel_rfl) rfl, fun j _ => Nat.xor_lt_two_pow (n := 64) (prefW_lt _) (odW_lt _ _), fun _ _ _ h hb => h.kept hb hm1, fun j w1 hj hS _ => ?_⟩
  obtain ⟨p, hp⟩ : ∃ p, Hid (prefW (X j) ^^^ odW X j = p) := ⟨_, rfl⟩
  have e3 := odW_next hp.out
  obtain ⟨P, hP⟩ : ∃ P, Hid (prefW (X j) = P) := ⟨_, rfl⟩
  obtain ⟨d, hd⟩ : ∃ d, Hid (odW X j = d) := ⟨_, rfl⟩
  obtain ⟨d2, hd2⟩ : ∃ d, Hid (odW X (j + 1) = d) := ⟨_, rfl⟩
  have hPl : P < 18446744073709551616 := hP.out ▸ prefW_lt _
  have hdl : d < 18446744073709551616 := hd.out ▸ odW_lt _ _
  have hpl : p < 18446744073709551616 := hp.out ▸ Nat.xor_lt_two_pow (n := 64) (prefW_lt _) (odW_lt _ _)
  have e2 : bits BinOp.xor IntKind.u64 (P : Int) (d : Int) = (p : Int) := by rw [bits_xor_nat P d hPl hdl, ← hp.out, hP.out, hd.out]
  simp only [hp.out, hd2.out]
  rw [hd2.out] at e3
  dsimp only at hS
  rw [hd.out] at hS
  have hxl := hX j hj
  have hpc : Hid _ := fun w => prefix_calls (X j) P hxl hP w
  obtain ⟨x, hx⟩ : ∃ x, X j = x := ⟨_, rfl⟩
  rw [hx] at hpc hxl ⊢
  have cS := hS.cell 0
  have fS := hS.frozen 0
  simp only [List.getElem?_toArray, List.getElem?_cons_zero] at cS
  have hS' : Hid (At w1 m #[.int .u64 (d : Int)] 46) := hS
  have e3' : IntKind.u64.wrap (-((p : Int) / 9223372036854775808)) = (d2 : Int) := by simpa using e3
  have e4 : Hid _ := e3'
  clear hx hX hS hp hP hd hd2 e3 e3'
  rw [show (#[Value.int .u64 (x : Int)] ++ #[.pointer (some ⟨m, 0, none⟩)] : Array Value) = #[.int .u64 (x : Int), .pointer (some ⟨m, 0, none⟩)] from rfl]
  go_enter Tryd.func42, Tryd.ntmps42
  go_wp2
  go_quiet ((go_at_call 43; refine (hpc.out _).mono ?_; rintro e w' ⟨rfl, rfl⟩; exact ⟨rfl, _, rfl⟩))
  go_wp2
  rw [e4.out]
  go_ret
  refine ⟨rfl, ?_, (below_drewN (Below.refl _ _) _).setCell (p := ⟨m, 0, none⟩) hm _, fun b cs t hb h => (h.drewN nq).other (p := ⟨m, 0, none⟩) hb _⟩
  exact (hS'.out.drewN nq).set 0 _

set_option maxRecDepth 10000 in
set_option maxHeartbeats 1000000 in
theorem prefixB_calls (n : Int) (ao : Option Addr) (k cap : Nat) (X : Nat → Nat) (E q : Int) (r : Nat) (hn : (Lit.int .i64 n).wf = true) (hk : k ≤ 17592186044416) (hE : Hid (turnE n k X E q r)) (w : World) (hW : Wds w ao k X) :
    Calls Tryd.prog 23 #[bv n ao k cap] w fun e w' => Gives E q r (rowOf (fun i => oddB X (i + 1)) n.toNat) w e w' := by
  have hmf : ∀ (fn : Fn) (first cap : Array Value) (w : World), (Instr.makeFunc fn first cap).run Tryd.prog w = .ok (.func fn first cap) w := fun _ _ _ _ => rfl
  rcases hE.out with ⟨h1, rfl, rfl, rfl⟩ | ⟨h1, rfl, rfl, rfl⟩
  · have hc : Hid _ := fun (f : Value) (w1 : World) (hb : Below w.heap.size w w1) => changedBad_calls n ao k cap X f hn hk h1 w1 (hW.kept hb)
    clear hE h1 hW hn
    go_enter Tryd.func23, Tryd.ntmps23
    go_wp2_with fail
    refine Calls.mono (hc.out _ _ (by repeat (first | with_reducible exact Below.refl _ _ | with_reducible refine Below.setCell ?_ (by first | (simp; done) | (simp; omega)) _ | with_reducible refine below_drewN ?_ _ | with_reducible refine Below.alloc ?_ (by first | (simp; done) | (simp; omega)) _ | with_reducible refine Below.drew ?_))) ?_
    rintro e w1 ⟨rfl, hb⟩
    have a1 : At w1 (w.heap.size + 1) #[.int .i64 0, .slice none 0 0] 25 := by
      have := ((At.new (w.alloc (.cells #[.int .i64 n, .slice ao k cap] 25)) #[.int .i64 0, .slice none 0 0] 25).alloc _).keptAll (by exact hb)
      simpa using this
    have hB1 : Below w.heap.size w w1 := Below.trans (by repeat (first | with_reducible exact Below.refl _ _ | with_reducible refine Below.setCell ?_ (by first | (simp; done) | (simp; omega)) _ | with_reducible refine below_drewN ?_ _ | with_reducible refine Below.alloc ?_ (by first | (simp; done) | (simp; omega)) _ | with_reducible refine Below.drew ?_)) (hb.mono (by simp; try omega))
    obtain ⟨c0, c1, f0, f1⟩ := a1.facts
    have a1' : Hid (At w1 (w.heap.size + 1) #[.int .i64 0, .slice none 0 0] 25) := a1
    clear hb a1 hc
    go_wp2
    exact ret_bits2 rfl rfl a1'.out.two rfl ⟨(hB1.setCell (p := ⟨w.heap.size + 1, 0, none⟩) (by show w.heap.size ≤ w.heap.size + 1; omega) _).setCell (p := ⟨w.heap.size + 1, 1, none⟩) (by show w.heap.size ≤ w.heap.size + 1; omega) _, none, .inl ⟨rfl, rfl⟩, rfl⟩
  · have h1' : Hid (formed q r X) := h1
    have hX := fun j hj => (hW j hj).1
    have hc : Hid _ := fun (w1 : World) (hb : Below w.heap.size w w1) (hm : w.heap.size + 2 < w1.heap.size) (hS : At w1 (w.heap.size + 2) #[.int .u64 ((odW X 0 : Nat) : Int)] 46) => changed_calls w w1 (w.heap.size + 2) 42 #[.pointer (some ⟨w.heap.size + 2, 0, none⟩)] q ao r cap X _ _ (prefix_turns w.heap.size w1.heap.size (w.heap.size + 2) r (by omega) hm X hX) hn hk h1' hW hb hm hS
    clear hE h1 hW hn hX
    go_enter Tryd.func23, Tryd.ntmps23
    go_wp2_with fail
    refine Calls.mono (hc.out _ (by repeat (first | with_reducible exact Below.refl _ _ | with_reducible refine Below.setCell ?_ (by first | (simp; done) | (simp; omega)) _ | with_reducible refine below_drewN ?_ _ | with_reducible refine Below.alloc ?_ (by first | (simp; done) | (simp; omega)) _ | with_reducible refine Below.drew ?_)) (by simp; try omega) ?_) ?_
    · have := At.new ((w.alloc (.cells #[.int .i64 q, .slice ao r cap] 25)).alloc (.cells #[.int .i64 0, .slice none 0 0] 25)) #[.int .u64 0] 46
      simpa [odW, oddB] using this
    rintro e w1 ⟨⟨g, hg, hrow, rfl⟩, hb, hkp⟩
    have a1 : At w1 (w.heap.size + 1) #[.int .i64 0, .slice none 0 0] 25 := by
      have := hkp (w.heap.size + 1) _ _ (by omega) (by have := (At.new (w.alloc (.cells #[.int .i64 q, .slice ao r cap] 25)) #[.int .i64 0, .slice none 0 0] 25).alloc (.cells #[.int .u64 0] 46); simpa using this)
      exact this
    obtain ⟨c0, c1, f0, f1⟩ := a1.facts
    have a1' : Hid (At w1 (w.heap.size + 1) #[.int .i64 0, .slice none 0 0] 25) := a1
    have hg' : w.heap.size + 3 ≤ g := by simp at hg; omega
    have hrow' : Hid (At w1 g (rowCells r (fun j => (prefW (X j) ^^^ odW X j) &&& lowm (q - 64 * (j : Int)))) 46) := hrow
    clear hc a1 hkp hrow hg
    go_wp2
    refine ret_bits2 rfl rfl a1'.out.two rfl ⟨(hb.setCell (p := ⟨w.heap.size + 1, 0, none⟩) (by show w.heap.size ≤ w.heap.size + 1; omega) _).setCell (p := ⟨w.heap.size + 1, 1, none⟩) (by show w.heap.size ≤ w.heap.size + 1; omega) _, _, .inr ⟨g, rfl, by omega, ?_⟩, rfl⟩
    obtain ⟨N, rfl⟩ := Int.eq_ofNat_of_zero_le h1'.out.1
    rw [Int.toNat_natCast, show rowCells r (rowOf (fun i => oddB X (i + 1)) N) = rowCells r (fun j => (prefW (X j) ^^^ odW X j) &&& lowm ((N : Int) - 64 * (j : Int))) from
      rowCells_congr (fun j _ => (turn_row (Nat.xor_lt_two_pow (n := 64) (prefW_lt _) (odW_lt _ _)) (fun t ht => prefC_bit X j t ht)).symm)]
    exact (hrow'.out.other (p := ⟨w.heap.size + 1, 0, none⟩) (by show g ≠ w.heap.size + 1; omega) _).other (p := ⟨w.heap.size + 1, 1, none⟩) (by show g ≠ w.heap.size + 1; omega) _
end Go.Proofs.YtmjmcdoanolelaaDoor
