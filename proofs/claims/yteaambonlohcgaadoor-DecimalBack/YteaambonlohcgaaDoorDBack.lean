/-
  The law DecimalBack, walked.
-/
import Derived.Test.YteaambonlohcgaaDoorDecText
import Derived.Test.YteaambonlohcgaaDoorDecAwake
import Derived.Test.YteaambonlohcgaaDoorRefCmp
namespace Go.Proofs.YteaambonlohcgaaDoor
open Go.RowKit Go.Shelf

theorem cmpB_self : ∀ l : List UInt8, Lib.compareBytes l l = 0
  | [] => rfl
  | a :: l => by
    unfold Lib.compareBytes
    rw [if_neg (UInt8.lt_irrefl a), if_neg (UInt8.lt_irrefl a)]
    exact cmpB_self l
theorem cmpS_self (n : Bool) (t : ByteArray) (x : Int) : cmpS n t x n t x = 0 := by
  have hs : sizS t x t x = 0 := by
    unfold sizS
    rw [(cmpI_zero _ _).2 rfl, if_neg (by simp), cmpB_self]
  unfold cmpS
  rw [if_neg (by simp), hs, Int.mul_zero]
theorem txt_size {n : Bool} {t : ByteArray} {x : Int} (h : frmS t x = true) (hs : t.size ≤ reachBytes) : (txtB n t x).size ≤ 281474976710656 := by
  have hr : reachBytes = 140737488351232 := by decide
  have hxin : inB x = true := by
    by_cases h0 : t.size = 0
    · have := h
      rw [frm_none h0] at this
      rw [of_decide_eq_true this]; rfl
    · exact (frm_parts h h0).2.2.2
  have hil := itoa_len x hxin
  rw [← size_list, txt_list, List.length_append, List.length_append, List.length_append, size_list]
  have l1 : (if n then [45] else [] : List UInt8).length ≤ 1 := by cases n <;> decide
  have l2 : (if t.size = 0 then [48] else [] : List UInt8).length ≤ 1 := by split <;> decide
  have l3 : (if x = 0 then [] else 101 :: Lib.itoa x : List UInt8).length ≤ 21 := by
    split
    · exact Nat.zero_le _
    · rw [List.length_cons]; omega
  omega
set_option maxRecDepth 10000 in
set_option maxHeartbeats 4000000 in
theorem decimalBack_walk (n : Bool) (t : ByteArray) (x : Int) (_ : (Lit.int .i64 x).wf = true) (hs : t.size ≤ reachBytes) (w : World) (hT : PowT w) :
    Calls Tryd.prog 6 #[.agg #[.bool n, .string t, .int .i64 x]] w fun e w' => e = .returned (.bool true) ∧ Below w.heap.size w w' := by
  have hr := reachBytes_lt
  have hs4 : t.size ≤ 4611686018427387904 := by omega
  obtain ⟨F, hF⟩ : ∃ F, Hid (frmS t x = F) := ⟨_, rfl⟩
  have cF := hid (fun w1 => formed_calls n t x hs4 F hF w1)
  obtain ⟨S, E, hS⟩ : ∃ S E, Hid (txtR n t x = (S, E)) := ⟨_, _, rfl⟩
  have cT := hid (fun w1 h1 => text_calls n t x hs S E hS w1 h1)
  have ca := hid awake_calls
  have he := eqDec n t x
  have A0 := hid (show OwnD w w.heap.size n t x (w.alloc (.cells #[.bool n, .string t, .int .i64 x] 23)) from ⟨Nat.le_refl _, At.new w _ _, by repeat (first | with_reducible exact Below.refl _ _ | with_reducible refine Below.setCell ?_ (by first | (simp; done) | (simp; omega)) _ | with_reducible refine below_drewN ?_ _ | with_reducible refine Below.alloc ?_ (by first | (simp; done) | (simp; omega)) _ | with_reducible refine Below.drew ?_)⟩)
  have hT' := hid hT
  have hs' := hid hs
  have hs4' := hid hs4
  clear hT hs hr hs4
  go_enter Tryd.func6, Tryd.ntmps6
  go_wp2_with fail
  refine Calls.mono (ca.out _) ?_
  rintro e w1 ⟨rfl, hb⟩
  have A1 := hid (A0.out.kept hb)
  clear A0 ca hb
  obtain ⟨⟨c0, c1, c2⟩, -, -, -⟩ := A1.out.facts
  go_wp2_with fail
  refine Calls.mono (cT.out _ (hT'.out.kept A1.out.2.2)) ?_
  rintro e w2 ⟨rfl, hb⟩
  have A2 := hid (A1.out.kept hb)
  clear A1 cT hb c0 c1 c2 hT'
  obtain ⟨⟨c0, c1, c2⟩, -, -, -⟩ := A2.out.facts
  cases F with
  | false =>
    have hv := hS.out
    rw [txtR, hF.out] at hv
    obtain ⟨rfl, rfl⟩ : (⟨#[]⟩ : ByteArray) = S ∧ 1 = E := by simpa using hv
    clear hv hS
    go_wp2_with fail
    refine Calls.mono (cF.out _) ?_
    rintro e w3 ⟨rfl, hb⟩
    have A3 := hid (A2.out.kept hb)
    clear A2 cF hb c0 c1 c2
    go_wp2
    go_ret
    exact ⟨by first | rfl | simp, A3.out.2.2⟩
  | true =>
    have hv := hS.out
    rw [txtR, hF.out, if_pos rfl] at hv
    obtain ⟨hSv, rfl⟩ : txtB n t x = S ∧ 0 = E := by simpa using hv
    have hof : ofV S = .tuple #[.agg #[.bool n, .string t, .int .i64 x], .int .i64 0] := by
      rw [← hSv, ofV, of_text n hF.out]
      show Value.tuple #[.agg #[.bool n, .string ⟨t.data.toList.toArray⟩, .int .i64 x], .int .i64 0] = _
      rw [Lib.mk_data]
    have cO := hid (fun w1 => of_calls S (by rw [← hSv]; exact txt_size hF.out hs'.out) w1)
    rw [hof] at cO
    have cC := hid (fun w1 => cmp_calls n t x n t x hs4'.out hs4'.out 0 0 (by show _ = _; rw [cmpR, hF.out, cmpS_self]; rfl) w1)
    clear hv hS hSv hof
    go_wp2_with fail
    refine Calls.mono (cO.out _) ?_
    rintro e w3 ⟨rfl, hb⟩
    have A3 := hid (A2.out.kept hb)
    have B3 := hid (At.new w3 #[.bool n, .string t, .int .i64 x] 23)
    have A4 := hid (A3.out.kept (w' := w3.alloc (.cells #[.bool n, .string t, .int .i64 x] 23)) ((Below.refl _ _).alloc (Nat.le_refl _) _))
    clear A2 cO hb c0 c1 c2 A3
    go_upto_region 7 with fail
    generalize w3.heap.size = b3 at B3 ⊢
    generalize w3.alloc (.cells #[.bool n, .string t, .int .i64 x] 23) = w4 at B3 A4 ⊢
    obtain ⟨⟨c0, c1, c2⟩, -, -, -⟩ := A4.out.facts
    obtain ⟨d0, d1, d2⟩ : w4.cell? ⟨b3, 0, none⟩ = some (.bool n) ∧ w4.cell? ⟨b3, 1, none⟩ = some (.string t) ∧ w4.cell? ⟨b3, 2, none⟩ = some (.int .i64 x) := ⟨B3.out.cell 0, B3.out.cell 1, B3.out.cell 2⟩
    go_wp2_with fail
    refine Calls.mono (cC.out _) ?_
    rintro e w5 ⟨rfl, hb⟩
    have A5 := hid (A4.out.kept hb)
    have B5 := hid (B3.out.keptAll hb)
    clear A4 B3 cC hb c0 c1 c2 d0 d1 d2
    obtain ⟨⟨c0, c1, c2⟩, -, -, -⟩ := A5.out.facts
    obtain ⟨d0, d1, d2⟩ : w5.cell? ⟨b3, 0, none⟩ = some (.bool n) ∧ w5.cell? ⟨b3, 1, none⟩ = some (.string t) ∧ w5.cell? ⟨b3, 2, none⟩ = some (.int .i64 x) := ⟨B5.out.cell 0, B5.out.cell 1, B5.out.cell 2⟩
    go_wp2_with fail
    refine Calls.mono (cF.out _) ?_
    rintro e w6 ⟨rfl, hb⟩
    have A6 := hid (A5.out.kept hb)
    clear A5 B5 cF hb c0 c1 c2 d0 d1 d2
    go_wp2
    go_ret
    exact ⟨by first | rfl | simp, A6.out.2.2⟩
end Go.Proofs.YteaambonlohcgaaDoor
