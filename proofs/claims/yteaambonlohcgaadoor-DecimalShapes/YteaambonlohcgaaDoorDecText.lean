/-
  What decimal.Text, the reference's Text, decimal.Whole and the reference's Whole answer.
-/
import Derived.Test.YteaambonlohcgaaDoorBldB
import Derived.Test.YteaambonlohcgaaDoorBackMath
import Derived.Test.YteaambonlohcgaaDoorShelfB
import Derived.Test.YteaambonlohcgaaDoorRefForm
import Derived.Test.YteaambonlohcgaaDoorRows
import Derived.Lib.LaidTab
import Derived.Lib.AppendIntMem
namespace Go.Proofs.YteaambonlohcgaaDoor
open Go.RowKit Go.Shelf

/-- The table of powers of ten: its name, as the row has it. -/
abbrev powNm : String := Rows.decimalShapesRow.named.getD 0 default
def PowT (w : World) : Prop := Lib.TabIs Tryd.prog w powNm .u64 Lib.pow10Tab
theorem gPowN : (Tryd.prog.globalNamed powNm).isSome = true := by kernel_rfl
theorem PowT.kept {w w' : World} (h : PowT w) (hb : Below w.heap.size w w') : PowT w' := by
  obtain ⟨g, hg⟩ := Option.isSome_iff_exists.1 gPowN
  unfold PowT Lib.TabIs World.var? at h ⊢
  rw [hg] at h ⊢
  simp only [Option.bind_some] at h ⊢
  cases ho : w.heap[g]? with
  | none => rw [ho] at h; cases h
  | some o =>
    have hlt : g < w.heap.size := (Array.getElem?_eq_some_iff.1 ho).1
    rw [hb.block g hlt]
    exact h
theorem itoa_calls (x : Int) (h0 : -9223372036854775808 ≤ x) (h1 : x ≤ 9223372036854775807) (w : World) (hT : PowT w) :
    Calls Tryd.prog 27 #[.int .i64 x] w fun e w' => e = .returned (.string ⟨(Lib.itoa x).toArray⟩) ∧ Below w.heap.size w w' := by
  refine Calls.mono (show Calls Tryd.prog 27 #[.int .i64 x] w fun e w' => e = .returned (.string ⟨(Lib.itoa x).toArray⟩) ∧ ∃ k os, w' = Sort.grow (w.drewN k) os from Any.strconv_Itoa Tryd.laysM171 x h0 h1 w hT) ?_
  rintro e w' ⟨rfl, k, os, rfl⟩
  exact ⟨rfl, Lib.below_grow _ w (Nat.le_refl _) k os⟩

theorem BdI.fresh (w : World) : BdI (w.alloc (.cells #[.pointer none, .slice none 0 0] 53)) w.heap.size (w.heap.size + 1) [] := ⟨_, _, At.new w _ _, .inl rfl, World.ownsRow_nil _ _ _ _⟩
theorem itoa_len (x : Int) (h : inB x = true) : (Lib.itoa x).length ≤ 20 := by
  have h1 := inB_of h
  have key : ∀ u : Nat, u ≤ 1073741824 → (Lib.decDigits u).length ≤ 11 := by
    intro u hu
    have step : ∀ k u, u < 10 ^ (k + 1) → (Lib.decDigits u).length ≤ k + 1 := by
      intro k
      induction k with
      | zero => intro u h; rw [Lib.decDigits, dif_pos (by simpa using h)]; simp
      | succ k ih =>
        intro u h
        rw [Lib.decDigits]
        split
        · simp
        · have := ih (u / 10) (by rw [Nat.pow_succ] at h; omega)
          rw [List.length_append]
          simp
          omega
    exact step 10 u (by have : (10 : Nat) ^ (10 + 1) = 100000000000 := by decide
                        omega)
  unfold Lib.itoa
  split
  · have := key x.natAbs (by omega)
    rw [List.length_cons]; omega
  · have := key x.toNat (by omega)
    omega
theorem txt_list (n : Bool) (t : ByteArray) (x : Int) : (txtB n t x).data.toList = (if n then [45] else []) ++ ((if t.size = 0 then [48] else []) ++ t.data.toList ++ (if x = 0 then [] else 101 :: Lib.itoa x)) := by
  unfold txtB txN txW txX
  rw [nil_app, data_append, data_append]
  cases n
  · by_cases h0 : t.size = 0
    · have ht : t.data.toList = [] := List.eq_nil_of_length_eq_zero (by rw [size_list]; exact h0)
      by_cases hx : x = 0
      · simp [h0, hx, ht]
      · simp [h0, hx, ht]
    · by_cases hx : x = 0
      · simp [h0, hx]
      · simp [h0, hx]
  · by_cases h0 : t.size = 0
    · have ht : t.data.toList = [] := List.eq_nil_of_length_eq_zero (by rw [size_list]; exact h0)
      by_cases hx : x = 0
      · simp [h0, hx, ht]
      · simp [h0, hx, ht]
    · by_cases hx : x = 0
      · simp [h0, hx]
      · simp [h0, hx]
/-- What Text answers. -/
def txtR (n : Bool) (t : ByteArray) (x : Int) : ByteArray × Int := if frmS t x then (txtB n t x, 0) else (⟨#[]⟩, 1)
theorem below_bd {m n0 : Nat} {w w' w1 : World} (h : Below n0 w w1) (hb : Below m w1 w') (hn : n0 ≤ m) : Below n0 w w' := h.trans (hb.mono hn)

set_option maxRecDepth 10000 in
set_option maxHeartbeats 8000000 in
theorem text_calls (n : Bool) (t : ByteArray) (x : Int) (hs : t.size ≤ reachBytes) (S : ByteArray) (E : Int) (hS : Hid (txtR n t x = (S, E))) (w : World) (hT : PowT w) :
    Calls Tryd.prog 12 #[.agg #[.bool n, .string t, .int .i64 x]] w fun e w' => e = .returned (.tuple #[.string S, .int .i64 E]) ∧ Below w.heap.size w w' := by
  have hr : reachBytes = 140737488351232 := by decide
  have hsz : t.size ≤ 140737488351232 := by rw [← hr]; exact hs
  clear hs hr
  obtain ⟨F, hF⟩ : ∃ F, Hid (frmS t x = F) := ⟨_, rfl⟩
  have cF := hid (fun w1 => formed_calls n t x (by omega) F hF w1)
  have A0 := hid (At.new w #[.bool n, .string t, .int .i64 x] 23)
  have hb0 := hid (show Below w.heap.size w (w.alloc (.cells #[.bool n, .string t, .int .i64 x] 23)) by repeat (first | with_reducible exact Below.refl _ _ | with_reducible refine Below.setCell ?_ (by first | (simp; done) | (simp; omega)) _ | with_reducible refine below_drewN ?_ _ | with_reducible refine Below.alloc ?_ (by first | (simp; done) | (simp; omega)) _ | with_reducible refine Below.drew ?_))
  have hT' := hid hT
  clear hT
  go_enter Tryd.func12, Tryd.ntmps12
  go_wp2_with fail
  refine Calls.mono (cF.out _) ?_
  rintro e w1 ⟨rfl, hb⟩
  have A1 := hid (A0.out.keptAll hb)
  have hb1 := hid (hb0.out.trans (hb.mono hb0.out.size))
  clear A0 hb0 hb cF
  cases F with
  | false =>
    have hv := hS.out
    rw [txtR, hF.out] at hv
    obtain ⟨rfl, rfl⟩ : (⟨#[]⟩ : ByteArray) = S ∧ 1 = E := by simpa using hv
    clear hv hS
    go_wp2
    refine bodyPost_ret (results_tmp2 rfl _ _ _) rfl ?_
    exact ⟨rfl, hb1.out⟩
  | true =>
    have hv := hS.out
    rw [txtR, hF.out, if_pos rfl] at hv
    obtain ⟨hSv, rfl⟩ : txtB n t x = S ∧ 0 = E := by simpa using hv
    have hxin : inB x = true := by
      by_cases h0 : t.size = 0
      · have := hF.out
        rw [frm_none h0] at this
        rw [of_decide_eq_true this]; rfl
      · exact (frm_parts hF.out h0).2.2.2
    have hxi := inB_of hxin
    have hil := itoa_len x hxin
    have hSl := hid (show S.data.toList = (if n then [45] else []) ++ ((if t.size = 0 then [48] else []) ++ t.data.toList ++ (if x = 0 then [] else 101 :: Lib.itoa x)) by rw [← hSv]; exact txt_list n t x)
    clear hv hS hSv hF
    have hbd := hid (BdI.fresh w1)
    have A2 := hid (A1.out.alloc (.cells #[.pointer none, .slice none 0 0] 53))
    have hb2 := hid (show Below w.heap.size w (w1.alloc (.cells #[.pointer none, .slice none 0 0] 53)) from hb1.out.alloc hb1.out.size _)
    have hlt := hid (show w.heap.size < w1.heap.size from A1.out.lt)
    go_upto_region 4 with fail
    generalize hm : w1.heap.size = m at hbd hlt ⊢
    generalize w1.alloc (.cells #[.pointer none, .slice none 0 0] 53) = W at hbd A2 hb2 ⊢
    have hWs := hid (show m + 1 ≤ W.heap.size by obtain ⟨p, v, h1, -⟩ := hbd.out; exact h1.lt)
    clear A1 hb1 hm
    have hst := size_list t
    cases n
    · by_cases h0 : t.size = 0
      · have e0 : (t.toList == []) = true := by
          have : t.toList = [] := by rw [Lib.toList_data]; exact List.eq_nil_of_length_eq_zero (by rw [size_list]; exact h0)
          rw [this]; rfl
        have ht0 : t.data.toList = [] := List.eq_nil_of_length_eq_zero (by rw [size_list]; exact h0)
        by_cases hx0 : x = 0
        · have e1 : (x != 0) = false := by simp [hx0]
          obtain ⟨c0, c1, c2⟩ : W.cell? ⟨w.heap.size, 0, none⟩ = some (.bool false) ∧ W.cell? ⟨w.heap.size, 1, none⟩ = some (.string t) ∧ W.cell? ⟨w.heap.size, 2, none⟩ = some (.int .i64 x) := ⟨A2.out.cell 0, A2.out.cell 1, A2.out.cell 2⟩
          go_wp2_with fail
          refine Calls.mono (bbyte_calls m (m + 1) [] 48 48 rfl (Nat.lt_succ_self _) (by simp; try omega) _ hbd.out hWs.out) ?_
          rintro e W' ⟨rfl, hbn, hb⟩
          replace A2 := hid (A2.out.kept hb hlt.out)
          replace hb2 := hid (below_bd hb2.out hb (Nat.le_of_lt hlt.out))
          replace hWs := hid (Nat.le_trans hWs.out hb.size)
          replace hbd := hid hbn
          clear hb hbn c0 c1 c2
          obtain ⟨W, rfl⟩ : ∃ W, W = W' := ⟨_, rfl⟩
          obtain ⟨c0, c1, c2⟩ : W.cell? ⟨w.heap.size, 0, none⟩ = some (.bool false) ∧ W.cell? ⟨w.heap.size, 1, none⟩ = some (.string t) ∧ W.cell? ⟨w.heap.size, 2, none⟩ = some (.int .i64 x) := ⟨A2.out.cell 0, A2.out.cell 1, A2.out.cell 2⟩
          go_wp2_with fail
          refine Calls.mono (bstr_calls m (m + 1) ([] ++ [48]) t (Nat.lt_succ_self _) (by simp; try omega) _ hbd.out hWs.out) ?_
          rintro e W' ⟨rfl, hbn, hb⟩
          replace A2 := hid (A2.out.kept hb hlt.out)
          replace hb2 := hid (below_bd hb2.out hb (Nat.le_of_lt hlt.out))
          replace hWs := hid (Nat.le_trans hWs.out hb.size)
          replace hbd := hid hbn
          clear hb hbn c0 c1 c2
          obtain ⟨W, rfl⟩ : ∃ W, W = W' := ⟨_, rfl⟩
          have hle : (([] ++ [48]) ++ t.data.toList) = S.data.toList := by
            rw [hSl.out]
            simp [h0, hx0, ht0]
          replace hbd := hid (show BdI W m (m + 1) S.data.toList by rw [← hle]; exact hbd.out)
          have hSm : (⟨S.data.toList.toArray⟩ : ByteArray) = S := Lib.mk_data S
          clear hle
          obtain ⟨c0, c1, c2⟩ : W.cell? ⟨w.heap.size, 0, none⟩ = some (.bool false) ∧ W.cell? ⟨w.heap.size, 1, none⟩ = some (.string t) ∧ W.cell? ⟨w.heap.size, 2, none⟩ = some (.int .i64 x) := ⟨A2.out.cell 0, A2.out.cell 1, A2.out.cell 2⟩
          have hbc := hid (bstring_calls m (m + 1) w.heap.size S.data.toList W hbd.out (by have := hlt.out; omega) hWs.out)
          rw [hSm] at hbc
          clear hSm
          go_wp2_with fail
          refine Calls.mono hbc.out ?_
          rintro e W' ⟨rfl, hb, -⟩
          go_wp2
          refine bodyPost_ret (results_tmp2 rfl _ _ _) rfl ?_
          exact ⟨rfl, hb2.out.trans hb⟩
        · have e1 : (x != 0) = true := by simpa using hx0
          obtain ⟨c0, c1, c2⟩ : W.cell? ⟨w.heap.size, 0, none⟩ = some (.bool false) ∧ W.cell? ⟨w.heap.size, 1, none⟩ = some (.string t) ∧ W.cell? ⟨w.heap.size, 2, none⟩ = some (.int .i64 x) := ⟨A2.out.cell 0, A2.out.cell 1, A2.out.cell 2⟩
          go_wp2_with fail
          refine Calls.mono (bbyte_calls m (m + 1) [] 48 48 rfl (Nat.lt_succ_self _) (by simp; try omega) _ hbd.out hWs.out) ?_
          rintro e W' ⟨rfl, hbn, hb⟩
          replace A2 := hid (A2.out.kept hb hlt.out)
          replace hb2 := hid (below_bd hb2.out hb (Nat.le_of_lt hlt.out))
          replace hWs := hid (Nat.le_trans hWs.out hb.size)
          replace hbd := hid hbn
          clear hb hbn c0 c1 c2
          obtain ⟨W, rfl⟩ : ∃ W, W = W' := ⟨_, rfl⟩
          obtain ⟨c0, c1, c2⟩ : W.cell? ⟨w.heap.size, 0, none⟩ = some (.bool false) ∧ W.cell? ⟨w.heap.size, 1, none⟩ = some (.string t) ∧ W.cell? ⟨w.heap.size, 2, none⟩ = some (.int .i64 x) := ⟨A2.out.cell 0, A2.out.cell 1, A2.out.cell 2⟩
          go_wp2_with fail
          refine Calls.mono (bstr_calls m (m + 1) ([] ++ [48]) t (Nat.lt_succ_self _) (by simp; try omega) _ hbd.out hWs.out) ?_
          rintro e W' ⟨rfl, hbn, hb⟩
          replace A2 := hid (A2.out.kept hb hlt.out)
          replace hb2 := hid (below_bd hb2.out hb (Nat.le_of_lt hlt.out))
          replace hWs := hid (Nat.le_trans hWs.out hb.size)
          replace hbd := hid hbn
          clear hb hbn c0 c1 c2
          obtain ⟨W, rfl⟩ : ∃ W, W = W' := ⟨_, rfl⟩
          obtain ⟨c0, c1, c2⟩ : W.cell? ⟨w.heap.size, 0, none⟩ = some (.bool false) ∧ W.cell? ⟨w.heap.size, 1, none⟩ = some (.string t) ∧ W.cell? ⟨w.heap.size, 2, none⟩ = some (.int .i64 x) := ⟨A2.out.cell 0, A2.out.cell 1, A2.out.cell 2⟩
          go_wp2_with fail
          refine Calls.mono (bbyte_calls m (m + 1) (([] ++ [48]) ++ t.data.toList) 101 101 rfl (Nat.lt_succ_self _) (by simp; have := size_list t; omega) _ hbd.out hWs.out) ?_
          rintro e W' ⟨rfl, hbn, hb⟩
          replace A2 := hid (A2.out.kept hb hlt.out)
          replace hb2 := hid (below_bd hb2.out hb (Nat.le_of_lt hlt.out))
          replace hWs := hid (Nat.le_trans hWs.out hb.size)
          replace hbd := hid hbn
          clear hb hbn c0 c1 c2
          obtain ⟨W, rfl⟩ : ∃ W, W = W' := ⟨_, rfl⟩
          obtain ⟨c0, c1, c2⟩ : W.cell? ⟨w.heap.size, 0, none⟩ = some (.bool false) ∧ W.cell? ⟨w.heap.size, 1, none⟩ = some (.string t) ∧ W.cell? ⟨w.heap.size, 2, none⟩ = some (.int .i64 x) := ⟨A2.out.cell 0, A2.out.cell 1, A2.out.cell 2⟩
          go_wp2_with fail
          refine Calls.mono (itoa_calls x (by omega) (by omega) _ (hT'.out.kept hb2.out)) ?_
          rintro e W' ⟨rfl, hb⟩
          replace A2 := hid (A2.out.keptAll hb)
          replace hbd := hid (hbd.out.kept hb)
          replace hb2 := hid (hb2.out.trans (hb.mono hb2.out.size))
          replace hWs := hid (Nat.le_trans hWs.out hb.size)
          clear hb c0 c1 c2
          obtain ⟨W, rfl⟩ : ∃ W, W = W' := ⟨_, rfl⟩
          obtain ⟨c0, c1, c2⟩ : W.cell? ⟨w.heap.size, 0, none⟩ = some (.bool false) ∧ W.cell? ⟨w.heap.size, 1, none⟩ = some (.string t) ∧ W.cell? ⟨w.heap.size, 2, none⟩ = some (.int .i64 x) := ⟨A2.out.cell 0, A2.out.cell 1, A2.out.cell 2⟩
          go_wp2_with fail
          refine Calls.mono (bstr_calls m (m + 1) ((([] ++ [48]) ++ t.data.toList) ++ [101]) ⟨(Lib.itoa x).toArray⟩ (Nat.lt_succ_self _) (by rw [Lib.size_mk]; simp; have := size_list t; omega) _ hbd.out hWs.out) ?_
          rintro e W' ⟨rfl, hbn, hb⟩
          replace A2 := hid (A2.out.kept hb hlt.out)
          replace hb2 := hid (below_bd hb2.out hb (Nat.le_of_lt hlt.out))
          replace hWs := hid (Nat.le_trans hWs.out hb.size)
          replace hbd := hid hbn
          clear hb hbn c0 c1 c2
          obtain ⟨W, rfl⟩ : ∃ W, W = W' := ⟨_, rfl⟩
          have hle : (((([] ++ [48]) ++ t.data.toList) ++ [101]) ++ (⟨(Lib.itoa x).toArray⟩ : ByteArray).data.toList) = S.data.toList := by
            rw [hSl.out]
            simp [h0, hx0, ht0]
          replace hbd := hid (show BdI W m (m + 1) S.data.toList by rw [← hle]; exact hbd.out)
          have hSm : (⟨S.data.toList.toArray⟩ : ByteArray) = S := Lib.mk_data S
          clear hle
          obtain ⟨c0, c1, c2⟩ : W.cell? ⟨w.heap.size, 0, none⟩ = some (.bool false) ∧ W.cell? ⟨w.heap.size, 1, none⟩ = some (.string t) ∧ W.cell? ⟨w.heap.size, 2, none⟩ = some (.int .i64 x) := ⟨A2.out.cell 0, A2.out.cell 1, A2.out.cell 2⟩
          have hbc := hid (bstring_calls m (m + 1) w.heap.size S.data.toList W hbd.out (by have := hlt.out; omega) hWs.out)
          rw [hSm] at hbc
          clear hSm
          go_wp2_with fail
          refine Calls.mono hbc.out ?_
          rintro e W' ⟨rfl, hb, -⟩
          go_wp2
          refine bodyPost_ret (results_tmp2 rfl _ _ _) rfl ?_
          exact ⟨rfl, hb2.out.trans hb⟩
      · have e0 : (t.toList == []) = false := by
          apply beq_eq_false_iff_ne.2
          intro he
          apply h0
          rw [← size_list, ← Lib.toList_data, he]; rfl
        by_cases hx0 : x = 0
        · have e1 : (x != 0) = false := by simp [hx0]
          obtain ⟨c0, c1, c2⟩ : W.cell? ⟨w.heap.size, 0, none⟩ = some (.bool false) ∧ W.cell? ⟨w.heap.size, 1, none⟩ = some (.string t) ∧ W.cell? ⟨w.heap.size, 2, none⟩ = some (.int .i64 x) := ⟨A2.out.cell 0, A2.out.cell 1, A2.out.cell 2⟩
          go_wp2_with fail
          refine Calls.mono (bstr_calls m (m + 1) [] t (Nat.lt_succ_self _) (by simp; try omega) _ hbd.out hWs.out) ?_
          rintro e W' ⟨rfl, hbn, hb⟩
          replace A2 := hid (A2.out.kept hb hlt.out)
          replace hb2 := hid (below_bd hb2.out hb (Nat.le_of_lt hlt.out))
          replace hWs := hid (Nat.le_trans hWs.out hb.size)
          replace hbd := hid hbn
          clear hb hbn c0 c1 c2
          obtain ⟨W, rfl⟩ : ∃ W, W = W' := ⟨_, rfl⟩
          have hle : ([] ++ t.data.toList) = S.data.toList := by
            rw [hSl.out]
            simp [h0, hx0]
          replace hbd := hid (show BdI W m (m + 1) S.data.toList by rw [← hle]; exact hbd.out)
          have hSm : (⟨S.data.toList.toArray⟩ : ByteArray) = S := Lib.mk_data S
          clear hle
          obtain ⟨c0, c1, c2⟩ : W.cell? ⟨w.heap.size, 0, none⟩ = some (.bool false) ∧ W.cell? ⟨w.heap.size, 1, none⟩ = some (.string t) ∧ W.cell? ⟨w.heap.size, 2, none⟩ = some (.int .i64 x) := ⟨A2.out.cell 0, A2.out.cell 1, A2.out.cell 2⟩
          have hbc := hid (bstring_calls m (m + 1) w.heap.size S.data.toList W hbd.out (by have := hlt.out; omega) hWs.out)
          rw [hSm] at hbc
          clear hSm
          go_wp2_with fail
          refine Calls.mono hbc.out ?_
          rintro e W' ⟨rfl, hb, -⟩
          go_wp2
          refine bodyPost_ret (results_tmp2 rfl _ _ _) rfl ?_
          exact ⟨rfl, hb2.out.trans hb⟩
        · have e1 : (x != 0) = true := by simpa using hx0
          obtain ⟨c0, c1, c2⟩ : W.cell? ⟨w.heap.size, 0, none⟩ = some (.bool false) ∧ W.cell? ⟨w.heap.size, 1, none⟩ = some (.string t) ∧ W.cell? ⟨w.heap.size, 2, none⟩ = some (.int .i64 x) := ⟨A2.out.cell 0, A2.out.cell 1, A2.out.cell 2⟩
          go_wp2_with fail
          refine Calls.mono (bstr_calls m (m + 1) [] t (Nat.lt_succ_self _) (by simp; try omega) _ hbd.out hWs.out) ?_
          rintro e W' ⟨rfl, hbn, hb⟩
          replace A2 := hid (A2.out.kept hb hlt.out)
          replace hb2 := hid (below_bd hb2.out hb (Nat.le_of_lt hlt.out))
          replace hWs := hid (Nat.le_trans hWs.out hb.size)
          replace hbd := hid hbn
          clear hb hbn c0 c1 c2
          obtain ⟨W, rfl⟩ : ∃ W, W = W' := ⟨_, rfl⟩
          obtain ⟨c0, c1, c2⟩ : W.cell? ⟨w.heap.size, 0, none⟩ = some (.bool false) ∧ W.cell? ⟨w.heap.size, 1, none⟩ = some (.string t) ∧ W.cell? ⟨w.heap.size, 2, none⟩ = some (.int .i64 x) := ⟨A2.out.cell 0, A2.out.cell 1, A2.out.cell 2⟩
          go_wp2_with fail
          refine Calls.mono (bbyte_calls m (m + 1) ([] ++ t.data.toList) 101 101 rfl (Nat.lt_succ_self _) (by simp; have := size_list t; omega) _ hbd.out hWs.out) ?_
          rintro e W' ⟨rfl, hbn, hb⟩
          replace A2 := hid (A2.out.kept hb hlt.out)
          replace hb2 := hid (below_bd hb2.out hb (Nat.le_of_lt hlt.out))
          replace hWs := hid (Nat.le_trans hWs.out hb.size)
          replace hbd := hid hbn
          clear hb hbn c0 c1 c2
          obtain ⟨W, rfl⟩ : ∃ W, W = W' := ⟨_, rfl⟩
          obtain ⟨c0, c1, c2⟩ : W.cell? ⟨w.heap.size, 0, none⟩ = some (.bool false) ∧ W.cell? ⟨w.heap.size, 1, none⟩ = some (.string t) ∧ W.cell? ⟨w.heap.size, 2, none⟩ = some (.int .i64 x) := ⟨A2.out.cell 0, A2.out.cell 1, A2.out.cell 2⟩
          go_wp2_with fail
          refine Calls.mono (itoa_calls x (by omega) (by omega) _ (hT'.out.kept hb2.out)) ?_
          rintro e W' ⟨rfl, hb⟩
          replace A2 := hid (A2.out.keptAll hb)
          replace hbd := hid (hbd.out.kept hb)
          replace hb2 := hid (hb2.out.trans (hb.mono hb2.out.size))
          replace hWs := hid (Nat.le_trans hWs.out hb.size)
          clear hb c0 c1 c2
          obtain ⟨W, rfl⟩ : ∃ W, W = W' := ⟨_, rfl⟩
          obtain ⟨c0, c1, c2⟩ : W.cell? ⟨w.heap.size, 0, none⟩ = some (.bool false) ∧ W.cell? ⟨w.heap.size, 1, none⟩ = some (.string t) ∧ W.cell? ⟨w.heap.size, 2, none⟩ = some (.int .i64 x) := ⟨A2.out.cell 0, A2.out.cell 1, A2.out.cell 2⟩
          go_wp2_with fail
          refine Calls.mono (bstr_calls m (m + 1) (([] ++ t.data.toList) ++ [101]) ⟨(Lib.itoa x).toArray⟩ (Nat.lt_succ_self _) (by rw [Lib.size_mk]; simp; have := size_list t; omega) _ hbd.out hWs.out) ?_
          rintro e W' ⟨rfl, hbn, hb⟩
          replace A2 := hid (A2.out.kept hb hlt.out)
          replace hb2 := hid (below_bd hb2.out hb (Nat.le_of_lt hlt.out))
          replace hWs := hid (Nat.le_trans hWs.out hb.size)
          replace hbd := hid hbn
          clear hb hbn c0 c1 c2
          obtain ⟨W, rfl⟩ : ∃ W, W = W' := ⟨_, rfl⟩
          have hle : ((([] ++ t.data.toList) ++ [101]) ++ (⟨(Lib.itoa x).toArray⟩ : ByteArray).data.toList) = S.data.toList := by
            rw [hSl.out]
            simp [h0, hx0]
          replace hbd := hid (show BdI W m (m + 1) S.data.toList by rw [← hle]; exact hbd.out)
          have hSm : (⟨S.data.toList.toArray⟩ : ByteArray) = S := Lib.mk_data S
          clear hle
          obtain ⟨c0, c1, c2⟩ : W.cell? ⟨w.heap.size, 0, none⟩ = some (.bool false) ∧ W.cell? ⟨w.heap.size, 1, none⟩ = some (.string t) ∧ W.cell? ⟨w.heap.size, 2, none⟩ = some (.int .i64 x) := ⟨A2.out.cell 0, A2.out.cell 1, A2.out.cell 2⟩
          have hbc := hid (bstring_calls m (m + 1) w.heap.size S.data.toList W hbd.out (by have := hlt.out; omega) hWs.out)
          rw [hSm] at hbc
          clear hSm
          go_wp2_with fail
          refine Calls.mono hbc.out ?_
          rintro e W' ⟨rfl, hb, -⟩
          go_wp2
          refine bodyPost_ret (results_tmp2 rfl _ _ _) rfl ?_
          exact ⟨rfl, hb2.out.trans hb⟩
    · by_cases h0 : t.size = 0
      · have e0 : (t.toList == []) = true := by
          have : t.toList = [] := by rw [Lib.toList_data]; exact List.eq_nil_of_length_eq_zero (by rw [size_list]; exact h0)
          rw [this]; rfl
        have ht0 : t.data.toList = [] := List.eq_nil_of_length_eq_zero (by rw [size_list]; exact h0)
        by_cases hx0 : x = 0
        · have e1 : (x != 0) = false := by simp [hx0]
          obtain ⟨c0, c1, c2⟩ : W.cell? ⟨w.heap.size, 0, none⟩ = some (.bool true) ∧ W.cell? ⟨w.heap.size, 1, none⟩ = some (.string t) ∧ W.cell? ⟨w.heap.size, 2, none⟩ = some (.int .i64 x) := ⟨A2.out.cell 0, A2.out.cell 1, A2.out.cell 2⟩
          go_wp2_with fail
          refine Calls.mono (bbyte_calls m (m + 1) [] 45 45 rfl (Nat.lt_succ_self _) (by simp; try omega) _ hbd.out hWs.out) ?_
          rintro e W' ⟨rfl, hbn, hb⟩
          replace A2 := hid (A2.out.kept hb hlt.out)
          replace hb2 := hid (below_bd hb2.out hb (Nat.le_of_lt hlt.out))
          replace hWs := hid (Nat.le_trans hWs.out hb.size)
          replace hbd := hid hbn
          clear hb hbn c0 c1 c2
          obtain ⟨W, rfl⟩ : ∃ W, W = W' := ⟨_, rfl⟩
          obtain ⟨c0, c1, c2⟩ : W.cell? ⟨w.heap.size, 0, none⟩ = some (.bool true) ∧ W.cell? ⟨w.heap.size, 1, none⟩ = some (.string t) ∧ W.cell? ⟨w.heap.size, 2, none⟩ = some (.int .i64 x) := ⟨A2.out.cell 0, A2.out.cell 1, A2.out.cell 2⟩
          go_wp2_with fail
          refine Calls.mono (bbyte_calls m (m + 1) ([] ++ [45]) 48 48 rfl (Nat.lt_succ_self _) (by simp; try omega) _ hbd.out hWs.out) ?_
          rintro e W' ⟨rfl, hbn, hb⟩
          replace A2 := hid (A2.out.kept hb hlt.out)
          replace hb2 := hid (below_bd hb2.out hb (Nat.le_of_lt hlt.out))
          replace hWs := hid (Nat.le_trans hWs.out hb.size)
          replace hbd := hid hbn
          clear hb hbn c0 c1 c2
          obtain ⟨W, rfl⟩ : ∃ W, W = W' := ⟨_, rfl⟩
          obtain ⟨c0, c1, c2⟩ : W.cell? ⟨w.heap.size, 0, none⟩ = some (.bool true) ∧ W.cell? ⟨w.heap.size, 1, none⟩ = some (.string t) ∧ W.cell? ⟨w.heap.size, 2, none⟩ = some (.int .i64 x) := ⟨A2.out.cell 0, A2.out.cell 1, A2.out.cell 2⟩
          go_wp2_with fail
          refine Calls.mono (bstr_calls m (m + 1) (([] ++ [45]) ++ [48]) t (Nat.lt_succ_self _) (by simp; try omega) _ hbd.out hWs.out) ?_
          rintro e W' ⟨rfl, hbn, hb⟩
          replace A2 := hid (A2.out.kept hb hlt.out)
          replace hb2 := hid (below_bd hb2.out hb (Nat.le_of_lt hlt.out))
          replace hWs := hid (Nat.le_trans hWs.out hb.size)
          replace hbd := hid hbn
          clear hb hbn c0 c1 c2
          obtain ⟨W, rfl⟩ : ∃ W, W = W' := ⟨_, rfl⟩
          have hle : ((([] ++ [45]) ++ [48]) ++ t.data.toList) = S.data.toList := by
            rw [hSl.out]
            simp [h0, hx0, ht0]
          replace hbd := hid (show BdI W m (m + 1) S.data.toList by rw [← hle]; exact hbd.out)
          have hSm : (⟨S.data.toList.toArray⟩ : ByteArray) = S := Lib.mk_data S
          clear hle
          obtain ⟨c0, c1, c2⟩ : W.cell? ⟨w.heap.size, 0, none⟩ = some (.bool true) ∧ W.cell? ⟨w.heap.size, 1, none⟩ = some (.string t) ∧ W.cell? ⟨w.heap.size, 2, none⟩ = some (.int .i64 x) := ⟨A2.out.cell 0, A2.out.cell 1, A2.out.cell 2⟩
          have hbc := hid (bstring_calls m (m + 1) w.heap.size S.data.toList W hbd.out (by have := hlt.out; omega) hWs.out)
          rw [hSm] at hbc
          clear hSm
          go_wp2_with fail
          refine Calls.mono hbc.out ?_
          rintro e W' ⟨rfl, hb, -⟩
          go_wp2
          refine bodyPost_ret (results_tmp2 rfl _ _ _) rfl ?_
          exact ⟨rfl, hb2.out.trans hb⟩
        · have e1 : (x != 0) = true := by simpa using hx0
          obtain ⟨c0, c1, c2⟩ : W.cell? ⟨w.heap.size, 0, none⟩ = some (.bool true) ∧ W.cell? ⟨w.heap.size, 1, none⟩ = some (.string t) ∧ W.cell? ⟨w.heap.size, 2, none⟩ = some (.int .i64 x) := ⟨A2.out.cell 0, A2.out.cell 1, A2.out.cell 2⟩
          go_wp2_with fail
          refine Calls.mono (bbyte_calls m (m + 1) [] 45 45 rfl (Nat.lt_succ_self _) (by simp; try omega) _ hbd.out hWs.out) ?_
          rintro e W' ⟨rfl, hbn, hb⟩
          replace A2 := hid (A2.out.kept hb hlt.out)
          replace hb2 := hid (below_bd hb2.out hb (Nat.le_of_lt hlt.out))
          replace hWs := hid (Nat.le_trans hWs.out hb.size)
          replace hbd := hid hbn
          clear hb hbn c0 c1 c2
          obtain ⟨W, rfl⟩ : ∃ W, W = W' := ⟨_, rfl⟩
          obtain ⟨c0, c1, c2⟩ : W.cell? ⟨w.heap.size, 0, none⟩ = some (.bool true) ∧ W.cell? ⟨w.heap.size, 1, none⟩ = some (.string t) ∧ W.cell? ⟨w.heap.size, 2, none⟩ = some (.int .i64 x) := ⟨A2.out.cell 0, A2.out.cell 1, A2.out.cell 2⟩
          go_wp2_with fail
          refine Calls.mono (bbyte_calls m (m + 1) ([] ++ [45]) 48 48 rfl (Nat.lt_succ_self _) (by simp; try omega) _ hbd.out hWs.out) ?_
          rintro e W' ⟨rfl, hbn, hb⟩
          replace A2 := hid (A2.out.kept hb hlt.out)
          replace hb2 := hid (below_bd hb2.out hb (Nat.le_of_lt hlt.out))
          replace hWs := hid (Nat.le_trans hWs.out hb.size)
          replace hbd := hid hbn
          clear hb hbn c0 c1 c2
          obtain ⟨W, rfl⟩ : ∃ W, W = W' := ⟨_, rfl⟩
          obtain ⟨c0, c1, c2⟩ : W.cell? ⟨w.heap.size, 0, none⟩ = some (.bool true) ∧ W.cell? ⟨w.heap.size, 1, none⟩ = some (.string t) ∧ W.cell? ⟨w.heap.size, 2, none⟩ = some (.int .i64 x) := ⟨A2.out.cell 0, A2.out.cell 1, A2.out.cell 2⟩
          go_wp2_with fail
          refine Calls.mono (bstr_calls m (m + 1) (([] ++ [45]) ++ [48]) t (Nat.lt_succ_self _) (by simp; try omega) _ hbd.out hWs.out) ?_
          rintro e W' ⟨rfl, hbn, hb⟩
          replace A2 := hid (A2.out.kept hb hlt.out)
          replace hb2 := hid (below_bd hb2.out hb (Nat.le_of_lt hlt.out))
          replace hWs := hid (Nat.le_trans hWs.out hb.size)
          replace hbd := hid hbn
          clear hb hbn c0 c1 c2
          obtain ⟨W, rfl⟩ : ∃ W, W = W' := ⟨_, rfl⟩
          obtain ⟨c0, c1, c2⟩ : W.cell? ⟨w.heap.size, 0, none⟩ = some (.bool true) ∧ W.cell? ⟨w.heap.size, 1, none⟩ = some (.string t) ∧ W.cell? ⟨w.heap.size, 2, none⟩ = some (.int .i64 x) := ⟨A2.out.cell 0, A2.out.cell 1, A2.out.cell 2⟩
          go_wp2_with fail
          refine Calls.mono (bbyte_calls m (m + 1) ((([] ++ [45]) ++ [48]) ++ t.data.toList) 101 101 rfl (Nat.lt_succ_self _) (by simp; have := size_list t; omega) _ hbd.out hWs.out) ?_
          rintro e W' ⟨rfl, hbn, hb⟩
          replace A2 := hid (A2.out.kept hb hlt.out)
          replace hb2 := hid (below_bd hb2.out hb (Nat.le_of_lt hlt.out))
          replace hWs := hid (Nat.le_trans hWs.out hb.size)
          replace hbd := hid hbn
          clear hb hbn c0 c1 c2
          obtain ⟨W, rfl⟩ : ∃ W, W = W' := ⟨_, rfl⟩
          obtain ⟨c0, c1, c2⟩ : W.cell? ⟨w.heap.size, 0, none⟩ = some (.bool true) ∧ W.cell? ⟨w.heap.size, 1, none⟩ = some (.string t) ∧ W.cell? ⟨w.heap.size, 2, none⟩ = some (.int .i64 x) := ⟨A2.out.cell 0, A2.out.cell 1, A2.out.cell 2⟩
          go_wp2_with fail
          refine Calls.mono (itoa_calls x (by omega) (by omega) _ (hT'.out.kept hb2.out)) ?_
          rintro e W' ⟨rfl, hb⟩
          replace A2 := hid (A2.out.keptAll hb)
          replace hbd := hid (hbd.out.kept hb)
          replace hb2 := hid (hb2.out.trans (hb.mono hb2.out.size))
          replace hWs := hid (Nat.le_trans hWs.out hb.size)
          clear hb c0 c1 c2
          obtain ⟨W, rfl⟩ : ∃ W, W = W' := ⟨_, rfl⟩
          obtain ⟨c0, c1, c2⟩ : W.cell? ⟨w.heap.size, 0, none⟩ = some (.bool true) ∧ W.cell? ⟨w.heap.size, 1, none⟩ = some (.string t) ∧ W.cell? ⟨w.heap.size, 2, none⟩ = some (.int .i64 x) := ⟨A2.out.cell 0, A2.out.cell 1, A2.out.cell 2⟩
          go_wp2_with fail
          refine Calls.mono (bstr_calls m (m + 1) (((([] ++ [45]) ++ [48]) ++ t.data.toList) ++ [101]) ⟨(Lib.itoa x).toArray⟩ (Nat.lt_succ_self _) (by rw [Lib.size_mk]; simp; have := size_list t; omega) _ hbd.out hWs.out) ?_
          rintro e W' ⟨rfl, hbn, hb⟩
          replace A2 := hid (A2.out.kept hb hlt.out)
          replace hb2 := hid (below_bd hb2.out hb (Nat.le_of_lt hlt.out))
          replace hWs := hid (Nat.le_trans hWs.out hb.size)
          replace hbd := hid hbn
          clear hb hbn c0 c1 c2
          obtain ⟨W, rfl⟩ : ∃ W, W = W' := ⟨_, rfl⟩
          have hle : ((((([] ++ [45]) ++ [48]) ++ t.data.toList) ++ [101]) ++ (⟨(Lib.itoa x).toArray⟩ : ByteArray).data.toList) = S.data.toList := by
            rw [hSl.out]
            simp [h0, hx0, ht0]
          replace hbd := hid (show BdI W m (m + 1) S.data.toList by rw [← hle]; exact hbd.out)
          have hSm : (⟨S.data.toList.toArray⟩ : ByteArray) = S := Lib.mk_data S
          clear hle
          obtain ⟨c0, c1, c2⟩ : W.cell? ⟨w.heap.size, 0, none⟩ = some (.bool true) ∧ W.cell? ⟨w.heap.size, 1, none⟩ = some (.string t) ∧ W.cell? ⟨w.heap.size, 2, none⟩ = some (.int .i64 x) := ⟨A2.out.cell 0, A2.out.cell 1, A2.out.cell 2⟩
          have hbc := hid (bstring_calls m (m + 1) w.heap.size S.data.toList W hbd.out (by have := hlt.out; omega) hWs.out)
          rw [hSm] at hbc
          clear hSm
          go_wp2_with fail
          refine Calls.mono hbc.out ?_
          rintro e W' ⟨rfl, hb, -⟩
          go_wp2
          refine bodyPost_ret (results_tmp2 rfl _ _ _) rfl ?_
          exact ⟨rfl, hb2.out.trans hb⟩
      · have e0 : (t.toList == []) = false := by
          apply beq_eq_false_iff_ne.2
          intro he
          apply h0
          rw [← size_list, ← Lib.toList_data, he]; rfl
        by_cases hx0 : x = 0
        · have e1 : (x != 0) = false := by simp [hx0]
          obtain ⟨c0, c1, c2⟩ : W.cell? ⟨w.heap.size, 0, none⟩ = some (.bool true) ∧ W.cell? ⟨w.heap.size, 1, none⟩ = some (.string t) ∧ W.cell? ⟨w.heap.size, 2, none⟩ = some (.int .i64 x) := ⟨A2.out.cell 0, A2.out.cell 1, A2.out.cell 2⟩
          go_wp2_with fail
          refine Calls.mono (bbyte_calls m (m + 1) [] 45 45 rfl (Nat.lt_succ_self _) (by simp; try omega) _ hbd.out hWs.out) ?_
          rintro e W' ⟨rfl, hbn, hb⟩
          replace A2 := hid (A2.out.kept hb hlt.out)
          replace hb2 := hid (below_bd hb2.out hb (Nat.le_of_lt hlt.out))
          replace hWs := hid (Nat.le_trans hWs.out hb.size)
          replace hbd := hid hbn
          clear hb hbn c0 c1 c2
          obtain ⟨W, rfl⟩ : ∃ W, W = W' := ⟨_, rfl⟩
          obtain ⟨c0, c1, c2⟩ : W.cell? ⟨w.heap.size, 0, none⟩ = some (.bool true) ∧ W.cell? ⟨w.heap.size, 1, none⟩ = some (.string t) ∧ W.cell? ⟨w.heap.size, 2, none⟩ = some (.int .i64 x) := ⟨A2.out.cell 0, A2.out.cell 1, A2.out.cell 2⟩
          go_wp2_with fail
          refine Calls.mono (bstr_calls m (m + 1) ([] ++ [45]) t (Nat.lt_succ_self _) (by simp; try omega) _ hbd.out hWs.out) ?_
          rintro e W' ⟨rfl, hbn, hb⟩
          replace A2 := hid (A2.out.kept hb hlt.out)
          replace hb2 := hid (below_bd hb2.out hb (Nat.le_of_lt hlt.out))
          replace hWs := hid (Nat.le_trans hWs.out hb.size)
          replace hbd := hid hbn
          clear hb hbn c0 c1 c2
          obtain ⟨W, rfl⟩ : ∃ W, W = W' := ⟨_, rfl⟩
          have hle : (([] ++ [45]) ++ t.data.toList) = S.data.toList := by
            rw [hSl.out]
            simp [h0, hx0]
          replace hbd := hid (show BdI W m (m + 1) S.data.toList by rw [← hle]; exact hbd.out)
          have hSm : (⟨S.data.toList.toArray⟩ : ByteArray) = S := Lib.mk_data S
          clear hle
          obtain ⟨c0, c1, c2⟩ : W.cell? ⟨w.heap.size, 0, none⟩ = some (.bool true) ∧ W.cell? ⟨w.heap.size, 1, none⟩ = some (.string t) ∧ W.cell? ⟨w.heap.size, 2, none⟩ = some (.int .i64 x) := ⟨A2.out.cell 0, A2.out.cell 1, A2.out.cell 2⟩
          have hbc := hid (bstring_calls m (m + 1) w.heap.size S.data.toList W hbd.out (by have := hlt.out; omega) hWs.out)
          rw [hSm] at hbc
          clear hSm
          go_wp2_with fail
          refine Calls.mono hbc.out ?_
          rintro e W' ⟨rfl, hb, -⟩
          go_wp2
          refine bodyPost_ret (results_tmp2 rfl _ _ _) rfl ?_
          exact ⟨rfl, hb2.out.trans hb⟩
        · have e1 : (x != 0) = true := by simpa using hx0
          obtain ⟨c0, c1, c2⟩ : W.cell? ⟨w.heap.size, 0, none⟩ = some (.bool true) ∧ W.cell? ⟨w.heap.size, 1, none⟩ = some (.string t) ∧ W.cell? ⟨w.heap.size, 2, none⟩ = some (.int .i64 x) := ⟨A2.out.cell 0, A2.out.cell 1, A2.out.cell 2⟩
          go_wp2_with fail
          refine Calls.mono (bbyte_calls m (m + 1) [] 45 45 rfl (Nat.lt_succ_self _) (by simp; try omega) _ hbd.out hWs.out) ?_
          rintro e W' ⟨rfl, hbn, hb⟩
          replace A2 := hid (A2.out.kept hb hlt.out)
          replace hb2 := hid (below_bd hb2.out hb (Nat.le_of_lt hlt.out))
          replace hWs := hid (Nat.le_trans hWs.out hb.size)
          replace hbd := hid hbn
          clear hb hbn c0 c1 c2
          obtain ⟨W, rfl⟩ : ∃ W, W = W' := ⟨_, rfl⟩
          obtain ⟨c0, c1, c2⟩ : W.cell? ⟨w.heap.size, 0, none⟩ = some (.bool true) ∧ W.cell? ⟨w.heap.size, 1, none⟩ = some (.string t) ∧ W.cell? ⟨w.heap.size, 2, none⟩ = some (.int .i64 x) := ⟨A2.out.cell 0, A2.out.cell 1, A2.out.cell 2⟩
          go_wp2_with fail
          refine Calls.mono (bstr_calls m (m + 1) ([] ++ [45]) t (Nat.lt_succ_self _) (by simp; try omega) _ hbd.out hWs.out) ?_
          rintro e W' ⟨rfl, hbn, hb⟩
          replace A2 := hid (A2.out.kept hb hlt.out)
          replace hb2 := hid (below_bd hb2.out hb (Nat.le_of_lt hlt.out))
          replace hWs := hid (Nat.le_trans hWs.out hb.size)
          replace hbd := hid hbn
          clear hb hbn c0 c1 c2
          obtain ⟨W, rfl⟩ : ∃ W, W = W' := ⟨_, rfl⟩
          obtain ⟨c0, c1, c2⟩ : W.cell? ⟨w.heap.size, 0, none⟩ = some (.bool true) ∧ W.cell? ⟨w.heap.size, 1, none⟩ = some (.string t) ∧ W.cell? ⟨w.heap.size, 2, none⟩ = some (.int .i64 x) := ⟨A2.out.cell 0, A2.out.cell 1, A2.out.cell 2⟩
          go_wp2_with fail
          refine Calls.mono (bbyte_calls m (m + 1) (([] ++ [45]) ++ t.data.toList) 101 101 rfl (Nat.lt_succ_self _) (by simp; have := size_list t; omega) _ hbd.out hWs.out) ?_
          rintro e W' ⟨rfl, hbn, hb⟩
          replace A2 := hid (A2.out.kept hb hlt.out)
          replace hb2 := hid (below_bd hb2.out hb (Nat.le_of_lt hlt.out))
          replace hWs := hid (Nat.le_trans hWs.out hb.size)
          replace hbd := hid hbn
          clear hb hbn c0 c1 c2
          obtain ⟨W, rfl⟩ : ∃ W, W = W' := ⟨_, rfl⟩
          obtain ⟨c0, c1, c2⟩ : W.cell? ⟨w.heap.size, 0, none⟩ = some (.bool true) ∧ W.cell? ⟨w.heap.size, 1, none⟩ = some (.string t) ∧ W.cell? ⟨w.heap.size, 2, none⟩ = some (.int .i64 x) := ⟨A2.out.cell 0, A2.out.cell 1, A2.out.cell 2⟩
          go_wp2_with fail
          refine Calls.mono (itoa_calls x (by omega) (by omega) _ (hT'.out.kept hb2.out)) ?_
          rintro e W' ⟨rfl, hb⟩
          replace A2 := hid (A2.out.keptAll hb)
          replace hbd := hid (hbd.out.kept hb)
          replace hb2 := hid (hb2.out.trans (hb.mono hb2.out.size))
          replace hWs := hid (Nat.le_trans hWs.out hb.size)
          clear hb c0 c1 c2
          obtain ⟨W, rfl⟩ : ∃ W, W = W' := ⟨_, rfl⟩
          obtain ⟨c0, c1, c2⟩ : W.cell? ⟨w.heap.size, 0, none⟩ = some (.bool true) ∧ W.cell? ⟨w.heap.size, 1, none⟩ = some (.string t) ∧ W.cell? ⟨w.heap.size, 2, none⟩ = some (.int .i64 x) := ⟨A2.out.cell 0, A2.out.cell 1, A2.out.cell 2⟩
          go_wp2_with fail
          refine Calls.mono (bstr_calls m (m + 1) ((([] ++ [45]) ++ t.data.toList) ++ [101]) ⟨(Lib.itoa x).toArray⟩ (Nat.lt_succ_self _) (by rw [Lib.size_mk]; simp; have := size_list t; omega) _ hbd.out hWs.out) ?_
          rintro e W' ⟨rfl, hbn, hb⟩
          replace A2 := hid (A2.out.kept hb hlt.out)
          replace hb2 := hid (below_bd hb2.out hb (Nat.le_of_lt hlt.out))
          replace hWs := hid (Nat.le_trans hWs.out hb.size)
          replace hbd := hid hbn
          clear hb hbn c0 c1 c2
          obtain ⟨W, rfl⟩ : ∃ W, W = W' := ⟨_, rfl⟩
          have hle : (((([] ++ [45]) ++ t.data.toList) ++ [101]) ++ (⟨(Lib.itoa x).toArray⟩ : ByteArray).data.toList) = S.data.toList := by
            rw [hSl.out]
            simp [h0, hx0]
          replace hbd := hid (show BdI W m (m + 1) S.data.toList by rw [← hle]; exact hbd.out)
          have hSm : (⟨S.data.toList.toArray⟩ : ByteArray) = S := Lib.mk_data S
          clear hle
          obtain ⟨c0, c1, c2⟩ : W.cell? ⟨w.heap.size, 0, none⟩ = some (.bool true) ∧ W.cell? ⟨w.heap.size, 1, none⟩ = some (.string t) ∧ W.cell? ⟨w.heap.size, 2, none⟩ = some (.int .i64 x) := ⟨A2.out.cell 0, A2.out.cell 1, A2.out.cell 2⟩
          have hbc := hid (bstring_calls m (m + 1) w.heap.size S.data.toList W hbd.out (by have := hlt.out; omega) hWs.out)
          rw [hSm] at hbc
          clear hSm
          go_wp2_with fail
          refine Calls.mono hbc.out ?_
          rintro e W' ⟨rfl, hb, -⟩
          go_wp2
          refine bodyPost_ret (results_tmp2 rfl _ _ _) rfl ?_
          exact ⟨rfl, hb2.out.trans hb⟩
end Go.Proofs.YteaambonlohcgaaDoor
