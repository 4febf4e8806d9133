/-
  What quarryref09.texts, Formed and Join answer.
-/
import Derived.Test.YtdmmofdlokgfmaaDoorRefP
import Derived.Laws.Concat
namespace Go.Proofs.YtdmmofdlokgfmaaDoor
open Go.RowKit Go.Shelf

/-- The three texts that come of the text i. -/
def txtNext (L : List ByteArray) (i : Nat) : List ByteArray := [L.getD i ⟨#[]⟩ ++ ⟨#[92]⟩, L.getD i ⟨#[]⟩ ++ ⟨#[34]⟩, L.getD i ⟨#[]⟩ ++ ⟨#[120]⟩]
/-- The list behind i of them. -/
def txtL : Nat → List ByteArray
  | 0 => [⟨#[]⟩]
  | i + 1 => txtL i ++ txtNext (txtL i) i
theorem txtL_len (i : Nat) : (txtL i).length = 3 * i + 1 := by
  induction i with
  | zero => rfl
  | succ i ih => rw [txtL, List.length_append, ih]; simp [txtNext]; omega
def strsL (L : List ByteArray) : List Value := L.map Value.string
theorem strsL_len (L : List ByteArray) : (strsL L).length = L.length := by simp [strsL]
theorem infoS9 : (Tryd.prog.info? 9).map (fun i => (i.zero, i.size, i.bytes)) = some (some (.string ⟨#[]⟩), 1, 16) := by kernel_rfl
theorem rowS_cell {w : World} {B n : Nat} {v : Value} {L : List ByteArray} (h : w.ownsRow B 9 1 v n (strsL L)) (hn : L.length = n) {i : Nat} (hi : i < n) : ∃ g cap, v = .slice (some ⟨g, 0, none⟩) n cap ∧ w.cell? ⟨g, i, none⟩ = some (.string (L.getD i ⟨#[]⟩)) := by
  rcases h.2 with ⟨_, h0⟩ | ⟨g, cap, cur, rfl, hb, hgb, h3⟩
  · omega
  · refine ⟨g, cap, rfl, ?_⟩
    have := h.cells (g := g) rfl i (.string (L.getD i ⟨#[]⟩)) (by simp [strsL, List.getD_eq_getElem?_getD, List.getElem?_eq_getElem (show i < L.length by omega)])
    rwa [show (⟨g, 0, none⟩ : Addr).add i = ⟨g, i, none⟩ by by_cases h : i = 0 <;> simp [Addr.add, h]] at this
theorem rowS1_new (w : World) (B : Nat) (hB : B ≤ w.heap.size) : (w.alloc (.cells #[.string ⟨#[]⟩] 9)).ownsRow B 9 1 (.slice (some ⟨w.heap.size, 0, none⟩) 1 1) 1 (strsL (txtL 0)) :=
  ⟨rfl, .inr ⟨w.heap.size, 1, #[.string ⟨#[]⟩], rfl, hB, At.new w _ _, Nat.le_refl _, by unfold maxLen; decide, rfl, by simp [strsL, txtL]⟩⟩

set_option maxRecDepth 10000 in
set_option maxHeartbeats 4000000 in
theorem texts9_calls (w : World) :
    Calls Tryd.prog 27 #[] w fun e w' => ∃ v, e = .returned v ∧ w'.ownsRow w.heap.size 9 1 v 40 (strsL (txtL 13)) ∧ Below w.heap.size w w' := by
  obtain ⟨i0, hi, hz0, hz1, hz2⟩ := info_parts infoS9
  go_enter Tryd.func27, Tryd.ntmps27
  go_wp2
  go_loopw [1, 2, 3, 4, 5] (fun v ff nn _ _ wr => ∃ n i : Nat, nn = .int .i64 (n : Int) ∧ ff = .int .i64 (i : Int) ∧ Hid (wr.ownsRow w.heap.size 9 1 v (3 * i + 1) (strsL (txtL i)) ∧ Below w.heap.size w wr) ∧ Hid (n = 0 ∧ i = 0 ∨ n = 1 ∧ i = 1 ∨ n = 2 ∧ i = 4 ∨ n = 3 ∧ i = 13)) (fun _ _ nn _ _ _ => 3 - (intOf nn).toNat)
  case atStart => exact ⟨0, 0, rfl, rfl, ⟨rowS1_new w _ (Nat.le_refl _), by repeat (first | with_reducible exact Below.refl _ _ | with_reducible refine Below.setCell ?_ (by first | (simp; done) | (simp; omega)) _ | with_reducible refine below_drewN ?_ _ | with_reducible refine Below.alloc ?_ (by first | (simp; done) | (simp; omega)) _ | with_reducible refine Below.drew ?_)⟩, .inl ⟨rfl, rfl⟩⟩
  case round =>
    obtain ⟨n, f, rfl, rfl, hW, hnf⟩ := hrel
    have hc : (n < 3 ∧ f ≤ 4 ∧ Hid (n + 1 = 0 ∧ 3 * f + 1 = 0 ∨ n + 1 = 1 ∧ 3 * f + 1 = 1 ∨ n + 1 = 2 ∧ 3 * f + 1 = 4 ∨ n + 1 = 3 ∧ 3 * f + 1 = 13)) ∨ (n = 3 ∧ f = 13) := by
      have := hnf.out
      rcases this with ⟨rfl, rfl⟩ | ⟨rfl, rfl⟩ | ⟨rfl, rfl⟩ | ⟨rfl, rfl⟩
      · exact .inl ⟨by omega, by omega, .inr (.inl ⟨rfl, rfl⟩)⟩
      · exact .inl ⟨by omega, by omega, .inr (.inr (.inl ⟨rfl, rfl⟩))⟩
      · exact .inl ⟨by omega, by omega, .inr (.inr (.inr ⟨rfl, rfl⟩))⟩
      · exact .inr ⟨rfl, rfl⟩
    clear hnf
    rcases hc with ⟨hn3, hf4, hnx⟩ | ⟨rfl, rfl⟩
    · have hni : (n : Int) < 3 := by omega
      obtain ⟨g, cap, rfl, -⟩ := rowS_cell hW.out.1 (txtL_len f) (i := 0) (by omega)
      obtain ⟨M, hM⟩ : ∃ M, Hid (3 * f + 1 = M) := ⟨_, rfl⟩
      have hW0 := hid hW.out.1
      have hWb := hid hW.out.2
      rw [hM.out] at hW0 ⊢
      clear hW
      go_wp2
      go_loopw [1, 5] (fun v ii wr => ∃ i : Nat, i ≤ M ∧ ii = .int .i64 (i : Int) ∧ Hid (wr.ownsRow w.heap.size 9 1 v (3 * i + 1) (strsL (txtL i)) ∧ Below w.heap.size w wr)) (fun _ ii _ => M - (intOf ii).toNat)
      case atStart => exact ⟨f, by have := hM.out; omega, rfl, ⟨by rw [hM.out]; exact hW0.out, hWb.out⟩⟩
      case round =>
        obtain ⟨i, hiM, rfl, hV⟩ := hrel
        by_cases hlt : i < M
        · have hli : (i : Int) < (M : Int) := by omega
          have hi13 : i < 13 := by have := hM.out; omega
          obtain ⟨E, hE⟩ : ∃ E, Hid ((txtL i).getD i ⟨#[]⟩ = E) := ⟨_, rfl⟩
          have hEz : Hid (E.size ≤ 3) := by show _ ≤ _; rw [← hE.out]; exact (show ∀ i : Fin 13, ((txtL i.val).getD i.val ⟨#[]⟩).size ≤ 3 by decide +kernel) ⟨i, hi13⟩
          obtain ⟨X1, hX1⟩ : ∃ X, Hid (E ++ ⟨#[92]⟩ = X) := ⟨_, rfl⟩
          obtain ⟨X2, hX2⟩ : ∃ X, Hid (E ++ ⟨#[34]⟩ = X) := ⟨_, rfl⟩
          obtain ⟨X3, hX3⟩ : ∃ X, Hid (E ++ ⟨#[120]⟩ = X) := ⟨_, rfl⟩
          have ha1 : ∀ u : World, (Op.stringOp .add E ⟨#[92]⟩).run Tryd.prog u = .ok (.string X1) u := fun u => by rw [run_string_add_sum u E ⟨#[92]⟩ (by have := hEz.out; show E.size + 1 ≤ _; omega), hX1.out]
          have ha2 : ∀ u : World, (Op.stringOp .add E ⟨#[34]⟩).run Tryd.prog u = .ok (.string X2) u := fun u => by rw [run_string_add_sum u E ⟨#[34]⟩ (by have := hEz.out; show E.size + 1 ≤ _; omega), hX2.out]
          have ha3 : ∀ u : World, (Op.stringOp .add E ⟨#[120]⟩).run Tryd.prog u = .ok (.string X3) u := fun u => by rw [run_string_add_sum u E ⟨#[120]⟩ (by have := hEz.out; show E.size + 1 ≤ _; omega), hX3.out]
          have hfin : Hid (strsL (txtL i) ++ [.string X1] ++ [.string X2] ++ [.string X3] = strsL (txtL (i + 1))) := by
            show _ = _
            rw [txtL, txtNext, hE.out, hX1.out, hX2.out, hX3.out]
            simp [strsL]
          obtain ⟨m, hm⟩ : ∃ m, Hid (3 * i + 1 = m) := ⟨_, rfl⟩
          have him : i < m := by have := hm.out; omega
          have hml : m ≤ 40 := by have := hm.out; omega
          have hV1 := hid hV.out.1
          have hb0 := hid hV.out.2
          rw [hm.out] at hV1
          have hl0 : (txtL i).length = m := by rw [txtL_len]; exact hm.out
          clear hV hEz hX1 hX2 hX3
          obtain ⟨g1, c1, hv1, q1⟩ := rowS_cell (L := txtL i) (hV1.out) (by exact hl0) (i := i) (by omega)
          rw [show (txtL i).getD i ⟨#[]⟩ = E by exact hE.out] at q1
          subst hv1
          have hi1 : (i : Int) < ((m : Nat) : Int) := by omega
          go_wp2_with (first
            | (at_builtin; refine wpList_append_own _ rfl _ _ 50 rfl w.heap.size 9 i0 (.string ⟨#[]⟩) 1 16 Tryd.underlying50 hi hz0 hz1 hz2 rfl (by decide) _ _ _ rfl (World.ownsRow.alloc hV1.out _) ⟨World.heap wr |>.size, 0, none⟩ 1 1 [.string X1] rfl rfl (fun j u hj => by match j, hj with | 0, hj => simp at hj; subst hj; simp [Addr.add]) (fun u hu => by simp at hu; subst hu; rfl) (by unfold maxLen; omega) (by omega) (by have := hb0.out.size; simp; omega) ?_)
            | go_in)
          intro v1 w1 o1 gr1 _
          have b1 := hid ((hb0.out.alloc hb0.out.size (.cells #[.string X1] 9)).grown gr1 (by have := hb0.out.size; simp; omega) (fun b e => by have := ((hV1).out.lt b e).1; omega))
          have O1 := hid (show World.ownsRow w1 w.heap.size 9 1 v1 (m + 1) (strsL (txtL i ++ [X1])) from by
            have e : strsL (txtL i ++ [X1]) = strsL (txtL i) ++ [.string X1] := by simp [strsL]
            rw [e]
            first | exact o1 | (simp only [List.append_assoc] at o1 ⊢; exact o1) | simpa using o1)
          clear o1 gr1 q1 hV1 hb0
          obtain ⟨g2, c2, hv2, q2⟩ := rowS_cell (L := txtL i ++ [X1]) (O1.out) (by simp [hl0]) (i := i) (by omega)
          rw [show (txtL i ++ [X1]).getD i ⟨#[]⟩ = E by rw [← hE.out]; simp [List.getD_eq_getElem?_getD, List.getElem?_append, hl0, him]] at q2
          subst hv2
          have hi2 : (i : Int) < ((m + 1 : Nat) : Int) := by omega
          go_wp2_with (first
            | (at_builtin; refine wpList_append_own _ rfl _ _ 50 rfl w.heap.size 9 i0 (.string ⟨#[]⟩) 1 16 Tryd.underlying50 hi hz0 hz1 hz2 rfl (by decide) _ _ _ rfl (World.ownsRow.alloc O1.out _) ⟨World.heap w1 |>.size, 0, none⟩ 1 1 [.string X2] rfl rfl (fun j u hj => by match j, hj with | 0, hj => simp at hj; subst hj; simp [Addr.add]) (fun u hu => by simp at hu; subst hu; rfl) (by unfold maxLen; omega) (by omega) (by have := b1.out.size; simp; omega) ?_)
            | go_in)
          intro v2 w2 o2 gr2 _
          have b2 := hid ((b1.out.alloc b1.out.size (.cells #[.string X2] 9)).grown gr2 (by have := b1.out.size; simp; omega) (fun b e => by have := ((O1).out.lt b e).1; omega))
          have O2 := hid (show World.ownsRow w2 w.heap.size 9 1 v2 (m + 1 + 1) (strsL (txtL i ++ [X1] ++ [X2])) from by
            have e : strsL (txtL i ++ [X1] ++ [X2]) = strsL (txtL i ++ [X1]) ++ [.string X2] := by simp [strsL]
            rw [e]
            first | exact o2 | (simp only [List.append_assoc] at o2 ⊢; exact o2) | simpa using o2)
          clear o2 gr2 q2 O1 b1
          obtain ⟨g3, c3, hv3, q3⟩ := rowS_cell (L := txtL i ++ [X1] ++ [X2]) (O2.out) (by simp [hl0]) (i := i) (by omega)
          rw [show (txtL i ++ [X1] ++ [X2]).getD i ⟨#[]⟩ = E by rw [← hE.out]; simp [List.getD_eq_getElem?_getD, List.getElem?_append, hl0, him]] at q3
          subst hv3
          have hi3 : (i : Int) < ((m + 1 + 1 : Nat) : Int) := by omega
          go_wp2_with (first
            | (at_builtin; refine wpList_append_own _ rfl _ _ 50 rfl w.heap.size 9 i0 (.string ⟨#[]⟩) 1 16 Tryd.underlying50 hi hz0 hz1 hz2 rfl (by decide) _ _ _ rfl (World.ownsRow.alloc O2.out _) ⟨World.heap w2 |>.size, 0, none⟩ 1 1 [.string X3] rfl rfl (fun j u hj => by match j, hj with | 0, hj => simp at hj; subst hj; simp [Addr.add]) (fun u hu => by simp at hu; subst hu; rfl) (by unfold maxLen; omega) (by omega) (by have := b2.out.size; simp; omega) ?_)
            | go_in)
          intro v3 w3 o3 gr3 _
          have b3 := hid ((b2.out.alloc b2.out.size (.cells #[.string X3] 9)).grown gr3 (by have := b2.out.size; simp; omega) (fun b e => by have := ((O2).out.lt b e).1; omega))
          have O3 := hid (show World.ownsRow w3 w.heap.size 9 1 v3 (m + 1 + 1 + 1) (strsL (txtL i ++ [X1] ++ [X2] ++ [X3])) from by
            have e : strsL (txtL i ++ [X1] ++ [X2] ++ [X3]) = strsL (txtL i ++ [X1] ++ [X2]) ++ [.string X3] := by simp [strsL]
            rw [e]
            first | exact o3 | (simp only [List.append_assoc] at o3 ⊢; exact o3) | simpa using o3)
          clear o3 gr3 q3 O2 b2
          go_wp2
          go_roundw
          case rel =>
            refine ⟨i + 1, hlt, by simp, ⟨?_, b3.out⟩⟩
            have e : strsL (txtL i ++ [X1] ++ [X2] ++ [X3]) = strsL (txtL (i + 1)) := by rw [← hfin.out]; simp [strsL]
            rw [← e, show 3 * (i + 1) + 1 = m + 1 + 1 + 1 by have := hm.out; omega]
            exact O3.out
          case measure => simp [intOf]; omega
        · obtain rfl : i = M := by omega
          go_wp2
          go_roundw
          case rel => exact ⟨n + 1, i, by simp, rfl, hV, by rw [← hM.out]; exact hnx⟩
          case measure => simp [intOf]; omega
    · have hW1 := hW
      clear hW
      go_wp2
      go_ret
      exact ⟨_, rfl, hW1.out.1, hW1.out.2⟩

/-- Of the forty texts one does what the letters say, or none can. -/
theorem forty_none (a b : Bool) (x y : Int) (h : ∀ i, i < 40 → ¬ IsPt ((txtL 13).getD i ⟨#[]⟩) a b x y) : formB a b x y = false := by
  cases hf : formB a b x y with
  | false => rfl
  | true =>
    exfalso
    have key : ∀ (a b X Y : Bool), formB a b (bi X) (bi Y) = true → ∃ i : Fin 40, oddC ((txtL 13).getD i.val ⟨#[]⟩) false = a ∧ oddC ((txtL 13).getD i.val ⟨#[]⟩) true = b ∧ behindS ((txtL 13).getD i.val ⟨#[]⟩) false = X ∧ behindS ((txtL 13).getD i.val ⟨#[]⟩) true = Y := by decide +kernel
    obtain ⟨hx, hy⟩ := formB_state hf
    have ex : ∃ X, x = bi X := by rcases hx with rfl | rfl; exact ⟨false, rfl⟩; exact ⟨true, rfl⟩
    have ey : ∃ Y, y = bi Y := by rcases hy with rfl | rfl; exact ⟨false, rfl⟩; exact ⟨true, rfl⟩
    obtain ⟨X, rfl⟩ := ex
    obtain ⟨Y, rfl⟩ := ey
    obtain ⟨i, h1, h2, h3, h4⟩ := key a b X Y hf
    exact h i.val i.isLt ⟨h1, h2, by rw [h3], by rw [h4]⟩
theorem txt_small (i : Nat) (hi : i < 40) : ((txtL 13).getD i ⟨#[]⟩).size ≤ 3 := (show ∀ i : Fin 40, ((txtL 13).getD i.val ⟨#[]⟩).size ≤ 3 by decide +kernel) ⟨i, hi⟩

set_option maxRecDepth 10000 in
set_option maxHeartbeats 4000000 in
theorem refForm_calls (a b : Bool) (x y : Int) (F : Bool) (hF : Hid (formB a b x y = F)) (w : World) :
    Calls Tryd.prog 14 #[.agg #[.bool a, .bool b, .int .i64 x, .int .i64 y]] w fun e w' => e = .returned (.bool F) ∧ Below w.heap.size w w' := by
  have heq := eqPt
  have htx := hid (texts9_calls (w.alloc (.cells #[.bool a, .bool b, .int .i64 x, .int .i64 y] 33)))
  have a0 := hid (At.new w #[.bool a, .bool b, .int .i64 x, .int .i64 y] 33)
  go_enter Tryd.func14, Tryd.ntmps14
  go_wp2_with fail
  refine htx.out.mono ?_
  rintro e w1 ⟨v, rfl, hown, hb⟩
  obtain ⟨g, cap, rfl, -⟩ := rowS_cell hown (txtL_len 13) (i := 0) (by omega)
  have hW1 : Hid (At w1 w.heap.size #[.bool a, .bool b, .int .i64 x, .int .i64 y] 33 ∧ (∀ i, i < 40 → w1.cell? ⟨g, i, none⟩ = some (.string ((txtL 13).getD i ⟨#[]⟩))) ∧ g < w1.heap.size ∧ Below w.heap.size w w1) := by
    refine ⟨a0.out.keptAll hb, fun i hi => ?_, ?_, ?_⟩
    · obtain ⟨g', c', e, h⟩ := rowS_cell hown (txtL_len 13) (i := i) hi
      simp at e
      rw [e.1]
      exact h
    · obtain ⟨g', c', e, h⟩ := rowS_cell hown (txtL_len 13) (i := 0) (by omega)
      simp at e
      rw [e.1]
      exact cell_block h
    · exact Below.trans (show Below w.heap.size w (w.alloc (.cells #[.bool a, .bool b, .int .i64 x, .int .i64 y] 33)) by repeat (first | with_reducible exact Below.refl _ _ | with_reducible refine Below.setCell ?_ (by first | (simp; done) | (simp; omega)) _ | with_reducible refine below_drewN ?_ _ | with_reducible refine Below.alloc ?_ (by first | (simp; done) | (simp; omega)) _ | with_reducible refine Below.drew ?_)) (hb.mono (by simp))
  clear htx a0 hown hb
  go_wp2
  go_loopw [4] (fun ii wr => ∃ i : Nat, i ≤ 40 ∧ ii = .int .i64 (i : Int) ∧ Hid (∀ j, j < i → ¬ IsPt ((txtL 13).getD j ⟨#[]⟩) a b x y) ∧ Hid (At wr w.heap.size #[.bool a, .bool b, .int .i64 x, .int .i64 y] 33 ∧ (∀ i, i < 40 → wr.cell? ⟨g, i, none⟩ = some (.string ((txtL 13).getD i ⟨#[]⟩))) ∧ g < wr.heap.size ∧ Below w.heap.size w wr)) (fun ii _ => 40 - (intOf ii).toNat)
  case atStart => exact ⟨0, by omega, rfl, fun j hj => by omega, hW1⟩
  case round =>
    obtain ⟨i, hi, rfl, hno, hV⟩ := hrel
    clear hW1
    by_cases hlt : i < 40
    · have hli : (i : Int) < 40 := by omega
      obtain ⟨t, ht⟩ : ∃ t, Hid ((txtL 13).getD i ⟨#[]⟩ = t) := ⟨_, rfl⟩
      have htz : t.size ≤ 3 := by rw [← ht.out]; exact txt_small i hlt
      obtain ⟨a', b', x', y', hp⟩ := isPt_ex t
      have hpt := hid (fun (u : World) => refOf_calls t (by omega) a' b' x' y' hp u)
      obtain ⟨Q, hQ⟩ : ∃ Q, ((a' == a && b' == b) && (x' == x && y' == y)) = Q := ⟨_, rfl⟩
      have hpq : Hid (Q = true ↔ IsPt t a b x y) := by
        show _ ↔ _
        rw [← hQ]
        simp only [Bool.and_eq_true, beq_iff_eq]
        constructor
        · rintro ⟨⟨rfl, rfl⟩, rfl, rfl⟩; exact hp
        · rintro ⟨rfl, rfl, rfl, rfl⟩
          exact ⟨⟨hp.1.symm, hp.2.1.symm⟩, hp.2.2.1.symm, hp.2.2.2.symm⟩
      have hp' := hid hp
      have hQ' := hQ
      clear hp hQ
      have hK : Hid (∀ wq wz : World, (At wq w.heap.size #[.bool a, .bool b, .int .i64 x, .int .i64 y] 33 ∧ wq.cell? ⟨g, i, none⟩ = some (.string t) ∧ Below wr.heap.size wr wq) → Below wq.heap.size wq wz → (At wz w.heap.size #[.bool a, .bool b, .int .i64 x, .int .i64 y] 33 ∧ wz.cell? ⟨g, i, none⟩ = some (.string t) ∧ Below wr.heap.size wr wz)) := by
        rintro wq wz ⟨h1, h2, h3⟩ hz
        exact ⟨h1.keptAll hz, (hz.cell (p := ⟨g, i, none⟩) (cell_block h2)).trans h2, h3.trans (hz.mono h3.size)⟩
      have hC0 := hid (show At wr w.heap.size #[.bool a, .bool b, .int .i64 x, .int .i64 y] 33 ∧ wr.cell? ⟨g, i, none⟩ = some (.string t) ∧ Below wr.heap.size wr wr from ⟨hV.out.1, by rw [hV.out.2.1 i hlt, ht.out], Below.refl _ _⟩)
      have hse : ∀ u : World, (Op.equalIn 10000 33 (.agg #[.bool a', .bool b', .int .i64 x', .int .i64 y']) (.agg #[.bool a, .bool b, .int .i64 x, .int .i64 y])).run Tryd.prog u = .ok Q u := fun u => by rw [eqPt, hQ']
      clear heq hQ' htz
      go_wp2_with fail
      refine wp_region_quiet (C := (fun w' => At w' w.heap.size #[.bool a, .bool b, .int .i64 x, .int .i64 y] 33 ∧ w'.cell? ⟨g, i, none⟩ = some (.string t) ∧ Below wr.heap.size wr w')) (by kernel_rfl) (by kernel_rfl) (⟨hC0.out.1, hC0.out.2.1, hC0.out.2.2.drew⟩) ?_
      dsimp only
      repeat (first
        | (refine wpQuiet_skip (by rfl) ?_; simp only [Act.put, List.setIfInBounds_toArray, List.set_cons_zero, List.set_cons_succ])
        | (refine wpQuiet_load 33 _ (w.heap.size) (0) [.bool a, .bool b, .int .i64 x, .int .i64 y] _ (fun wq hq => hq.1.range rfl) Tryd.underlying33 sizePt rfl rfl rfl (by rfl) ?_; simp only [Act.put, List.setIfInBounds_toArray, List.set_cons_zero, List.set_cons_succ])
        | (refine' wpQuiet_take (by rfl) ?_ ?_
           rotate_left
           · (intro wq hq; (try dsimp only at hq); go_simp
              first
                | done
                | with_reducible rfl
                | (go_at_call 12; have hzz := hpt.out wq; with_reducible refine hzz.mono ?_; clear hzz; rintro e wz ⟨rfl, hb⟩; exact ⟨rfl, hK.out _ _ hq hb⟩)
             )
           simp only [Act.put, List.setIfInBounds_toArray, List.set_cons_zero, List.set_cons_succ]))
      refine wpQuiet_nil ?_
      intro wz hz
      have hz' := hid hz
      clear hz hC0 hK hpt
      cases Q with
      | true =>
        have hFF : F = true := by
          have h1 := hpq.out.1 rfl
          rw [← hF.out, ← h1.1, ← h1.2.1, ← h1.2.2.1, ← h1.2.2.2]
          exact formed_of t
        clear hF
        go_wp2
        go_ret
        exact ⟨by first | rfl | (rw [hFF]; rfl), hV.out.2.2.2.trans (hz'.out.2.2.mono hV.out.2.2.2.size)⟩
      | false =>
        go_wp2
        go_roundw
        case rel =>
          refine ⟨i + 1, by omega, by simp, fun j hj => ?_, ⟨hV.out.1.keptAll hz'.out.2.2, fun j hj => (hz'.out.2.2.cell (p := ⟨g, j, none⟩) hV.out.2.2.1).trans (hV.out.2.1 j hj), Nat.lt_of_lt_of_le hV.out.2.2.1 hz'.out.2.2.size, hV.out.2.2.2.trans (hz'.out.2.2.mono hV.out.2.2.2.size)⟩⟩
          by_cases e : j = i
          · rw [e, ht.out]
            exact fun hc => by simpa using hpq.out.2 hc
          · exact hno.out j (by omega)
        case measure => simp [intOf]; omega
    · obtain rfl : i = 40 := by omega
      have hFF : F = false := by rw [← hF.out]; exact forty_none a b x y hno.out
      clear hF
      go_wp2
      go_ret
      exact ⟨by first | rfl | (rw [hFF]; rfl), hV.out.2.2.2⟩
end Go.Proofs.YtdmmofdlokgfmaaDoor
