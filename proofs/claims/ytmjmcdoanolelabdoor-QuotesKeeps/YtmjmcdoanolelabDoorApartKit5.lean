/-
  Rows that were handed out one after another lie apart; what laying over a lent row leaves of them.
-/
import Derived.Test.YtmjmcdoanolelabDoorApartRows
import Derived.Test.YtmjmcdoanolelabDoorOverWords
namespace Go.Proofs.YtmjmcdoanolelabDoor
open Go.RowKit

/-- The row as one of several. -/
def rowX (so : Option Addr) (r : Nat) : RowX := ⟨so.map (·.block), r⟩
theorem slX_own {B : Nat} {w : World} {so : Option Addr} {r : Nat} {Z : Nat → Nat} (h : Own B w so r Z) : slX (rowX so r) = .slice so r r := by
  rcases h with ⟨rfl, rfl⟩ | ⟨g, rfl, _, _⟩ <;> rfl
theorem rowsX_nil (W : World) (B : Nat) : RowsX W B [] (fun _ _ => 0) := ⟨fun k x hk => by simp at hk, fun k l x y g hk _ _ _ => by simp at hk⟩
theorem rowsX_push {U W : World} {B : Nat} {rs : List RowX} {F : Nat → Nat → Nat} (h0 : RowsX U B rs F) (hb : Below U.heap.size U W) (hB : B ≤ U.heap.size) {so : Option Addr} {r : Nat} {Z : Nat → Nat} (ho : Own U.heap.size W so r Z) :
    ∃ F', RowsX W B (rs ++ [rowX so r]) F' := by
  have hW := h0.kept hb
  refine ⟨fun k => if k = rs.length then Z else F k, fun k x hk => ?_, fun k l x y g hk hl hx hy => ?_⟩
  · by_cases h : k < rs.length
    · rw [List.getElem?_append_left h] at hk
      obtain ⟨h1, h2⟩ := hW.1 k x hk
      have e : k ≠ rs.length := by omega
      simp only [e, if_false]
      exact ⟨h1, h2⟩
    · have e : k = rs.length := by
        have := (List.getElem?_eq_some_iff.1 hk).1
        simp at this
        omega
      subst e
      rw [List.getElem?_append_right (Nat.le_refl _), Nat.sub_self] at hk
      simp at hk
      subst hk
      simp only [if_true]
      rcases ho with ⟨rfl, rfl⟩ | ⟨g, rfl, h2, h3⟩
      · exact ⟨fun _ => rfl, fun g e => by cases e⟩
      · exact ⟨(fun e => by cases e), fun g' e => by cases e; exact ⟨Nat.le_trans hB h2, h3⟩⟩
  · have new : ∀ (k : Nat) (x : RowX) (g : Nat), (rs ++ [rowX so r])[k]? = some x → x.g = some g → (k < rs.length ∧ rs[k]? = some x ∧ g < U.heap.size) ∨ (k = rs.length ∧ U.heap.size ≤ g) := by
      intro k x g hk hx
      by_cases h : k < rs.length
      · rw [List.getElem?_append_left h] at hk
        exact .inl ⟨h, hk, h0.lt hk hx⟩
      · have e : k = rs.length := by
          have := (List.getElem?_eq_some_iff.1 hk).1
          simp at this
          omega
        subst e
        rw [List.getElem?_append_right (Nat.le_refl _), Nat.sub_self] at hk
        simp at hk
        subst hk
        rcases ho with ⟨rfl, rfl⟩ | ⟨g', rfl, h2, h3⟩
        · cases hx
        · cases hx
          exact .inr ⟨rfl, h2⟩
    rcases new k x g hk hx with ⟨h1, h2, h3⟩ | ⟨h1, h2⟩ <;> rcases new l y g hl hy with ⟨h4, h5, h6⟩ | ⟨h4, h5⟩
    · exact h0.2 k l x y g h2 h5 hx hy
    · omega
    · omega
    · omega
section
variable {w w' : World} {g c i : Nat}
theorem OverI.own (h : OverI w g c i w') {B : Nat} {so : Option Addr} {r : Nat} {Z : Nat → Nat} (ho : Own B w so r Z) (hg : g < B) : Own B w' so r Z := by
  rcases ho with h1 | ⟨g', h1, h2, h3⟩
  · exact .inl h1
  · exact .inr ⟨g', h1, h2, h.2.2.1 g' _ _ (by omega) h3⟩
theorem OverI.rows (h : OverI w g c i w') {B : Nat} {rs : List RowX} {F : Nat → Nat → Nat} (hr : RowsX w B rs F) (hg : g < B) : RowsX w' B rs F :=
  ⟨fun k x hk => ⟨(hr.1 k x hk).1, fun g' e => ⟨((hr.1 k x hk).2 g' e).1, h.2.2.1 g' _ _ (by have := ((hr.1 k x hk).2 g' e).1; omega) ((hr.1 k x hk).2 g' e).2⟩⟩, hr.2⟩
/-- What the row that was laid over holds. -/
theorem OverI.wds (h : OverI w g c i w') {k : Nat} (hk : k ≤ i) (hk2 : k ≤ 17592186044416) : Wds w' (some ⟨g, 0, none⟩) k (fun j => 9000027 + j) := fun j hj => by
  obtain ⟨⟨cur, h1, h2, h3⟩, _⟩ := h
  refine ⟨by simp only; omega, g, 0, rfl, ?_⟩
  rw [Nat.zero_add, h1.cell j, h3 j (by omega)]
  simp
theorem OverI.below (h : OverI w g c i w') {B : Nat} (hB : B ≤ g) : Below B w w' := h.2.1.mono hB
end
/-- The world has come so far. -/
def FromB (b : Nat) (U : World) : Prop := b ≤ U.heap.size
theorem FromB.kept {b : Nat} {U W : World} (h : FromB b U) (hb : Below U.heap.size U W) : FromB b W := Nat.le_trans h hb.size
/-- What lay in V lies there still. -/
def FromW (V U : World) : Prop := Below V.heap.size V U
theorem FromW.kept {V U W : World} (h : FromW V U) (hb : Below U.heap.size U W) : FromW V W := Below.trans h (Below.mono hb h.size)
theorem FromW.refl (V : World) : FromW V V := Below.refl _ _
theorem wf_small {n : Nat} (h : n ≤ 300) : (Lit.int .i64 (n : Int)).wf = true := by
  simp [Lit.wf, IntKind.min, IntKind.max, IntKind.bits, IntKind.signed]
  omega
theorem own_rng {B : Nat} {w : World} {so : Option Addr} {r : Nat} {Z : Nat → Nat} (h : Own B w so r Z) {g : Nat} (e : so = some ⟨g, 0, none⟩) : B ≤ g ∧ g < w.heap.size := by
  rcases h with ⟨h1, _⟩ | ⟨g', h1, h2, h3⟩
  · rw [h1] at e; cases e
  · rw [h1] at e; cases e; exact ⟨h2, h3.lt⟩
theorem own_two {B : Nat} {w : World} {so : Option Addr} {r : Nat} {Z : Nat → Nat} (h : Own B w so r Z) {b : Nat} (hb : ∀ g, so = some ⟨g, 0, none⟩ → g ≠ b) (x y : Value) : Own B ((w.setCell ⟨b, 0, none⟩ x).setCell ⟨b, 1, none⟩ y) so r Z := by
  rcases h with h | ⟨g, h1, h2, h3⟩
  · exact .inl h
  · exact .inr ⟨g, h1, h2, (h3.other (p := ⟨b, 0, none⟩) (hb g h1) x).other (p := ⟨b, 1, none⟩) (hb g h1) y⟩
/-- A list that is written out: its cells by reckoning. -/
theorem wpList_build {ops : Array Oper} {rest : List Oper} {o : Oper} {a : Act} {w : World} {Q : Exit → Act → World → Prop} (hgd : o.guard = none) (t : TypeId) (len : Nat) (parts : Array (Nat × Operand)) (ho : o.op = .buildSlice t len parts) (vals : Array (Nat × Value)) (hv : (parts.map fun (i, x) => (i, a.eval x)) = vals) (cs : Array Value) (et : TypeId)
    (hrun : Sem.run Tryd.prog (Instr.buildSlice t len vals) w = .ok (.slice (some ⟨w.heap.size, 0, none⟩) len len) (w.alloc (.cells cs et)))
    (h : wpList Tryd.prog ops Q rest (a.put o.dst (.slice (some ⟨w.heap.size, 0, none⟩) len len)) (w.alloc (.cells cs et))) : wpList Tryd.prog ops Q (o :: rest) a w := by
  refine wpList_plain hgd fun K hK => ?_
  unfold Oper.wp
  simp only [execOp, ho, Sem.run_bind, hv, hrun, Result.andThen_ok]
  exact hK _ _ h
end Go.Proofs.YtmjmcdoanolelabDoor
