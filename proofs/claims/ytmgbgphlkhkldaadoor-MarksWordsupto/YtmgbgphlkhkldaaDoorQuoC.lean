/-
  QuoCtl, QuoTexts, QuoTold, QuoAwake.
-/
import Derived.Test.YtmgbgphlkhkldaaDoorQuoB
import Derived.Test.YtmgbgphlkhkldaaDoorWordsB
import Derived.Test.YtmgbgphlkhkldaaDoorQuoA
import Derived.Test.YtmgbgphlkhkldaaDoorBitsD
/-
  What quotes.Control answers.
-/
namespace Go.Proofs.YtmgbgphlkhkldaaDoor
open Go.RowKit Go.Shelf

attribute [local go_sem] Oper.semAt_some

/-- The class of the control bytes. -/
def ctlC : Nat → Nat := ofTo (byteAt ⟨#[0, 1, 2, 3, 4, 5, 6, 7, 8, 9, 10, 11, 12, 13, 14, 15, 16, 17, 18, 19, 20, 21, 22, 23, 24, 25, 26, 27, 28, 29, 30, 31]⟩) 32
theorem ctlC_lit : clsArr (ofTo (byteAt ⟨#[0, 1, 2, 3, 4, 5, 6, 7, 8, 9, 10, 11, 12, 13, 14, 15, 16, 17, 18, 19, 20, 21, 22, 23, 24, 25, 26, 27, 28, 29, 30, 31]⟩) (ByteArray.size ⟨#[0, 1, 2, 3, 4, 5, 6, 7, 8, 9, 10, 11, 12, 13, 14, 15, 16, 17, 18, 19, 20, 21, 22, 23, 24, 25, 26, 27, 28, 29, 30, 31]⟩)) = #[.int .u64 4294967295, .int .u64 0, .int .u64 0, .int .u64 0] := by
  rw [clsArr_lit, show ofTo (byteAt ⟨#[0, 1, 2, 3, 4, 5, 6, 7, 8, 9, 10, 11, 12, 13, 14, 15, 16, 17, 18, 19, 20, 21, 22, 23, 24, 25, 26, 27, 28, 29, 30, 31]⟩) (ByteArray.size ⟨#[0, 1, 2, 3, 4, 5, 6, 7, 8, 9, 10, 11, 12, 13, 14, 15, 16, 17, 18, 19, 20, 21, 22, 23, 24, 25, 26, 27, 28, 29, 30, 31]⟩) 0 = 4294967295 by decide +kernel, show ofTo (byteAt ⟨#[0, 1, 2, 3, 4, 5, 6, 7, 8, 9, 10, 11, 12, 13, 14, 15, 16, 17, 18, 19, 20, 21, 22, 23, 24, 25, 26, 27, 28, 29, 30, 31]⟩) (ByteArray.size ⟨#[0, 1, 2, 3, 4, 5, 6, 7, 8, 9, 10, 11, 12, 13, 14, 15, 16, 17, 18, 19, 20, 21, 22, 23, 24, 25, 26, 27, 28, 29, 30, 31]⟩) 1 = 0 by decide +kernel, show ofTo (byteAt ⟨#[0, 1, 2, 3, 4, 5, 6, 7, 8, 9, 10, 11, 12, 13, 14, 15, 16, 17, 18, 19, 20, 21, 22, 23, 24, 25, 26, 27, 28, 29, 30, 31]⟩) (ByteArray.size ⟨#[0, 1, 2, 3, 4, 5, 6, 7, 8, 9, 10, 11, 12, 13, 14, 15, 16, 17, 18, 19, 20, 21, 22, 23, 24, 25, 26, 27, 28, 29, 30, 31]⟩) 2 = 0 by decide +kernel, show ofTo (byteAt ⟨#[0, 1, 2, 3, 4, 5, 6, 7, 8, 9, 10, 11, 12, 13, 14, 15, 16, 17, 18, 19, 20, 21, 22, 23, 24, 25, 26, 27, 28, 29, 30, 31]⟩) (ByteArray.size ⟨#[0, 1, 2, 3, 4, 5, 6, 7, 8, 9, 10, 11, 12, 13, 14, 15, 16, 17, 18, 19, 20, 21, 22, 23, 24, 25, 26, 27, 28, 29, 30, 31]⟩) 3 = 0 by decide +kernel]
  rfl
theorem ctlC_arr : clsArr ctlC = #[.int .u64 4294967295, .int .u64 0, .int .u64 0, .int .u64 0] := ctlC_lit
theorem ctlC_has (x : Nat) (hx : x < 256) : hasC ctlC x = decide (x < 32) := by
  have h : ∀ x : Fin 256, hasC ctlC x.val = decide (x.val < 32) := by decide +kernel
  exact h ⟨x, hx⟩
/-- The control bytes of the block r, as a word. -/
def ctlW (s : ByteArray) (r : Nat) : Nat := mk (fun i => hasC ctlC (cutF s ((64 * r : Nat) : Int) 32 i)) 64
theorem ctlW_lt (s : ByteArray) (r : Nat) : ctlW s r < 18446744073709551616 := mk_lt64 _ 64 (by decide)
theorem ctlW_bit (s : ByteArray) (r i : Nat) (hi : i < 64) : (ctlW s r).testBit i = ctlB s (64 * r + i) := by
  unfold ctlW
  rw [mk_bit, decide_eq_true hi, Bool.true_and, ctlC_has _ (cutF_lt s _ 32 (by decide) i)]
  unfold cutF
  by_cases h : 64 * r + i < s.size
  · rw [if_pos ⟨by omega, by omega⟩, ctlB_at s _ h]
    rw [show ((64 * r : Nat) : Int).toNat + i = 64 * r + i by omega]
    rw [byteAt_eq]
  · rw [if_neg (by omega), ctlB_out s _ (by omega)]
    rfl
/-- What is found in the block r. -/
theorem fnd_bit (s : ByteArray) (r i : Nat) (hi : i < 64) : (ctlW s r &&& rowOf (inS s) s.size r).testBit i = (ctlB s (64 * r + i) && inS s (64 * r + i)) := by
  rw [Nat.testBit_and, ctlW_bit s r i hi, ← bitAt_word _ _ _ hi, rowOf_bit]
  by_cases h : 64 * r + i < s.size
  · rw [decide_eq_true h, Bool.true_and]
  · rw [ctlB_out s _ (by omega)]; rfl
theorem fnd_lt (s : ByteArray) (r : Nat) : ctlW s r &&& rowOf (inS s) s.size r < 18446744073709551616 := Nat.lt_of_le_of_lt Nat.and_le_left (ctlW_lt s r)
theorem fnd_none {s : ByteArray} {r : Nat} (h : ctlW s r &&& rowOf (inS s) s.size r = 0) (hz : ∀ i, i < 64 * r → (inS s i && ctlB s i) = false) : ∀ i, i < 64 * (r + 1) → (inS s i && ctlB s i) = false := fun i hi => by
  by_cases hl : i < 64 * r
  · exact hz i hl
  · have := fnd_bit s r (i - 64 * r) (by omega)
    rw [h, Nat.zero_testBit, show 64 * r + (i - 64 * r) = i by omega, Bool.and_comm] at this
    exact this.symm
theorem fnd_some {s : ByteArray} {r F : Nat} (hF : ctlW s r &&& rowOf (inS s) s.size r = F) (h0 : F ≠ 0) (hz : ∀ i, i < 64 * r → (inS s i && ctlB s i) = false) : ∃ q : Nat, q < 64 ∧ selW F 0 = (q : Int) ∧ 64 * r + q < s.size ∧ IsCtl s ((64 * r + q : Nat) : Int) := by
  have hl : F < 18446744073709551616 := hF ▸ fnd_lt s r
  obtain ⟨h1, h2, h3⟩ := ctz_low h0 hl
  refine ⟨Lib.ctz 64 F, h1, ?_, ?_⟩
  · rw [selW, if_pos (by decide), places_step h0 hl]; rfl
  · have hb := h2
    rw [← hF, fnd_bit s r _ (by rw [hF]; exact h1), hF, Bool.and_eq_true] at hb
    have hn : 64 * r + Lib.ctz 64 F < s.size := by
      by_cases h : 64 * r + Lib.ctz 64 F < s.size
      · exact h
      · rw [ctlB_out s _ (by omega)] at hb; cases hb.1
    refine ⟨hn, .inl ⟨64 * r + Lib.ctz 64 F, rfl, hn, hb.2, hb.1, fun i hi => ?_⟩⟩
    by_cases hlr : i < 64 * r
    · exact hz i hlr
    · have h4 := h3 (i - 64 * r) (by omega)
      rw [← hF, fnd_bit s r _ (by omega), show 64 * r + (i - 64 * r) = i by omega, Bool.and_comm] at h4
      exact h4

def QcX (w : World) (s : ByteArray) (c : Code) (_ : Nat) (W : World) : Prop := c = .ret ∧ ∃ C : Int, At W w.heap.size #[.int .i64 C] 3 ∧ Hid (IsCtl s C) ∧ Below w.heap.size w W
/-- The frame in which a round's body begins. -/
def QcA (w : World) (s : ByteArray) (K g b b2 : Nat) (x : Nat) (a' : Act) (W : World) : Prop :=
  ∃ (gx A : Nat) (L : List Value), Hid (A = 64 * x) ∧ Hid (L.toArray = arr64 (cutF s (A : Int) 32)) ∧ Hid (L.length = 64) ∧ b2 + 3 ≤ gx ∧ At W gx L.toArray 70 ∧ a' = { tmps := #[.string s, undef, .pointer (some ⟨w.heap.size, 0, none⟩), .pointer (some ⟨b, 0, none⟩), .pointer (some ⟨b2, 0, none⟩), .int .i64 (A : Int), .pointer (some ⟨gx, 0, none⟩), undef, .string s, .agg #[.int .i64 (s.size : Int), .slice (some ⟨g, 0, none⟩) K K], .slice (some ⟨g, 0, none⟩) K K, .agg #[.int .u64 4294967295, .int .u64 0, .int .u64 0, .int .u64 0], .string s, .func (.func 54) #[] #[.pointer (some ⟨b2 + 1, 0, none⟩), .pointer (some ⟨b2 + 1 + 1, 0, none⟩)], .int .i64 (A : Int), .agg L.toArray, undef, undef, undef, undef, undef, undef, undef, undef, undef, undef, undef, undef, undef, undef, undef], defers := [] }
section
variable {w : World} {s : ByteArray} {K g b b2 B : Nat}
theorem qcX_own (hB : w.heap.size ≤ B) (c : Code) : OwnFrom B (QcX w s c) := fun t X Z row hs hg hr => by
  obtain ⟨h0, C, h1, h2, h3⟩ := hs
  exact ⟨h0, C, h1.own hg (fun r e => (hr r e).2), h2, ownFrom_below (β := List Nat) (Nat.le_refl _) hB [] X Z row h3 hg hr⟩
theorem qcA_own (x : Nat) (a' : Act) : OwnFrom B (fun (_ : Unit) W => QcA w s K g b b2 x a' W) := fun _ X Y row hs hg hr => by
  obtain ⟨gx, A, L, h1, h2, h3, h4, h5, h6⟩ := hs
  exact ⟨gx, A, L, h1, h2, h3, h4, h5.own hg (fun r e => (hr r e).2), h6⟩
end

end Go.Proofs.YtmgbgphlkhkldaaDoor

/-
  What quotes.Texts tells.
-/
namespace Go.Proofs.YtmgbgphlkhkldaaDoor
open Go.RowKit Go.Shelf

attribute [local go_sem] Oper.semAt_some

/-- The iterator's variables: the text, and the row of its marks. -/
def TxAt (W : World) (s : ByteArray) (bm bs g : Nat) : Prop :=
  At W bs #[.string s] 9 ∧ At W bm #[.int .i64 (s.size : Int), .slice (some ⟨g, 0, none⟩) (need s.size) (need s.size)] 28 ∧ At W g (rowCells (need s.size) (rowOf (markS s) s.size)) 30
section
variable {W Z : World} {s : ByteArray} {bm bs g : Nat}
theorem TxAt.kept (h : TxAt W s bm bs g) (hb : Below W.heap.size W Z) : TxAt Z s bm bs g := ⟨h.1.keptAll hb, h.2.1.keptAll hb, h.2.2.keptAll hb⟩
theorem TxAt.own (h : TxAt W s bm bs g) {row : Option Nat} (hg : W.grownBy Z row) (hr : ∀ r, row = some r → ∃ o : Obj, W.heap[r]? = some o ∧ o.isCells = false) : TxAt Z s bm bs g := ⟨h.1.own hg hr, h.2.1.own hg hr, h.2.2.own hg hr⟩
theorem TxAt.other (h : TxAt W s bm bs g) {p : Addr} (h1 : bs ≠ p.block) (h2 : bm ≠ p.block) (h3 : g ≠ p.block) (v : Value) : TxAt (W.setCell p v) s bm bs g := ⟨h.1.other h1 v, h.2.1.other h2 v, h.2.2.other h3 v⟩
end
/-- What the iterator asks of a round: its variables are as they were. -/
def KeepT (s : ByteArray) (bm bs g : Nat) (A B : World) : Prop := A.heap.size ≤ B.heap.size ∧ (TxAt A s bm bs g → TxAt B s bm bs g) ∧ (0 < A.heap.size → Tab A → Tab B)
section
variable {s : ByteArray} {bm bs g : Nat} {A B C : World}
theorem KeepT.refl (s : ByteArray) (bm bs g : Nat) (A : World) : KeepT s bm bs g A A := ⟨Nat.le_refl _, fun h => h, fun _ h => h⟩
theorem KeepT.trans (h : KeepT s bm bs g A B) (k : KeepT s bm bs g B C) : KeepT s bm bs g A C := ⟨Nat.le_trans h.1 k.1, fun x => k.2.1 (h.2.1 x), fun h0 x => k.2.2 (Nat.lt_of_lt_of_le h0 h.1) (h.2.2 h0 x)⟩
theorem KeepT.drew (A : World) : KeepT s bm bs g A A.drew := ⟨Nat.le_refl _, fun h => h, fun _ h => h⟩
theorem KeepT.of_below (h : Below A.heap.size A B) : KeepT s bm bs g A B := ⟨h.size, fun x => x.kept h, fun h0 x => x.below h h0⟩
theorem KeepT.setCell {p : Addr} (h1 : bs ≠ p.block) (h2 : bm ≠ p.block) (h3 : g ≠ p.block) (h0 : 0 < p.block) (v : Value) : KeepT s bm bs g A (A.setCell p v) :=
  ⟨(KeepsOthers.setCell A p v).1, fun x => x.other h1 h2 h3 v, fun _ x => x.below ((Below.refl p.block A).setCell (Nat.le_refl _) v) h0⟩
theorem keepT_l {w : World} (h0 : 0 < w.heap.size) (W : World) (l : Nat) (r r' : Loop) (h1 : w.heap.size ≤ l) (h : W.heap[l]? = some (.loop r)) : KeepT s bm bs g W (W.putObj l (.loop r')) :=
  ⟨(grownBy_putObj' W l _).size, fun x => x.own (grownBy_putObj' W l _) (fun r e => by cases e; exact ⟨_, h, rfl⟩), fun _ x => x.below (belowK_b (w := w) (Nat.le_refl _) W l _ _ h1 h rfl rfl) h0⟩
end
/-- What is told of the span number r. -/
def encT (s : ByteArray) (r : Nat) : Array Value := #[.agg #[.int .i64 (((spn s r).1 : Nat) : Int), .int .i64 (((spn s r).2 : Nat) : Int)]]

/-- The next mark, as the program tells it. -/
def nxO (s : ByteArray) (f : Nat) : Int := if nxt (markS s) s.size f < s.size then ((nxt (markS s) s.size f : Nat) : Int) else -1
theorem nxO_next (s : ByteArray) (f : Nat) : IsNext (rowOf (markS s) s.size) s.size (f : Int) (nxO s f) := by
  unfold nxO
  split
  · rename_i h; exact nxt_next f h
  · rename_i h; exact nxt_next_none f h

end Go.Proofs.YtmgbgphlkhkldaaDoor

/-
  What quarrylaw07.told answers of the spans of a text and their list: true.
-/
namespace Go.Proofs.YtmgbgphlkhkldaaDoor
open Go.RowKit Go.Shelf

attribute [local go_sem] Oper.semAt_some

/-- The list holds the spans. -/
def SpansAt (w : World) (ao : Option Addr) (T : List (Nat × Nat)) : Prop := ∀ (j P C : Nat), T[j]? = some (P, C) → ∃ g, ao = some ⟨g, 0, none⟩ ∧ g < w.heap.size ∧ w.cell? ⟨g, j * 2, none⟩ = some (.int .i64 (P : Int)) ∧ w.cell? ⟨g, j * 2 + 1, none⟩ = some (.int .i64 (C : Int))
theorem SpansAt.kept {n : Nat} {w w' : World} {ao : Option Addr} {T : List (Nat × Nat)} (h : SpansAt w ao T) (hn : n = w.heap.size) (hb : Below n w w') : SpansAt w' ao T := fun j P C hj => by
  subst hn
  obtain ⟨g, h1, h3, h5, h6⟩ := h j P C hj
  exact ⟨g, h1, Nat.lt_of_lt_of_le h3 hb.size, (hb.cell (p := ⟨g, j * 2, none⟩) h3).trans h5, (hb.cell (p := ⟨g, j * 2 + 1, none⟩) h3).trans h6⟩
theorem spn_at {s : ByteArray} {r N : Nat} (hN : (spansS s).length = N) (h : r < N) : (spansS s)[r]? = some ((spn s r).1, (spn s r).2) := by
  unfold spn
  rw [List.getD_eq_getElem?_getD, List.getElem?_eq_getElem (by omega)]
  rfl

/-- Between two rounds. -/
def ToI (w : World) (ao : Option Addr) (N cap : Nat) (r : Nat) (W : World) : Prop :=
  (At W w.heap.size #[.slice ao N cap] 39 ∧ At W (w.heap.size + 1) #[.bool false] 4 ∧ At W (w.heap.size + 1 + 1) #[.int .i64 (r : Int)] 3 ∧ w.heap.size + 3 ≤ W.heap.size) ∧ Below w.heap.size w W
section
variable {w : World} {s : ByteArray} {bm bs N cap B : Nat} {ao : Option Addr}
theorem toI_own (hB : w.heap.size ≤ B) : OwnFrom B (ToI w ao N cap) := fun t X Z row hs hg hr => by
  obtain ⟨⟨h1, h2, h3, h6⟩, hb⟩ := hs
  have hr' := fun r e => (hr r e).2
  exact ⟨⟨h1.own hg hr', h2.own hg hr', h3.own hg hr', Nat.le_trans h6 hg.size⟩, ownFrom_below (β := List Nat) (Nat.le_refl _) hB [] X Z row hb hg hr⟩
theorem toI_kept {r : Nat} {X Z : World} (h : ToI w ao N cap r X) (hb : Below X.heap.size X Z) : ToI w ao N cap r Z := by
  obtain ⟨⟨h1, h2, h3, h6⟩, hB⟩ := h
  exact ⟨⟨h1.keptAll hb, h2.keptAll hb, h3.keptAll hb, Nat.le_trans h6 hb.size⟩, hB.trans (hb.mono hB.size)⟩
end

end Go.Proofs.YtmgbgphlkhkldaaDoor

/-
  What quarrylaw07.awake answers: true.
-/
namespace Go.Proofs.YtmgbgphlkhkldaaDoor
open Go.RowKit Go.Shelf

theorem aw_marks : rowOf (markS ⟨#[34, 97, 92, 34, 98, 34, 44, 99]⟩) 8 0 = 33 := by decide +kernel
theorem aw_inside : rowOf (inS ⟨#[34, 97, 92, 34, 98, 34, 44, 99]⟩) 8 0 = 31 := by decide +kernel
theorem aw_open : openS ⟨#[34, 97, 92, 34, 98, 34, 44, 99]⟩ = false := by decide +kernel
theorem aw_open1 : openS ⟨#[34]⟩ = true := by decide +kernel
theorem aw_ctl : IsCtl ⟨#[34, 97, 10, 98, 34]⟩ 2 := .inl ⟨2, rfl, by decide, by decide +kernel, by decide +kernel, fun i hi => by
  match i, hi with
  | 0, _ => decide +kernel
  | 1, _ => decide +kernel⟩
theorem aw_spans : spansS ⟨#[34, 97, 92, 34, 98, 34, 44, 99]⟩ = [(1, 5)] := by decide +kernel

end Go.Proofs.YtmgbgphlkhkldaaDoor
