/-
  QuoCtl, QuoTexts, QuoTold, QuoAwake.
-/
import Derived.Test.YthakingpeegagaaDoorQuoB
import Derived.Test.YthakingpeegagaaDoorPack2
import Derived.Test.YthakingpeegagaaDoorQuoA
import Derived.Test.YthakingpeegagaaDoorBitsD
/-
  What quotes.Control answers.
-/
namespace Go.Proofs.YthakingpeegagaaDoor
open Go.RowKit Go.Shelf

attribute [local go_sem] Oper.semAt_some

/-- The class of the control bytes. -/
def ctlC : Nat → Nat := ofTo (byteAt ⟨#[0, 1, 2, 3, 4, 5, 6, 7, 8, 9, 10, 11, 12, 13, 14, 15, 16, 17, 18, 19, 20, 21, 22, 23, 24, 25, 26, 27, 28, 29, 30, 31]⟩) 32
theorem ctlC_lit : clsArr (ofTo (byteAt ⟨#[0, 1, 2, 3, 4, 5, 6, 7, 8, 9, 10, 11, 12, 13, 14, 15, 16, 17, 18, 19, 20, 21, 22, 23, 24, 25, 26, 27, 28, 29, 30, 31]⟩) (ByteArray.size ⟨#[0, 1, 2, 3, 4, 5, 6, 7, 8, 9, 10, 11, 12, 13, 14, 15, 16, 17, 18, 19, 20, 21, 22, 23, 24, 25, 26, 27, 28, 29, 30, 31]⟩)) = #[.int .u64 4294967295, .int .u64 0, .int .u64 0, .int .u64 0] := by
  rw [clsArr_lit, show ofTo (byteAt ⟨#[0, 1, 2, 3, 4, 5, 6, 7, 8, 9, 10, 11, 12, 13, 14, 15, 16, 17, 18, 19, 20, 21, 22, 23, 24, 25, 26, 27, 28, 29, 30, 31]⟩) (ByteArray.size ⟨#[0, 1, 2, 3, 4, 5, 6, 7, 8, 9, 10, 11, 12, 13, 14, 15, 16, 17, 18, 19, 20, 21, 22, 23, 24, 25, 26, 27, 28, 29, 30, 31]⟩) 0 = 4294967295 by decide +kernel, show ofTo (byteAt ⟨#[0, 1, 2, 3, 4, 5, 6, 7, 8, 9, 10, 11, 12, 13, 14, 15, 16, 17, 18, 19, 20, 21, 22, 23, 24, 25, 26, 27, 28, 29, 30, 31]⟩) (ByteArray.size ⟨#[0, 1, 2, 3, 4, 5, 6, 7, 8, 9, 10, 11, 12, 13, 14, 15, 16, 17, 18, 19, 20, 21, 22, 23, 24, 25, 26, 27, 28, 29, 30, 31]⟩) 1 = 0 by decide +kernel, show ofTo (byteAt ⟨#[0, 1, 2, 3, 4, 5, 6, 7, 8, 9, 10, 11, 12, 13, 14, 15, 16, 17, 18, 19, 20, 21, 22, 23, 24, 25, 26, 27, 28, 29, 30, 31]⟩) (ByteArray.size ⟨#[0, 1, 2, 3, 4, 5, 6, 7, 8, 9, 10, 11, 12, 13, 14, 15, 16, 17, 18, 19, 20, 21, 22, 23, 24, 25, 26, 27, 28, 29, 30, 31]⟩) 2 = 0 by decide +kernel, show ofTo (byteAt ⟨#[0, 1, 2, 3, 4, 5, 6, 7, 8, 9, 10, 11, 12, 13, 14, 15, 16, 17, 18, 19, 20, 21, 22, 23, 24, 25, 26, 27, 28, 29, 30, 31]⟩) (ByteArray.size ⟨#[0, 1, 2, 3, 4, 5, 6, 7, 8, 9, 10, 11, 12, 13, 14, 15, 16, 17, 18, 19, 20, 21, 22, 23, 24, 25, 26, 27, 28, 29, 30, 31]⟩) 3 = 0 by decide +kernel]
  rfl
theorem ctlC_arr : clsArr ctlC = #[.int .u64 4294967295, .int .u64 0, .int .u64 0, .int .u64 0] := ctlC_lit
theorem ctlC_has (x : Nat) (hx : x < 256) : hasC ctlC x = decide (x < 32) := by
  have h : ∀ x : Fin 256, hasC ctlC x.val = decide (x.val < 32) := by decide +kernel
  exact h ⟨x, hx⟩
/-- The control bytes of the block r, as a word. -/
def ctlW (s : ByteArray) (r : Nat) : Nat := mk (fun i => hasC ctlC (cutF s ((64 * r : Nat) : Int) 32 i)) 64
theorem ctlW_lt (s : ByteArray) (r : Nat) : ctlW s r < 18446744073709551616 := mk_lt64 _ 64 (by decide)
theorem ctlW_bit (s : ByteArray) (r i : Nat) (hi : i < 64) : (ctlW s r).testBit i = ctlB s (64 * r + i) := by
  unfold ctlW
  rw [mk_bit, decide_eq_true hi, Bool.true_and, ctlC_has _ (cutF_lt s _ 32 (by decide) i)]
  unfold cutF
  by_cases h : 64 * r + i < s.size
  · rw [if_pos ⟨by omega, by omega⟩, ctlB_at s _ h]
    rw [show ((64 * r : Nat) : Int).toNat + i = 64 * r + i by omega]
    rw [byteAt_eq]
  · rw [if_neg (by omega), ctlB_out s _ (by omega)]
    rfl
/-- What is found in the block r. -/
theorem fnd_bit (s : ByteArray) (r i : Nat) (hi : i < 64) : (ctlW s r &&& rowOf (inS s) s.size r).testBit i = (ctlB s (64 * r + i) && inS s (64 * r + i)) := by
  rw [Nat.testBit_and, ctlW_bit s r i hi, ← bitAt_word _ _ _ hi, rowOf_bit]
  by_cases h : 64 * r + i < s.size
  · rw [decide_eq_true h, Bool.true_and]
  · rw [ctlB_out s _ (by omega)]; rfl
theorem fnd_lt (s : ByteArray) (r : Nat) : ctlW s r &&& rowOf (inS s) s.size r < 18446744073709551616 := Nat.lt_of_le_of_lt Nat.and_le_left (ctlW_lt s r)
theorem fnd_none {s : ByteArray} {r : Nat} (h : ctlW s r &&& rowOf (inS s) s.size r = 0) (hz : ∀ i, i < 64 * r → (inS s i && ctlB s i) = false) : ∀ i, i < 64 * (r + 1) → (inS s i && ctlB s i) = false := fun i hi => by
  by_cases hl : i < 64 * r
  · exact hz i hl
  · have := fnd_bit s r (i - 64 * r) (by omega)
    rw [h, Nat.zero_testBit, show 64 * r + (i - 64 * r) = i by omega, Bool.and_comm] at this
    exact this.symm
theorem fnd_some {s : ByteArray} {r F : Nat} (hF : ctlW s r &&& rowOf (inS s) s.size r = F) (h0 : F ≠ 0) (hz : ∀ i, i < 64 * r → (inS s i && ctlB s i) = false) : ∃ q : Nat, q < 64 ∧ selW F 0 = (q : Int) ∧ 64 * r + q < s.size ∧ IsCtl s ((64 * r + q : Nat) : Int) := by
  have hl : F < 18446744073709551616 := hF ▸ fnd_lt s r
  obtain ⟨h1, h2, h3⟩ := ctz_low h0 hl
  refine ⟨Lib.ctz 64 F, h1, ?_, ?_⟩
  · rw [selW, if_pos (by decide), places_step h0 hl]; rfl
  · have hb := h2
    rw [← hF, fnd_bit s r _ (by rw [hF]; exact h1), hF, Bool.and_eq_true] at hb
    have hn : 64 * r + Lib.ctz 64 F < s.size := by
      by_cases h : 64 * r + Lib.ctz 64 F < s.size
      · exact h
      · rw [ctlB_out s _ (by omega)] at hb; cases hb.1
    refine ⟨hn, .inl ⟨64 * r + Lib.ctz 64 F, rfl, hn, hb.2, hb.1, fun i hi => ?_⟩⟩
    by_cases hlr : i < 64 * r
    · exact hz i hlr
    · have h4 := h3 (i - 64 * r) (by omega)
      rw [← hF, fnd_bit s r _ (by omega), show 64 * r + (i - 64 * r) = i by omega, Bool.and_comm] at h4
      exact h4

def QcX (w : World) (s : ByteArray) (c : Code) (_ : Nat) (W : World) : Prop := c = .ret ∧ ∃ C : Int, At W w.heap.size #[.int .i64 C] 3 ∧ Hid (IsCtl s C) ∧ Below w.heap.size w W
/-- The frame in which a round's body begins. -/
def QcA (w : World) (s : ByteArray) (K g b b2 : Nat) (x : Nat) (a' : Act) (W : World) : Prop :=
  ∃ (gx A : Nat) (L : List Value), Hid (A = 64 * x) ∧ Hid (L.toArray = arr64 (cutF s (A : Int) 32)) ∧ Hid (L.length = 64) ∧ b2 + 3 ≤ gx ∧ At W gx L.toArray 57 ∧ a' = { tmps := #[.string s, undef, .pointer (some ⟨w.heap.size, 0, none⟩), .pointer (some ⟨b, 0, none⟩), .pointer (some ⟨b2, 0, none⟩), .int .i64 (A : Int), .pointer (some ⟨gx, 0, none⟩), undef, .string s, .agg #[.int .i64 (s.size : Int), .slice (some ⟨g, 0, none⟩) K K], .slice (some ⟨g, 0, none⟩) K K, .agg #[.int .u64 4294967295, .int .u64 0, .int .u64 0, .int .u64 0], .string s, .func (.func 44) #[] #[.pointer (some ⟨b2 + 1, 0, none⟩), .pointer (some ⟨b2 + 1 + 1, 0, none⟩)], .int .i64 (A : Int), .agg L.toArray, undef, undef, undef, undef, undef, undef, undef, undef, undef, undef, undef, undef, undef, undef, undef], defers := [] }
section
variable {w : World} {s : ByteArray} {K g b b2 B : Nat}
theorem qcX_own (hB : w.heap.size ≤ B) (c : Code) : OwnFrom B (QcX w s c) := fun t X Z row hs hg hr => by
  obtain ⟨h0, C, h1, h2, h3⟩ := hs
  exact ⟨h0, C, h1.own hg (fun r e => (hr r e).2), h2, ownFrom_below (β := List Nat) (Nat.le_refl _) hB [] X Z row h3 hg hr⟩
theorem qcA_own (x : Nat) (a' : Act) : OwnFrom B (fun (_ : Unit) W => QcA w s K g b b2 x a' W) := fun _ X Y row hs hg hr => by
  obtain ⟨gx, A, L, h1, h2, h3, h4, h5, h6⟩ := hs
  exact ⟨gx, A, L, h1, h2, h3, h4, h5.own hg (fun r e => (hr r e).2), h6⟩
end

end Go.Proofs.YthakingpeegagaaDoor

/-
  What quotes.Texts tells.
-/
namespace Go.Proofs.YthakingpeegagaaDoor
open Go.RowKit Go.Shelf

attribute [local go_sem] Oper.semAt_some

/-- The iterator's variables: the text, and the row of its marks. -/
def TxAt (W : World) (s : ByteArray) (bm bs g : Nat) : Prop :=
  At W bs #[.string s] 9 ∧ At W bm #[.int .i64 (s.size : Int), .slice (some ⟨g, 0, none⟩) (need s.size) (need s.size)] 25 ∧ At W g (rowCells (need s.size) (rowOf (markS s) s.size)) 58
section
variable {W Z : World} {s : ByteArray} {bm bs g : Nat}
theorem TxAt.kept (h : TxAt W s bm bs g) (hb : Below W.heap.size W Z) : TxAt Z s bm bs g := ⟨h.1.keptAll hb, h.2.1.keptAll hb, h.2.2.keptAll hb⟩
theorem TxAt.own (h : TxAt W s bm bs g) {row : Option Nat} (hg : W.grownBy Z row) (hr : ∀ r, row = some r → ∃ o : Obj, W.heap[r]? = some o ∧ o.isCells = false) : TxAt Z s bm bs g := ⟨h.1.own hg hr, h.2.1.own hg hr, h.2.2.own hg hr⟩
theorem TxAt.other (h : TxAt W s bm bs g) {p : Addr} (h1 : bs ≠ p.block) (h2 : bm ≠ p.block) (h3 : g ≠ p.block) (v : Value) : TxAt (W.setCell p v) s bm bs g := ⟨h.1.other h1 v, h.2.1.other h2 v, h.2.2.other h3 v⟩
end
/-- What the iterator asks of a round: its variables are as they were. -/
def KeepT (s : ByteArray) (bm bs g : Nat) (A B : World) : Prop := A.heap.size ≤ B.heap.size ∧ (TxAt A s bm bs g → TxAt B s bm bs g) ∧ (0 < A.heap.size → Tab A → Tab B)
section
variable {s : ByteArray} {bm bs g : Nat} {A B C : World}
theorem KeepT.refl (s : ByteArray) (bm bs g : Nat) (A : World) : KeepT s bm bs g A A := ⟨Nat.le_refl _, fun h => h, fun _ h => h⟩
theorem KeepT.trans (h : KeepT s bm bs g A B) (k : KeepT s bm bs g B C) : KeepT s bm bs g A C := ⟨Nat.le_trans h.1 k.1, fun x => k.2.1 (h.2.1 x), fun h0 x => k.2.2 (Nat.lt_of_lt_of_le h0 h.1) (h.2.2 h0 x)⟩
theorem KeepT.drew (A : World) : KeepT s bm bs g A A.drew := ⟨Nat.le_refl _, fun h => h, fun _ h => h⟩
theorem KeepT.of_below (h : Below A.heap.size A B) : KeepT s bm bs g A B := ⟨h.size, fun x => x.kept h, fun h0 x => x.below h h0⟩
theorem KeepT.setCell {p : Addr} (h1 : bs ≠ p.block) (h2 : bm ≠ p.block) (h3 : g ≠ p.block) (h0 : 0 < p.block) (v : Value) : KeepT s bm bs g A (A.setCell p v) :=
  ⟨(KeepsOthers.setCell A p v).1, fun x => x.other h1 h2 h3 v, fun _ x => x.below ((Below.refl p.block A).setCell (Nat.le_refl _) v) h0⟩
theorem keepT_l {w : World} (h0 : 0 < w.heap.size) (W : World) (l : Nat) (r r' : Loop) (h1 : w.heap.size ≤ l) (h : W.heap[l]? = some (.loop r)) : KeepT s bm bs g W (W.putObj l (.loop r')) :=
  ⟨(grownBy_putObj' W l _).size, fun x => x.own (grownBy_putObj' W l _) (fun r e => by cases e; exact ⟨_, h, rfl⟩), fun _ x => x.below (belowK_b (w := w) (Nat.le_refl _) W l _ _ h1 h rfl rfl) h0⟩
end
/-- What is told of the span number r. -/
def encT (s : ByteArray) (r : Nat) : Array Value := #[.agg #[.int .i64 (((spn s r).1 : Nat) : Int), .int .i64 (((spn s r).2 : Nat) : Int)]]

theorem next6 {N : Nat} {G : Nat → Bool} (hN : N ≤ 562949953421312) (F : Nat) (hF : F ≤ 562949953421313) (S : Int) (hS : Hid (IsNext (rowOf G N) N (F : Int) S)) (g : Nat) (w : World) (hT : Tab w) (h0 : 0 < w.heap.size) (hW : At w g (rowCells (need N) (rowOf G N)) 58) :
    Calls Tryd.prog 18 #[.agg #[.int .i64 (N : Int), .slice (some ⟨g, 0, none⟩) (need N) (need N)], .int .i64 (F : Int)] w fun e w' => e = .returned (.int .i64 S) ∧ Below w.heap.size w w' :=
  next_at N F S (some ⟨g, 0, none⟩) (need N) (need N) (rowOf G N) N (wf_size hN) (by simp [Lit.wf, IntKind.min, IntKind.max, IntKind.bits, IntKind.signed]; omega) (need_le hN) (.inl ⟨rowOf_formed G N, rfl⟩) hS w hT h0 hW.row6

/-- The next mark, as the program tells it. -/
def nxO (s : ByteArray) (f : Nat) : Int := if nxt (markS s) s.size f < s.size then ((nxt (markS s) s.size f : Nat) : Int) else -1
theorem nxO_next (s : ByteArray) (f : Nat) : IsNext (rowOf (markS s) s.size) s.size (f : Int) (nxO s f) := by
  unfold nxO
  split
  · rename_i h; exact nxt_next f h
  · rename_i h; exact nxt_next_none f h

set_option maxRecDepth 100000 in
set_option maxHeartbeats 4000000 in
theorem texts1_t (n : Nat) (l bm bs g : Nat) (s : ByteArray) (hs : s.size ≤ 562949953421312) (J Jx : Nat → World → Prop) (W : World) (hJ : AbidesFrom W.heap.size J)
    (hY : ∀ r W1, J r W1 → r < (spansS s).length → YieldAt Fence.wide (n - 1) Tryd.prog l (encT s r) W1 fun e W' =>
      (e = .returned (.bool true) ∧ J (r + 1) W' ∧ KeepT s bm bs g W1 W') ∨ (e = .returned (.bool false) ∧ Jx (r + 1) W'))
    (hX : TxAt W s bm bs g) (hT : Tab W) (hw0 : 0 < W.heap.size) (h0 : J 0 W) :
    CallsIn Fence.wide n Tryd.prog 40 #[.func (.yield l) #[] #[], .pointer (some ⟨bm, 0, none⟩), .pointer (some ⟨bs, 0, none⟩)] W fun e W' => (∃ v, e = .returned v) ∧
      (J (spansS s).length W' ∨ ∃ r, r ≤ (spansS s).length ∧ Jx r W') := by
  have hnx := hid (fun (F : Nat) (hF : F ≤ 562949953421313) (w : World) (hk : KeepT s bm bs g W w) => next6 hs F hF (nxO s F) (nxO_next s F) g w (hk.2.2 hw0 hT) (Nat.lt_of_lt_of_le hw0 hk.1) (hk.2.1 hX).2.2)
  obtain ⟨k, hk⟩ : ∃ k, Hid (need s.size = k) := ⟨_, rfl⟩
  have hcell := hid (fun (w : World) (hkt : KeepT s bm bs g W w) => show w.cell? ⟨bm, 0, none⟩ = some (.int .i64 (s.size : Int)) ∧ w.cell? ⟨bm, 1, none⟩ = some (.slice (some ⟨g, 0, none⟩) k k) ∧ w.cell? ⟨bs, 0, none⟩ = some (.string s) by
    have h := hkt.2.1 hX
    have h2 := h.2.1
    rw [hk.out] at h2
    exact ⟨h2.facts.1, h2.facts.2.1, h.1.cell 0⟩)
  rw [hk.out] at hnx
  obtain ⟨i1, i2, -⟩ := hcell.out W (KeepT.refl _ _ _ _ _)
  clear hX hT hw0
  refine callsIn_of_wp Tryd.func40 rfl trivial ?_ rfl
  simp only [Tryd.ntmps40, List.size_toArray, List.length_cons, List.length_nil, Nat.reduceAdd, Nat.reduceSub, Array.replicate_succ, Array.replicate_zero, List.push_toArray, List.append_toArray, List.nil_append, List.cons_append]
  gi_wp2_with fail
  refine ⟨trivial, (fun h => by cases h), ?_⟩
  refine (callsIn_wide.2 (hnx.out 0 (by omega) W (KeepT.refl _ _ _ _ _))).mono ?_
  rintro e w1 ⟨rfl, hb1⟩
  obtain ⟨o0, ho0⟩ : ∃ o0, Hid (nxO s 0 = o0) := ⟨_, rfl⟩
  rw [ho0.out]
  have hJ1 := abides_below hJ h0 hb1
  have hk1 : KeepT s bm bs g W w1 := KeepT.of_below hb1
  clear i1 i2 h0 hb1
  gi_wp2
  gi_loopw [4, 5] (fun oo _ wr => ∃ (r f : Nat) (o : Int), oo = .int .i64 o ∧ Hid (nxO s f = o) ∧ Hid (SpAt s r f) ∧ J r wr ∧ KeepT s bm bs g W wr) (fun oo _ _ => if intOf oo < 0 then 0 else s.size + 1 - (intOf oo).toNat)
  case atStart => exact ⟨0, 0, _, rfl, ho0, spAt_zero s, hJ1, hk1⟩
  case round =>
    obtain ⟨r, f, o, rfl, hfo, hsp, hJr, hkr⟩ := hrel
    obtain ⟨c1, c2, c3⟩ := hcell.out _ hkr
    by_cases hlt : nxt (markS s) s.size f < s.size
    · obtain ⟨O, hO⟩ : ∃ O, nxt (markS s) s.size f = O := ⟨_, rfl⟩
      rw [hO] at hlt
      have hn := hid (hsp.out.step hO hlt)
      obtain ⟨C, hC⟩ : ∃ C, Hid (nxt (markS s) s.size (O + 1) = C) := ⟨_, rfl⟩
      rw [hC.out] at hn
      have hoe : (O : Int) = o := by rw [← hfo.out, nxO, hO, if_pos hlt]
      subst hoe
      have hcn := hn.out.cn
      have hoc := hn.out.oc
      have hln := hn.out.lt
      obtain ⟨c', hc'⟩ : ∃ c', Hid (nxO s (O + 1) = c') := ⟨_, rfl⟩
      have hn1 := hnx.out (O + 1) (by omega) wr hkr
      rw [hc'.out] at hn1
      have hn1' := hid hn1
      clear hn1 hO
      gi_wp2_with fail
      refine ⟨trivial, (fun h => by cases h), ?_⟩
      refine (callsIn_wide.2 (by simpa using hn1'.out)).mono ?_
      rintro e w2 ⟨rfl, hb2⟩
      have hJ2 := abides_below hJ hJr hb2
      have hk2 : KeepT s bm bs g W w2 := hkr.trans (KeepT.of_below hb2)
      obtain ⟨c1, c2, c3⟩ := hcell.out _ hk2
      obtain ⟨fn, tmps, assign, body, hy, hR⟩ := hY r w2 hJ2 hln
      have he : encT s r = #[.agg #[.int .i64 ((O : Int) + 1), .int .i64 (C : Int)]] := by rw [encT, hn.out.spn]; simp
      rw [he] at hy
      have hcs : (C < s.size ∧ c' = (C : Int)) ∨ (C = s.size ∧ c' = -1) := by
        rw [← hc'.out, nxO, hC.out]
        by_cases h : C < s.size
        · rw [if_pos h]; exact .inl ⟨h, rfl⟩
        · rw [if_neg h]; exact .inr ⟨by omega, rfl⟩
      have hCl : (C : Int) ≤ 562949953421312 := by omega
      have hOl : (O : Int) ≤ 562949953421312 := by omega
      clear hY hJr hJ2 hn1' hc' he hkr hfo hsp
      have fin : ∀ (W3 : World), J (r + 1) W3 → KeepT s bm bs g w2 W3 → ∀ o' : Int, Hid (nxO s (C + 1) = o') → ∀ w4, Below W3.heap.size W3 w4 → (∃ (r f : Nat) (o : Int), Value.int .i64 o' = .int .i64 o ∧ Hid (nxO s f = o) ∧ Hid (SpAt s r f) ∧ J r w4 ∧ KeepT s bm bs g W w4) ∧ (if o' < 0 then 0 else s.size + 1 - o'.toNat) < s.size + 1 - O := by
        intro W3 hJ3 hk3 o' ho' w4 hb4
        refine ⟨⟨r + 1, C + 1, o', rfl, ho', hn.out.next, abides_below hJ hJ3 hb4, (hk2.trans hk3).trans (KeepT.of_below hb4)⟩, ?_⟩
        split
        · omega
        · have := ho'.out
          unfold nxO at this
          split at this
          · have h1 := nxt_lo (G := markS s) (n := s.size) (f := C + 1); omega
          · omega
      have fin' := hid fin
      clear fin hC
      rcases hcs with ⟨hCn, rfl⟩ | ⟨hCn, rfl⟩
      · gi_wp2_with fail
        refine ⟨(fun h => by cases h), ?_⟩
        refine hR.mono ?_
        rintro e W3 (⟨rfl, hJ3, hk3⟩ | ⟨rfl, hJx3⟩)
        · clear hy hR
          obtain ⟨c1, c2, c3⟩ := hcell.out _ (hk2.trans hk3)
          have hn2 := hid (hnx.out (C + 1) (by omega) W3 (hk2.trans hk3))
          obtain ⟨o', ho'⟩ : ∃ o', Hid (nxO s (C + 1) = o') := ⟨_, rfl⟩
          rw [ho'.out] at hn2
          gi_wp2_with fail
          refine ⟨trivial, (fun h => by cases h), ?_⟩
          refine (callsIn_wide.2 (by simpa using hn2.out)).mono ?_
          rintro e w4 ⟨rfl, hb4⟩
          have hf := hid (fin'.out W3 hJ3 hk3 o' ho' w4 hb4)
          clear hn2 c1 c2 c3 fin'
          gi_wp2
          go_roundw
          case rel => exact hf.out.1
          case measure =>
            show (if o' < 0 then 0 else s.size + 1 - o'.toNat) < (if ((O : Nat) : Int) < 0 then 0 else s.size + 1 - ((O : Nat) : Int).toNat)
            rw [if_neg (show ¬ ((O : Nat) : Int) < 0 by omega), Int.toNat_natCast]
            exact hf.out.2
        · clear hy hR
          gi_wp2
          refine bodyPost_ret (results_none rfl _ _ _) rfl ?_
          exact ⟨⟨_, rfl⟩, .inr ⟨_, hln, hJx3⟩⟩
      · subst hCn
        gi_wp2_with fail
        refine ⟨(fun h => by cases h), ?_⟩
        refine hR.mono ?_
        rintro e W3 (⟨rfl, hJ3, hk3⟩ | ⟨rfl, hJx3⟩)
        · clear hy hR
          obtain ⟨c1, c2, c3⟩ := hcell.out _ (hk2.trans hk3)
          have hn2 := hid (hnx.out (s.size + 1) (by omega) W3 (hk2.trans hk3))
          obtain ⟨o', ho'⟩ : ∃ o', Hid (nxO s (s.size + 1) = o') := ⟨_, rfl⟩
          rw [ho'.out] at hn2
          gi_wp2_with fail
          refine ⟨trivial, (fun h => by cases h), ?_⟩
          refine (callsIn_wide.2 (by simpa using hn2.out)).mono ?_
          rintro e w4 ⟨rfl, hb4⟩
          have hf := hid (fin'.out W3 hJ3 hk3 o' ho' w4 hb4)
          clear hn2 c1 c2 c3 fin'
          gi_wp2
          go_roundw
          case rel => exact hf.out.1
          case measure =>
            show (if o' < 0 then 0 else s.size + 1 - o'.toNat) < (if ((O : Nat) : Int) < 0 then 0 else s.size + 1 - ((O : Nat) : Int).toNat)
            rw [if_neg (show ¬ ((O : Nat) : Int) < 0 by omega), Int.toNat_natCast]
            exact hf.out.2
        · clear hy hR
          gi_wp2
          refine bodyPost_ret (results_none rfl _ _ _) rfl ?_
          exact ⟨⟨_, rfl⟩, .inr ⟨_, hln, hJx3⟩⟩
    · have ho1 : o = -1 := by rw [← hfo.out, nxO, if_neg hlt]
      subst ho1
      have hrl := (hsp.out.end hlt).1
      clear hfo hY hsp hlt
      gi_wp2
      go_end0
      exact ⟨⟨_, rfl⟩, .inl (hrl ▸ hJr)⟩

theorem texts_tell (n : Nat) (bm bs g : Nat) (s : ByteArray) (hs : s.size ≤ 562949953421312) (w : World) (hX : TxAt w s bm bs g) (hT : Tab w) (hw0 : 0 < w.heap.size) :
    SeqTell n Tryd.prog 40 #[.pointer (some ⟨bm, 0, none⟩), .pointer (some ⟨bs, 0, none⟩)] (encT s) (KeepT s bm bs g) (spansS s).length w :=
  fun l J Jx W hW hJ _ hY h0 => texts1_t n l bm bs g s hs J Jx W hJ hY (hX.kept hW) (hT.below hW hw0) (Nat.lt_of_lt_of_le hw0 hW.size) h0

set_option maxRecDepth 10000 in
theorem textsQ_calls (s : ByteArray) (hs : s.size ≤ 562949953421312) (w : World) (hT : Tab w) (hw0 : 0 < w.heap.size) :
    Calls Tryd.prog 19 #[.string s] w fun e w' => ∃ bm bs g, w.heap.size ≤ bm ∧ w.heap.size ≤ bs ∧ w.heap.size ≤ g ∧ e = .returned (.func (.func 40) #[] #[.pointer (some ⟨bm, 0, none⟩), .pointer (some ⟨bs, 0, none⟩)]) ∧ TxAt w' s bm bs g ∧ Below w.heap.size w w' := by
  have hmf : ∀ (fn : Fn) (first cap : Array Value) (w : World), (Instr.makeFunc fn first cap).run Tryd.prog w = .ok (.func fn first cap) w := fun _ _ _ _ => rfl
  have hmk := hid (fun (w1 : World) (hb : Below w.heap.size w w1) => marksQ_calls s hs w1 (hT.below hb hw0) (Nat.lt_of_lt_of_le hw0 hb.size))
  clear hT
  go_enter Tryd.func19, Tryd.ntmps19
  go_wp2_with fail
  refine Calls.mono (hmk.out _ (by repeat (first | with_reducible exact Below.refl _ _ | with_reducible refine Below.setCell ?_ (by first | (simp; done) | (simp; omega)) _ | with_reducible refine below_drewN ?_ _ | with_reducible refine Below.alloc ?_ (by first | (simp; done) | (simp; omega)) _ | with_reducible refine Below.drew ?_))) ?_
  rintro e w1 ⟨g, hg, rfl, hA, hb⟩
  simp only [World.size_alloc] at hg
  have hB1 : Below w.heap.size w w1 := Below.trans (by repeat (first | with_reducible exact Below.refl _ _ | with_reducible refine Below.setCell ?_ (by first | (simp; done) | (simp; omega)) _ | with_reducible refine below_drewN ?_ _ | with_reducible refine Below.alloc ?_ (by first | (simp; done) | (simp; omega)) _ | with_reducible refine Below.drew ?_)) (hb.mono (by simp; try omega))
  have hr0 := hid ((At.new w #[.string s] 9).keptAll hb)
  have hz := hB1.size
  have hA' := hid hA
  clear hA hmk hb
  go_wp2
  go_ret
  exact ⟨w1.heap.size, w.heap.size, g, hz, Nat.le_refl _, by omega, rfl, ⟨hr0.out.alloc _, At.new w1 _ _, hA'.out.alloc _⟩, hB1.alloc hz _⟩
end Go.Proofs.YthakingpeegagaaDoor

/-
  What quarrylaw07.told answers of the spans of a text and their list: true.
-/
namespace Go.Proofs.YthakingpeegagaaDoor
open Go.RowKit Go.Shelf

attribute [local go_sem] Oper.semAt_some

/-- The list holds the spans. -/
def SpansAt (w : World) (ao : Option Addr) (T : List (Nat × Nat)) : Prop := ∀ (j P C : Nat), T[j]? = some (P, C) → ∃ g, ao = some ⟨g, 0, none⟩ ∧ g < w.heap.size ∧ w.cell? ⟨g, j * 2, none⟩ = some (.int .i64 (P : Int)) ∧ w.cell? ⟨g, j * 2 + 1, none⟩ = some (.int .i64 (C : Int))
theorem SpansAt.kept {n : Nat} {w w' : World} {ao : Option Addr} {T : List (Nat × Nat)} (h : SpansAt w ao T) (hn : n = w.heap.size) (hb : Below n w w') : SpansAt w' ao T := fun j P C hj => by
  subst hn
  obtain ⟨g, h1, h3, h5, h6⟩ := h j P C hj
  exact ⟨g, h1, Nat.lt_of_lt_of_le h3 hb.size, (hb.cell (p := ⟨g, j * 2, none⟩) h3).trans h5, (hb.cell (p := ⟨g, j * 2 + 1, none⟩) h3).trans h6⟩
theorem spn_at {s : ByteArray} {r N : Nat} (hN : (spansS s).length = N) (h : r < N) : (spansS s)[r]? = some ((spn s r).1, (spn s r).2) := by
  unfold spn
  rw [List.getD_eq_getElem?_getD, List.getElem?_eq_getElem (by omega)]
  rfl

/-- The frame in which a round's body begins. -/
def ToA (w : World) (s : ByteArray) (bm bs : Nat) (ao : Option Addr) (N cap : Nat) (x : Nat) (a' : Act) (W : World) : Prop :=
  ∃ (gx A C : Nat), Hid (spn s x = (A, C)) ∧ w.heap.size + 3 ≤ gx ∧ At W gx #[.int .i64 (A : Int), .int .i64 (C : Int)] 34 ∧ a' = { tmps := #[.func (.func 40) #[] #[.pointer (some ⟨bm, 0, none⟩), .pointer (some ⟨bs, 0, none⟩)], .slice ao N cap, undef, .pointer (some ⟨w.heap.size, 0, none⟩), .pointer (some ⟨w.heap.size + 1, 0, none⟩), .pointer (some ⟨w.heap.size + 1 + 1, 0, none⟩), .pointer (some ⟨gx, 0, none⟩), .func (.func 40) #[] #[.pointer (some ⟨bm, 0, none⟩), .pointer (some ⟨bs, 0, none⟩)], .agg #[.int .i64 (A : Int), .int .i64 (C : Int)], undef, undef, undef, undef, undef, undef, undef, undef, undef, undef, undef, undef, undef, undef, undef, undef, undef, undef], defers := [] }
section
variable {w : World} {s : ByteArray} {bm bs N cap B : Nat} {ao : Option Addr}
theorem toA_own (x : Nat) (a' : Act) : OwnFrom B (fun (_ : Unit) W => ToA w s bm bs ao N cap x a' W) := fun _ X Y row hs hg hr => by
  obtain ⟨gx, A, C, h1, h4, h5, h6⟩ := hs
  exact ⟨gx, A, C, h1, h4, h5.own hg (fun r e => (hr r e).2), h6⟩
end

end Go.Proofs.YthakingpeegagaaDoor

/-
  What quarrylaw07.awake answers: true.
-/
namespace Go.Proofs.YthakingpeegagaaDoor
open Go.RowKit Go.Shelf

theorem aw_marks : rowOf (markS ⟨#[34, 97, 92, 34, 98, 34, 44, 99]⟩) 8 0 = 33 := by decide +kernel
theorem aw_inside : rowOf (inS ⟨#[34, 97, 92, 34, 98, 34, 44, 99]⟩) 8 0 = 31 := by decide +kernel
theorem aw_open : openS ⟨#[34, 97, 92, 34, 98, 34, 44, 99]⟩ = false := by decide +kernel
theorem aw_open1 : openS ⟨#[34]⟩ = true := by decide +kernel
theorem aw_ctl : IsCtl ⟨#[34, 97, 10, 98, 34]⟩ 2 := .inl ⟨2, rfl, by decide, by decide +kernel, by decide +kernel, fun i hi => by
  match i, hi with
  | 0, _ => decide +kernel
  | 1, _ => decide +kernel⟩
theorem aw_spans : spansS ⟨#[34, 97, 92, 34, 98, 34, 44, 99]⟩ = [(1, 5)] := by decide +kernel

end Go.Proofs.YthakingpeegagaaDoor
