/-
  What quotes.Control answers.
-/
import Derived.Test.YtmjmcdoanolelaaDoorQuoInside
import Derived.Test.YtmjmcdoanolelaaDoorSelectWalk
namespace Go.Proofs.YtmjmcdoanolelaaDoor
open Go.RowKit Go.Shelf

attribute [local go_sem] Oper.semAt_some

/-- The class of the control bytes. -/
def ctlC : Nat → Nat := ofTo (byteAt ⟨#[0, 1, 2, 3, 4, 5, 6, 7, 8, 9, 10, 11, 12, 13, 14, 15, 16, 17, 18, 19, 20, 21, 22, 23, 24, 25, 26, 27, 28, 29, 30, 31]⟩) 32
theorem ctlC_lit : clsArr (ofTo (byteAt ⟨#[0, 1, 2, 3, 4, 5, 6, 7, 8, 9, 10, 11, 12, 13, 14, 15, 16, 17, 18, 19, 20, 21, 22, 23, 24, 25, 26, 27, 28, 29, 30, 31]⟩) (ByteArray.size ⟨#[0, 1, 2, 3, 4, 5, 6, 7, 8, 9, 10, 11, 12, 13, 14, 15, 16, 17, 18, 19, 20, 21, 22, 23, 24, 25, 26, 27, 28, 29, 30, 31]⟩)) = #[.int .u64 4294967295, .int .u64 0, .int .u64 0, .int .u64 0] := by
  rw [clsArr_lit, show ofTo (byteAt ⟨#[0, 1, 2, 3, 4, 5, 6, 7, 8, 9, 10, 11, 12, 13, 14, 15, 16, 17, 18, 19, 20, 21, 22, 23, 24, 25, 26, 27, 28, 29, 30, 31]⟩) (ByteArray.size ⟨#[0, 1, 2, 3, 4, 5, 6, 7, 8, 9, 10, 11, 12, 13, 14, 15, 16, 17, 18, 19, 20, 21, 22, 23, 24, 25, 26, 27, 28, 29, 30, 31]⟩) 0 = 4294967295 by decide +kernel, show ofTo (byteAt ⟨#[0, 1, 2, 3, 4, 5, 6, 7, 8, 9, 10, 11, 12, 13, 14, 15, 16, 17, 18, 19, 20, 21, 22, 23, 24, 25, 26, 27, 28, 29, 30, 31]⟩) (ByteArray.size ⟨#[0, 1, 2, 3, 4, 5, 6, 7, 8, 9, 10, 11, 12, 13, 14, 15, 16, 17, 18, 19, 20, 21, 22, 23, 24, 25, 26, 27, 28, 29, 30, 31]⟩) 1 = 0 by decide +kernel, show ofTo (byteAt ⟨#[0, 1, 2, 3, 4, 5, 6, 7, 8, 9, 10, 11, 12, 13, 14, 15, 16, 17, 18, 19, 20, 21, 22, 23, 24, 25, 26, 27, 28, 29, 30, 31]⟩) (ByteArray.size ⟨#[0, 1, 2, 3, 4, 5, 6, 7, 8, 9, 10, 11, 12, 13, 14, 15, 16, 17, 18, 19, 20, 21, 22, 23, 24, 25, 26, 27, 28, 29, 30, 31]⟩) 2 = 0 by decide +kernel, show ofTo (byteAt ⟨#[0, 1, 2, 3, 4, 5, 6, 7, 8, 9, 10, 11, 12, 13, 14, 15, 16, 17, 18, 19, 20, 21, 22, 23, 24, 25, 26, 27, 28, 29, 30, 31]⟩) (ByteArray.size ⟨#[0, 1, 2, 3, 4, 5, 6, 7, 8, 9, 10, 11, 12, 13, 14, 15, 16, 17, 18, 19, 20, 21, 22, 23, 24, 25, 26, 27, 28, 29, 30, 31]⟩) 3 = 0 by decide +kernel]
  rfl
theorem ctlC_arr : clsArr ctlC = #[.int .u64 4294967295, .int .u64 0, .int .u64 0, .int .u64 0] := ctlC_lit
theorem ctlC_has (x : Nat) (hx : x < 256) : hasC ctlC x = decide (x < 32) := by
  have h : ∀ x : Fin 256, hasC ctlC x.val = decide (x.val < 32) := by decide +kernel
  exact h ⟨x, hx⟩
/-- The control bytes of the block r, as a word. -/
def ctlW (s : ByteArray) (r : Nat) : Nat := mk (fun i => hasC ctlC (cutF s ((64 * r : Nat) : Int) 32 i)) 64
theorem ctlW_lt (s : ByteArray) (r : Nat) : ctlW s r < 18446744073709551616 := mk_lt64 _ 64 (by decide)
theorem ctlW_bit (s : ByteArray) (r i : Nat) (hi : i < 64) : (ctlW s r).testBit i = ctlB s (64 * r + i) := by
  unfold ctlW
  rw [mk_bit, decide_eq_true hi, Bool.true_and, ctlC_has _ (cutF_lt s _ 32 (by decide) i)]
  unfold cutF
  by_cases h : 64 * r + i < s.size
  · rw [if_pos ⟨by omega, by omega⟩, ctlB_at s _ h]
    rw [show ((64 * r : Nat) : Int).toNat + i = 64 * r + i by omega]
    rw [byteAt_eq]
  · rw [if_neg (by omega), ctlB_out s _ (by omega)]
    rfl
/-- What is found in the block r. -/
theorem fnd_bit (s : ByteArray) (r i : Nat) (hi : i < 64) : (ctlW s r &&& rowOf (inS s) s.size r).testBit i = (ctlB s (64 * r + i) && inS s (64 * r + i)) := by
  rw [Nat.testBit_and, ctlW_bit s r i hi, ← bitAt_word _ _ _ hi, rowOf_bit]
  by_cases h : 64 * r + i < s.size
  · rw [decide_eq_true h, Bool.true_and]
  · rw [ctlB_out s _ (by omega)]; rfl
theorem fnd_lt (s : ByteArray) (r : Nat) : ctlW s r &&& rowOf (inS s) s.size r < 18446744073709551616 := Nat.lt_of_le_of_lt Nat.and_le_left (ctlW_lt s r)
theorem fnd_none {s : ByteArray} {r : Nat} (h : ctlW s r &&& rowOf (inS s) s.size r = 0) (hz : ∀ i, i < 64 * r → (inS s i && ctlB s i) = false) : ∀ i, i < 64 * (r + 1) → (inS s i && ctlB s i) = false := fun i hi => by
  by_cases hl : i < 64 * r
  · exact hz i hl
  · have := fnd_bit s r (i - 64 * r) (by omega)
    rw [h, Nat.zero_testBit, show 64 * r + (i - 64 * r) = i by omega, Bool.and_comm] at this
    exact this.symm
theorem fnd_some {s : ByteArray} {r F : Nat} (hF : ctlW s r &&& rowOf (inS s) s.size r = F) (h0 : F ≠ 0) (hz : ∀ i, i < 64 * r → (inS s i && ctlB s i) = false) : ∃ q : Nat, q < 64 ∧ selW F 0 = (q : Int) ∧ 64 * r + q < s.size ∧ IsCtl s ((64 * r + q : Nat) : Int) := by
  have hl : F < 18446744073709551616 := hF ▸ fnd_lt s r
  obtain ⟨h1, h2, h3⟩ := ctz_low h0 hl
  refine ⟨Lib.ctz 64 F, h1, ?_, ?_⟩
  · rw [selW, if_pos (by decide), places_step h0 hl]; rfl
  · have hb := h2
    rw [← hF, fnd_bit s r _ (by rw [hF]; exact h1), hF, Bool.and_eq_true] at hb
    have hn : 64 * r + Lib.ctz 64 F < s.size := by
      by_cases h : 64 * r + Lib.ctz 64 F < s.size
      · exact h
      · rw [ctlB_out s _ (by omega)] at hb; cases hb.1
    refine ⟨hn, .inl ⟨64 * r + Lib.ctz 64 F, rfl, hn, hb.2, hb.1, fun i hi => ?_⟩⟩
    by_cases hlr : i < 64 * r
    · exact hz i hlr
    · have h4 := h3 (i - 64 * r) (by omega)
      rw [← hF, fnd_bit s r _ (by omega), show 64 * r + (i - 64 * r) = i by omega, Bool.and_comm] at h4
      exact h4

/-- Between two rounds. -/
def QcI (w : World) (s : ByteArray) (K g b b2 : Nat) (r : Nat) (W : World) : Prop :=
  (At W w.heap.size #[.int .i64 0] 3 ∧ At W g (rowCells K (rowOf (inS s) s.size)) 46 ∧ At W b #[.slice (some ⟨g, 0, none⟩) K K] 23 ∧ At W b2 #[.int .u64 4294967295, .int .u64 0, .int .u64 0, .int .u64 0] 61 ∧ b2 + 3 ≤ W.heap.size) ∧ Below w.heap.size w W ∧ Hid (∀ i, i < 64 * r → (inS s i && ctlB s i) = false)
def QcX (w : World) (s : ByteArray) (c : Code) (_ : Nat) (W : World) : Prop := c = .ret ∧ ∃ C : Int, At W w.heap.size #[.int .i64 C] 3 ∧ Hid (IsCtl s C) ∧ Below w.heap.size w W
/-- The frame in which a round's body begins. -/
def QcA (w : World) (s : ByteArray) (K g b b2 : Nat) (x : Nat) (a' : Act) (W : World) : Prop :=
  ∃ (gx A : Nat) (L : List Value), Hid (A = 64 * x) ∧ Hid (L.toArray = arr64 (cutF s (A : Int) 32)) ∧ Hid (L.length = 64) ∧ b2 + 3 ≤ gx ∧ At W gx L.toArray 50 ∧ a' = { tmps := #[.string s, undef, .pointer (some ⟨w.heap.size, 0, none⟩), .pointer (some ⟨b, 0, none⟩), .pointer (some ⟨b2, 0, none⟩), .int .i64 (A : Int), .pointer (some ⟨gx, 0, none⟩), undef, .string s, .agg #[.int .i64 (s.size : Int), .slice (some ⟨g, 0, none⟩) K K], .slice (some ⟨g, 0, none⟩) K K, .agg #[.int .u64 4294967295, .int .u64 0, .int .u64 0, .int .u64 0], .string s, .func (.func 47) #[] #[.pointer (some ⟨b2 + 1, 0, none⟩), .pointer (some ⟨b2 + 1 + 1, 0, none⟩)], .int .i64 (A : Int), .agg L.toArray, undef, undef, undef, undef, undef, undef, undef, undef, undef, undef, undef, undef, undef, undef, undef], defers := [] }
section
variable {w : World} {s : ByteArray} {K g b b2 B : Nat}
theorem qcI_own (hB : w.heap.size ≤ B) : OwnFrom B (QcI w s K g b b2) := fun t X Z row hs hg hr => by
  obtain ⟨⟨h1, h2, h3, h4, h6⟩, hb, hz⟩ := hs
  have hr' := fun r e => (hr r e).2
  exact ⟨⟨h1.own hg hr', h2.own hg hr', h3.own hg hr', h4.own hg hr', Nat.le_trans h6 hg.size⟩, ownFrom_below (β := List Nat) (Nat.le_refl _) hB [] X Z row hb hg hr, hz⟩
theorem qcX_own (hB : w.heap.size ≤ B) (c : Code) : OwnFrom B (QcX w s c) := fun t X Z row hs hg hr => by
  obtain ⟨h0, C, h1, h2, h3⟩ := hs
  exact ⟨h0, C, h1.own hg (fun r e => (hr r e).2), h2, ownFrom_below (β := List Nat) (Nat.le_refl _) hB [] X Z row h3 hg hr⟩
theorem qcA_own (x : Nat) (a' : Act) : OwnFrom B (fun (_ : Unit) W => QcA w s K g b b2 x a' W) := fun _ X Y row hs hg hr => by
  obtain ⟨gx, A, L, h1, h2, h3, h4, h5, h6⟩ := hs
  exact ⟨gx, A, L, h1, h2, h3, h4, h5.own hg (fun r e => (hr r e).2), h6⟩
theorem qcI_kept {r : Nat} {X Z : World} (h : QcI w s K g b b2 r X) (hb : Below X.heap.size X Z) : QcI w s K g b b2 r Z := by
  obtain ⟨⟨h1, h2, h3, h4, h6⟩, hB, hz⟩ := h
  exact ⟨⟨h1.keptAll hb, h2.keptAll hb, h3.keptAll hb, h4.keptAll hb, Nat.le_trans h6 hb.size⟩, hB.trans (hb.mono hB.size), hz⟩
end

set_option maxRecDepth 100000 in
set_option maxHeartbeats 8000000 in
theorem control_in (s : ByteArray) (hs : s.size ≤ 281474976710656) (C : Int) (hC : Hid (IsCtl s C)) (w : World) (hT : Tab w) (hw0 : 0 < w.heap.size) :
    CallsIn Fence.wide 3 Tryd.prog 17 #[.string s] w fun e w' => e = .returned (.int .i64 C) ∧ Below w.heap.size w w' := by
  have hnf : ∀ (f : Fn) (a b : Array Value) (w : World), Sem.run Tryd.prog (binOp BinOp.eql 48 (.func f a b) .nilFunc) w = .ok (.bool false) w := fun _ _ _ _ => by rfl
  have hesc := hid (fun (w1 : World) (hb : Below w.heap.size w w1) => insideQ_calls s hs w1 (hT.below hb hw0) (Nat.lt_of_lt_of_le hw0 hb.size))
  have hT' := hid hT
  obtain ⟨K, hK⟩ : ∃ K, Hid (need s.size = K) := ⟨_, rfl⟩
  have hKb : Hid (blocksOf s = K) := hK
  have hKs : (s.size + 63) / 64 = K := hK.out
  have hK44 : K ≤ 17592186044416 := by omega
  have hKs' := hid hKs
  clear hKs
  rw [hK.out] at hesc
  clear hT
  refine callsIn_of_wp_marks Tryd.func17 rfl trivial ?_ rfl
  simp only [Tryd.ntmps17, List.size_toArray, List.length_cons, List.length_nil, Nat.reduceAdd, Nat.reduceSub, Array.replicate_succ, Array.replicate_zero, List.push_toArray, List.append_toArray, List.nil_append, List.cons_append]
  refine wpIn_wide.2 ?_
  go_wp2_with fail
  refine Calls.mono (hesc.out _ (by repeat (first | with_reducible exact Below.refl _ _ | with_reducible refine Below.setCell ?_ (by first | (simp; done) | (simp; omega)) _ | with_reducible refine below_drewN ?_ _ | with_reducible refine Below.alloc ?_ (by first | (simp; done) | (simp; omega)) _ | with_reducible refine Below.drew ?_))) ?_
  rintro e w1 ⟨g, hg, rfl, hA, hb⟩
  rw [World.size_alloc] at hg
  have hB1 : Below w.heap.size w w1 := Below.trans (by repeat (first | with_reducible exact Below.refl _ _ | with_reducible refine Below.setCell ?_ (by first | (simp; done) | (simp; omega)) _ | with_reducible refine below_drewN ?_ _ | with_reducible refine Below.alloc ?_ (by first | (simp; done) | (simp; omega)) _ | with_reducible refine Below.drew ?_)) (hb.mono (by simp))
  have hr0 := (At.new w #[.int .i64 0] 3).keptAll hb
  have hgl := hA.lt
  clear hesc hb
  have hfl := fun (x y : Value) (u : World) => field_bits1 x y u
  go_wp2_with fail
  refine (ofC_calls ⟨#[0, 1, 2, 3, 4, 5, 6, 7, 8, 9, 10, 11, 12, 13, 14, 15, 16, 17, 18, 19, 20, 21, 22, 23, 24, 25, 26, 27, 28, 29, 30, 31]⟩ (by decide) _).mono ?_
  rintro e w2 ⟨rfl, hb2⟩
  rw [ctlC_lit]
  obtain ⟨b, hbe⟩ : ∃ b, w1.heap.size = b := ⟨_, rfl⟩
  have a0 : At w2 b #[.slice (some ⟨g, 0, none⟩) K K] 23 := by rw [← hbe]; exact (At.new w1 _ _).keptAll hb2
  have hB2 : Below w1.heap.size w1 w2 := Below.trans (by repeat (first | with_reducible exact Below.refl _ _ | with_reducible refine Below.setCell ?_ (by first | (simp; done) | (simp; omega)) _ | with_reducible refine below_drewN ?_ _ | with_reducible refine Below.alloc ?_ (by first | (simp; done) | (simp; omega)) _ | with_reducible refine Below.drew ?_)) (hb2.mono (by simp))
  have hlt2 := a0.lt
  rw [hbe] at hgl ⊢
  clear hb2
  go_wp2_with fail
  obtain ⟨b2, hbe2⟩ : ∃ b2, w2.heap.size = b2 := ⟨_, rfl⟩
  obtain ⟨X4, hX4⟩ : ∃ X4, X4 = w2.alloc (.cells #[.int .u64 4294967295, .int .u64 0, .int .u64 0, .int .u64 0] 61) := ⟨_, rfl⟩
  rw [← hX4]
  rw [hbe2] at hlt2 ⊢
  have z4 : X4.heap.size = b2 + 1 := by rw [hX4, World.size_alloc, hbe2]
  refine (blocks_calls s 32 _).mono ?_
  rintro e W0 ⟨rfl, hW0⟩
  rw [z4]
  have q4 : Below w2.heap.size w2 X4 := by rw [hX4]; repeat (first | with_reducible exact Below.refl _ _ | with_reducible refine Below.setCell ?_ (by first | (simp; done) | (simp; omega)) _ | with_reducible refine below_drewN ?_ _ | with_reducible refine Below.alloc ?_ (by first | (simp; done) | (simp; omega)) _ | with_reducible refine Below.drew ?_)
  have q5 : Below X4.heap.size X4 W0 := by rw [hW0]; repeat (first | with_reducible exact Below.refl _ _ | with_reducible refine Below.setCell ?_ (by first | (simp; done) | (simp; omega)) _ | with_reducible refine below_drewN ?_ _ | with_reducible refine Below.alloc ?_ (by first | (simp; done) | (simp; omega)) _ | with_reducible refine Below.drew ?_)
  have a2 : At X4 b2 #[.int .u64 4294967295, .int .u64 0, .int .u64 0, .int .u64 0] 61 := by
    rw [hX4, ← hbe2]; exact At.new w2 _ _
  have a5 : At W0 (b2 + 1) #[.string s] 9 := by
    rw [hW0, ← z4]; exact (At.new X4 _ _).alloc _
  have a6 : At W0 (b2 + 1 + 1) #[.int .u8 ((32 : Nat) : Int)] 5 := by
    have h := At.new (X4.alloc (.cells #[.string s] 9)) #[.int .u8 ((32 : Nat) : Int)] 5
    rw [hW0, ← z4]; simpa using h
  have z0 : W0.heap.size = b2 + 3 := by rw [hW0]; simp only [World.size_alloc, z4]
  have hB12 : Below w.heap.size w w2 := hB1.trans (hB2.mono hB1.size)
  have hB0 : Below w.heap.size w W0 := (hB12.trans (q4.mono hB12.size)).trans (q5.mono (by have := hB12.size; omega))
  have hbw : w.heap.size ≤ b := by rw [← hbe]; exact hB1.size
  have hI0 : QcI w s K g b b2 0 W0 :=
    ⟨⟨((hr0.keptAll hB2).keptAll q4).keptAll q5, ((hA.keptAll hB2).keptAll q4).keptAll q5, (a0.keptAll q4).keptAll q5, a2.keptAll q5, by omega⟩, hB0, fun i hi => by omega⟩
  clear a0 a2 z4 q4 q5 hW0 hX4 hA hr0 hbe hB1 hbe2 hB2 hB12
  clear X4
  go_wp2_with fail
  refine (wpIn_wide (n := 3)).1 ?_
  refine range_tell (n := 3) (by decide) (gf := 47) (lb := #[.pointer (some ⟨b2 + 1, 0, none⟩), .pointer (some ⟨b2 + 1 + 1, 0, none⟩)]) rfl (enters_of Tryd.func47 (by kernel_rfl) rfl)
    (blocks_tell (3 - 1) (b2 + 1) (b2 + 1 + 1) s (by omega) 32 W0 a5 a6) (Below.refl _ _) (fun _ => rfl) KeepB.trans (fun W l r r' h1 h2 => keepB_b (w := W0) W l _ _ h1 h2 rfl rfl)
    (QcI w s K g b b2) (QcX w s) (qcI_own hB0.size) (fun c => qcX_own hB0.size c) hI0 (QcA w s K g b b2) (fun x a' => qcA_own x a') ?assign ?body ?done ?stop
  case assign =>
    intro l x W KK hx hI hKK
    obtain ⟨A, hA⟩ : ∃ A : Nat, Hid (A = 64 * x) := ⟨_, rfl⟩
    obtain ⟨L, hLt, hLl⟩ := arr64_list (cutF s (A : Int) 32)
    have hL1 := arr64_one _ hLt
    have hiL' : (Tryd.prog.info? 50).map (·.size) = some L.toArray.size := by rw [List.size_toArray, hLl]; exact info64
    have he : encB s 32 x = #[.int .i64 (A : Int), .agg L.toArray] := by rw [hLt, encB, show min x (blocksOf s) = x by omega, hA.out]
    rw [he]
    obtain ⟨hth, W2, hW2, hA2, hB2⟩ := laid64 W L hLl
    have hK2 := fun a' => hKK a' W2 ((keeps_below hB2).from _) (KeepB.of_below hB2) (qcI_kept hI hB2)
    have hgt : b2 + 3 ≤ W.heap.size := hI.1.2.2.2.2
    have hLH : Hid (L.toArray = arr64 (cutF s (A : Int) 32)) := hLt
    clear hKK hI hLt he
    gi_wp2_with (first | (refine wpListIn_store_want 50 _ _ (W.heap.size) 0 L.toArray hth hiL' (all_oneCell_toArray hL1) rfl rfl rfl (by rfl) ?_))
    exact ⟨W.heap.size, A, L, hA, hLH, hLl, hgt, hA2, rfl⟩
  case body =>
    rintro l j a' W hll ⟨rec, hrec⟩ hlt ⟨⟨h0, h1, h2, h3, hzW⟩, hB, hz⟩ ⟨gx, A, L, hA, hL, hLl, hgx, hAt, rfl⟩
    rw [hKb.out] at hlt
    have hL1 := arr64_one _ hL.out
    have hiL : (Tryd.prog.info? 50).map (·.size) = some L.length := by rw [hLl.out]; exact info64
    have hidx : (A : Int) / 64 = (j : Int) := by have := hA.out; omega
    have hjKi : (j : Int) < (K : Int) := by omega
    have hwJ : IntKind.i64.wrap (j : Int) = (j : Int) := by rw [IntKind.wrap_i64]; omega
    have hjc : (0 ≤ (j : Int) ∧ (j : Int) < (K : Int)) = True := by simp; omega
    obtain ⟨M, hM⟩ : ∃ M, Hid (ctlW s j = M) := ⟨_, rfl⟩
    have hMl : M < 18446744073709551616 := hM.out ▸ ctlW_lt s j
    have hEq : Hid (∀ w, Calls Tryd.prog 35 #[.agg L.toArray, .agg #[.int .u64 4294967295, .int .u64 0, .int .u64 0, .int .u64 0]] w fun e w' => e = .returned (.int .u64 (M : Int)) ∧ Below w.heap.size w w') := fun w => by
      rw [hL.out, ← ctlC_arr]
      exact mask_nat (cutF s (A : Int) 32) (fun i => cutF_lt s _ 32 (by decide) i) ctlC (cls_of _ _) M (by show _ = _; rw [← hM.out, ctlW, hA.out]) w
    obtain ⟨E, hE⟩ : ∃ E, Hid (rowOf (inS s) s.size j = E) := ⟨_, rfl⟩
    have hEl : E < 18446744073709551616 := hE.out ▸ rowOf_lt _ _ _
    obtain ⟨F, hF⟩ : ∃ F, Hid (M &&& E = F) := ⟨_, rfl⟩
    have hFl : F < 18446744073709551616 := hF.out ▸ Nat.lt_of_le_of_lt Nat.and_le_left hMl
    have hand : bits BinOp.and IntKind.u64 (M : Int) (E : Int) = (F : Int) := by rw [bits_and_u64_nat M E hMl hEl, hF.out]
    have hFr : Hid (ctlW s j &&& rowOf (inS s) s.size j = F) := by show _ = _; rw [← hF.out, ← hM.out, ← hE.out]
    have hkeep : Hid (∀ W', Below W.heap.size W W' → W'.cell? ⟨b, 0, none⟩ = some (.slice (some ⟨g, 0, none⟩) K K) ∧ (W'.cell? ⟨b2, 0, none⟩ = some (.int .u64 4294967295) ∧ W'.cell? ⟨b2, 1, none⟩ = some (.int .u64 0) ∧ W'.cell? ⟨b2, 2, none⟩ = some (.int .u64 0) ∧ W'.cell? ⟨b2, 3, none⟩ = some (.int .u64 0)) ∧ W'.cell? ⟨g, j, none⟩ = some (.int .u64 (E : Int)) ∧ W'.rangeAt gx 0 L) := fun W' hb =>
      ⟨(h2.keptAll hb).cell 0, ⟨(h3.keptAll hb).cell 0, (h3.keptAll hb).cell 1, (h3.keptAll hb).cell 2, (h3.keptAll hb).cell 3⟩, by have := (h1.keptAll hb).cell j; rw [rowCells_get _ hlt, hE.out] at this; exact this, (hAt.keptAll hb).range rfl⟩
    have hS0 := hkeep.out W.drew (Below.refl _ _).drew
    have hAj : Hid (64 * j < 281474976710656 ∧ A = 64 * j) := by have := hA.out; have := hKs'.out; exact ⟨by omega, by omega⟩
    have hAl : A < 281474976710656 := by have := hAj.out; omega
    have t0 := hid h0
    have t1 := hid h1
    have t2 := hid h2
    have t3 := hid h3
    have hTW := hid (fun (W' : World) (hb : Below W.heap.size W W') => hT'.out.below (hB.trans (hb.mono hB.size)) hw0)
    clear h0 h1 h2 h3 hA hL hLl hAt hM hE hF
    gi_wp2_with fail
    refine wpIn_region_round (S := fun W' => W'.cell? ⟨b, 0, none⟩ = some (.slice (some ⟨g, 0, none⟩) K K) ∧ (W'.cell? ⟨b2, 0, none⟩ = some (.int .u64 4294967295) ∧ W'.cell? ⟨b2, 1, none⟩ = some (.int .u64 0) ∧ W'.cell? ⟨b2, 2, none⟩ = some (.int .u64 0) ∧ W'.cell? ⟨b2, 3, none⟩ = some (.int .u64 0)) ∧ W'.cell? ⟨g, j, none⟩ = some (.int .u64 (E : Int)) ∧ W'.rangeAt gx 0 L) (by kernel_rfl) (by kernel_rfl) (fun _ _ h => h) hS0 (fun hHeld => ?_)
    (refine wpAnyH_take (i := 0) (v := .agg L.toArray) rfl (by kernel_rfl) (by kernel_rfl) (by kernel_rfl) (fun _ _ _ h => h) (yieldsIf_load_mid (by rfl) 50 _ rfl (gx) 0 rfl L _ (fun wq hq => hq.2.2.2) Tryd.underlying50 rfl hiL) (by assumption) ?_; simp only [Act.put, List.getElem_toArray, List.getElem_cons_zero, List.setIfInBounds_toArray, List.set_cons_zero, List.set_cons_succ])
    (refine' wpAnyH_take (i := 1) rfl (by kernel_rfl) (by kernel_rfl) (by kernel_rfl) (fun _ _ _ h => h) (Or.inl ⟨by rfl, ?_⟩) (by assumption) ?_; rotate_left; (· (intro wq hq; (try dsimp only at hq); go_simp; first | done | with_reducible rfl)); simp only [Act.put, List.getElem_toArray, List.getElem_cons_zero, List.getElem_cons_succ, List.setIfInBounds_toArray, List.set_cons_zero, List.set_cons_succ])
    (refine' wpAnyH_take (i := 3) rfl (by kernel_rfl) (by kernel_rfl) (by kernel_rfl) (fun _ _ _ h => h) (Or.inl ⟨by rfl, ?_⟩) (by assumption) ?_; rotate_left; (· (intro wq hq; (try dsimp only at hq); go_simp; first | done | with_reducible rfl)); simp only [Act.put, List.getElem_toArray, List.getElem_cons_zero, List.getElem_cons_succ, List.setIfInBounds_toArray, List.set_cons_zero, List.set_cons_succ])
    (refine' wpAnyH_take (i := 4) rfl (by kernel_rfl) (by kernel_rfl) (by kernel_rfl) (fun _ _ _ h => h) (Or.inl ⟨by rfl, ?_⟩) (by assumption) ?_; rotate_left; (· (intro wq hq; (try dsimp only at hq); go_simp; first | done | with_reducible rfl)); simp only [Act.put, List.getElem_toArray, List.getElem_cons_zero, List.getElem_cons_succ, List.setIfInBounds_toArray, List.set_cons_zero, List.set_cons_succ])
    (refine' wpAnyH_take (i := 5) rfl (by kernel_rfl) (by kernel_rfl) (by kernel_rfl) (fun _ _ _ h => h) (Or.inl ⟨by rfl, ?_⟩) (by assumption) ?_; rotate_left; (· (intro wq hq; (try dsimp only at hq); go_simp; first | done | with_reducible rfl)); simp only [Act.put, List.getElem_toArray, List.getElem_cons_zero, List.getElem_cons_succ, List.setIfInBounds_toArray, List.set_cons_zero, List.set_cons_succ])
    (refine' wpAnyH_take (i := 6) rfl (by kernel_rfl) (by kernel_rfl) (by kernel_rfl) (fun _ _ _ h => h) (Or.inl ⟨by rfl, ?_⟩) (by assumption) ?_; rotate_left; (· (intro wq hq; (try dsimp only at hq); go_simp; first | done | with_reducible rfl)); simp only [Act.put, List.getElem_toArray, List.getElem_cons_zero, List.getElem_cons_succ, List.setIfInBounds_toArray, List.set_cons_zero, List.set_cons_succ])
    (refine' wpAnyH_take (i := 7) rfl (by kernel_rfl) (by kernel_rfl) (by kernel_rfl) (fun _ _ _ h => h) (Or.inl ⟨by rfl, ?_⟩) (by assumption) ?_; rotate_left; (· (intro wq hq; (try dsimp only at hq); go_simp; first | done | with_reducible rfl)); simp only [Act.put, List.getElem_toArray, List.getElem_cons_zero, List.getElem_cons_succ, List.setIfInBounds_toArray, List.set_cons_zero, List.set_cons_succ])
    refine wpAnyH_ready (rs := [2]) (by kernel_rfl) (by simp) ?_
    refine AllReadyH.cons rfl (fun K hK => ?_) ?_
    · rw [if_pos (by rfl)]
      go_simp
      refine (hEq.out _).mono ?_
      rintro e wq ⟨rfl, hbq⟩
      have hb1 : Below W.heap.size W wq := (Below.refl _ W).drew.trans hbq
      refine hK.out _ _ (hkeep.out _ hb1) (fun hH => ?_)
      clear hK K
      (refine' wpAnyH_take (i := 8) rfl (by kernel_rfl) (by kernel_rfl) (by kernel_rfl) (fun _ _ _ h => h) (Or.inl ⟨by rfl, ?_⟩) (by assumption) ?_; rotate_left; (· (intro wq hq; (try dsimp only at hq); go_simp; first | done | with_reducible rfl)); simp only [Act.put, List.getElem_toArray, List.getElem_cons_zero, List.getElem_cons_succ, List.setIfInBounds_toArray, List.set_cons_zero, List.set_cons_succ])
      (refine' wpAnyH_take (i := 9) rfl (by kernel_rfl) (by kernel_rfl) (by kernel_rfl) (fun _ _ _ h => h) (Or.inl ⟨by rfl, ?_⟩) (by assumption) ?_; rotate_left; (· (intro wq hq; (try dsimp only at hq); go_simp; first | done | with_reducible rfl)); simp only [Act.put, List.getElem_toArray, List.getElem_cons_zero, List.getElem_cons_succ, List.setIfInBounds_toArray, List.set_cons_zero, List.set_cons_succ])
      refine wpAnyH_done (by kernel_rfl) ?_ _
      rename_i Kz hKz
      refine hKz _ _ ?_
      clear hKz Kz hH hHeld hS0 hEq hjc hkeep hnf
      by_cases hF0 : F = 0
      · subst hF0
        gi_wp2
        exact ⟨(keeps_below hb1).from _, KeepB.of_below hb1, ⟨t0.out.keptAll hb1, t1.out.keptAll hb1, t2.out.keptAll hb1, t3.out.keptAll hb1, Nat.le_trans hzW hb1.size⟩, hB.trans (hb1.mono hB.size), fnd_none hFr.out hz.out⟩
      · obtain ⟨q, hq, hsel, hqn, hctl⟩ := fnd_some hFr.out hF0 hz.out
        have hF0i : ((F : Int) != 0) = true := by simp; exact hF0
        have hsc := hid (select_calls F 0 q hFl hsel wq (hTW.out _ hb1) (Nat.lt_of_lt_of_le (by omega) hb1.size))
        have hctl' : Hid (IsCtl s ((A : Int) + (q : Int))) := by
          have := hAj.out
          show IsCtl s _
          rw [show (A : Int) + (q : Int) = ((64 * j + q : Nat) : Int) by omega]
          exact hctl
        have r0 := t0.out.keptAll hb1
        have hBq := hB.trans (hb1.mono hB.size)
        clear hctl hsel hFr hand hF0 hidx
        gi_wp2_with fail
        refine ⟨trivial, ?_⟩
        refine (CallsIn.inRound l (callsIn_wide.2 hsc.out)).mono ?_
        rintro e w3 ⟨rfl, hb3⟩
        have r3 := r0.keptAll hb3
        have c3 := r3.cell 0
        have f3 := r3.frozen 0
        simp only [List.getElem?_toArray, List.getElem?_cons_zero] at c3
        have hB3 := hBq.trans (hb3.mono hBq.size)
        have hk3 := (keeps_below hb1).trans (keeps_below hb3)
        have hqi : (q : Int) < 64 := by omega
        clear hsc r0
        gi_wp2
        exact ⟨(hk3.trans (KeepsOthers.setCell _ _ _)).from _, rfl, _, r3.set 0 _, hctl', hB3.setCell (p := ⟨w.heap.size, 0, none⟩) (Nat.le_refl _) _⟩
    · exact AllReadyH.nil
  case done =>
    rintro D W hD ⟨⟨h0, -, -, -, hzW⟩, hB, hz⟩ hKD
    rw [hKb.out] at hz
    obtain rfl : C = -1 := hC.out.uniq (.inr ⟨rfl, fun i hi => hz.out i (by have := hKs'.out; omega)⟩)
    have c0 := h0.cell 0
    have f0 := h0.frozen 0
    simp only [List.getElem?_toArray, List.getElem?_cons_zero] at c0
    have hB2 := hB.setCell (p := ⟨w.heap.size, 0, none⟩) (Nat.le_refl _) (.int .i64 (-1))
    have hK' : (W.setCell ⟨w.heap.size, 0, none⟩ (.int .i64 (-1))).heap[D]? = some (.deferred (some [])) := (Below.heap_setCell W ⟨w.heap.size, 0, none⟩ _ D (by show D ≠ w.heap.size; omega)).trans hKD
    rename_i Kz hKz
    clear hI0 hnf hz hC
    refine hKz _ _ ?_
    go_wp2
    refine ⟨by simp, .inl ⟨_, _, rfl, run_takeDeferred hK', ?_⟩⟩
    have hc5 := cell_kept (World.cell?_setCell_same' W ⟨w.heap.size, 0, none⟩ (.int .i64 (-1)) (by rw [c0]; rfl)) (grownBy_putObj' _ D (.deferred none)) (fun r e => by cases e; exact ⟨_, hK', rfl⟩)
    refine ⟨.int .i64 (-1), ?_, rfl, hB2.trans (belowK_b (w := w) (Nat.le_refl _) _ D _ _ (by omega) hK' rfl rfl)⟩
    simp [results, Tryd.f17, go_sem, hc5]
  case stop =>
    rintro D c r W hD - ⟨rfl, C', h0, hX, hB⟩ hK
    obtain rfl : C' = C := hX.out.uniq hC.out
    have c5 := h0.cell 0
    simp only [List.getElem?_toArray, List.getElem?_cons_zero] at c5
    gi_wp2
    refine ⟨by simp, .inl ⟨_, _, rfl, run_takeDeferred hK, ?_⟩⟩
    have hc5 := cell_kept c5 (grownBy_putObj' _ D (.deferred none)) (fun r e => by cases e; exact ⟨_, hK, rfl⟩)
    refine ⟨.int .i64 C', ?_, rfl, hB.trans (belowK_b (w := w) (Nat.le_refl _) _ D _ _ (by omega) hK rfl rfl)⟩
    simp [results, Tryd.f17, go_sem, hc5]
theorem controlQ_calls (s : ByteArray) (hs : s.size ≤ 281474976710656) (C : Int) (hC : Hid (IsCtl s C)) (w : World) (hT : Tab w) (hw0 : 0 < w.heap.size) :
    Calls Tryd.prog 17 #[.string s] w fun e w' => e = .returned (.int .i64 C) ∧ Below w.heap.size w w' := callsIn_wide.1 (control_in s hs C hC w hT hw0)
end Go.Proofs.YtmjmcdoanolelaaDoor
