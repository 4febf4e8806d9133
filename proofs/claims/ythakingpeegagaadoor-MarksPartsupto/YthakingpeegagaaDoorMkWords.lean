/-
  What marks.Words tells.
-/
import Derived.Test.YthakingpeegagaaDoorMkBlanks
import Derived.Test.YthakingpeegagaaDoorTellF
import Derived.Scope
namespace Go.Proofs.YthakingpeegagaaDoor
open Go.RowKit Go.Shelf

attribute [local go_sem] Oper.semAt_some

/-! Where words begin and end. -/
/-- Does a word begin or end there? -/
def turnS (s : ByteArray) (i : Nat) : Bool := wordS s i ^^ (decide (0 < i) && wordS s (i - 1))
/-- The turns of the block j, as a word. -/
def trX (s : ByteArray) (j : Nat) : Nat := ptV s j 2 ^^^ ((ptV s j 2 * 2 % 18446744073709551616) ||| cyS s j)
theorem trX_lt (s : ByteArray) (j : Nat) : trX s j < 18446744073709551616 := Nat.xor_lt_two_pow (n := 64) (ptV_lt s j 2) (ahead_lt s j)
theorem trX_bit (s : ByteArray) (i : Nat) : bitAt (trX s) i = turnS s i := by
  have h := bitAt_word (trX s) (i / 64) (i % 64) (Nat.mod_lt _ (by decide))
  rw [show 64 * (i / 64) + i % 64 = i by omega] at h
  rw [h]
  unfold trX
  rw [Nat.testBit_xor, word_test s _ _ (Nat.mod_lt _ (by decide)), ahead_bit s _ _ (Nat.mod_lt _ (by decide)), show 64 * (i / 64) + i % 64 = i by omega]
  rfl
/-- All turns, one behind the other. -/
def trT (s : ByteArray) : List Nat := placesB (trX s) (64 * (need s.size + 1))
/-- The one behind which r turns lie; are they odd in number? -/
def frT (T : List Nat) (r : Nat) : Nat := if r = 0 then 0 else T.getD (r - 1) 0
def wiT (r : Nat) : Bool := decide (r % 2 = 1)
/-- What is told of the word number r. -/
def encW (T : List Nat) (r : Nat) : Array Value := #[.agg #[.int .i64 ((T.getD (2 * r) 0 : Nat) : Int), .int .i64 ((T.getD (2 * r + 1) 0 : Nat) : Int)]]
/-- The iterator's row of parts lies there. -/
def PtsAt (W : World) (s : ByteArray) (Bl g cap : Nat) (cur : Array Value) : Prop :=
  At W Bl #[.slice (some ⟨g, 0, none⟩) (need s.size + 1) cap] 64 ∧ At W g cur 67 ∧ ∀ c, c < (need s.size + 1) * 5 → cur[c]? = some (.int .u64 ((ptZ s c : Nat) : Int))
theorem pts_cell {W : World} {g : Nat} {s : ByteArray} {cur : Array Value} {n j f : Nat} (hA : At W g cur 67) (hc : ∀ c, c < n * 5 → cur[c]? = some (.int .u64 ((ptZ s c : Nat) : Int))) (hj : j < n) (hf : f < 5) : W.cell? ⟨g, j * 5 + f, none⟩ = some (.int .u64 ((ptV s j f : Nat) : Int)) := by
  rw [hA.cell, hc _ (by omega), ptZ, show (j * 5 + f) / 5 = j by omega, show (j * 5 + f) % 5 = f by omega]
theorem frT_at (s : ByteArray) {j r : Nat} (hj : j < need s.size + 1) (hr : r < (places (trX s j)).length) : (trT s).getD ((placesB (trX s) (64 * j)).length + r) 0 = 64 * j + plc (trX s j) r % 64 := plB_at (trX s) hj hr

/-- Between two rounds of the inner range: r turns of this block are gone. -/
def WdI (W w2 : World) (s : ByteArray) (J : Nat → World → Prop) (M j g : Nat) (cur : Array Value) (jb : Nat) (ds : List Deferred) (l : Nat) (r : Nat) (Wz : World) : Prop :=
  J ((M + r) / 2) Wz ∧ At Wz W.heap.size #[.func (.yield l) #[] #[]] 68 ∧ At Wz (W.heap.size + 1) #[.int .i64 ((frT (trT s) (M + r) : Nat) : Int)] 3 ∧ At Wz (W.heap.size + 1 + 1) #[.bool (wiT (M + r))] 4 ∧ At Wz jb #[.int .i64 (j : Int)] 3 ∧ At Wz g cur 67 ∧ Tab Wz ∧ w2.heap.size ≤ Wz.heap.size ∧ Marks W.heap.size jb ds Wz
theorem wdI_own {W w2 : World} {s : ByteArray} {J : Nat → World → Prop} {M j g jb l B : Nat} {cur : Array Value} {ds : List Deferred} (hJ : FreeFrom W.heap.size J) (hB : W.heap.size ≤ B) (hU : jb ≤ B) (h0 : 0 < B) : OwnFrom B (WdI W w2 s J M j g cur jb ds l) := fun t Y Z row ⟨h1, h2, h3, h4, h5, h6, h7, h8, h9⟩ hg hr => by
  have hr' := fun r e => (hr r e).2
  refine ⟨hJ _ Y Z row h1 hg (fun r e => Nat.le_trans hB (hr r e).1), h2.own hg hr', h3.own hg hr', h4.own hg hr', h5.own hg hr', h6.own hg hr', fun j hj => ?_, Nat.le_trans h8 hg.size, h9.own hg (fun r e => Nat.le_trans hU (hr r e).1)⟩
  have hc := h7 j hj
  have h0' : (0 : Nat) < Y.heap.size := cell_block hc
  exact (World.cell?_of_block (w := Y) (hg.block 0 h0' (fun e => by have := (hr 0 e.symm).1; omega))).trans hc
/-- The two variables are laid anew. -/
theorem wd_close0 {W w2 Wz Wy : World} {s : ByteArray} {J : Nat → World → Prop} {M j g jb l n0 r P F : Nat} {b nb : Bool} {cur : Array Value} {ds : List Deferred} (hJ : FreeFrom W.heap.size J) (hjb : W.heap.size + 1 + 1 + 1 ≤ jb) (hgb : g < W.heap.size) (hfn : frT (trT s) (M + r + 1) = P) (hwn : wiT (M + r + 1) = nb)
    (hk : HeldT n0 W.heap.size g Wz Wy) (ay : At Wy W.heap.size #[.func (.yield l) #[] #[]] 68) (af : At Wy (W.heap.size + 1) #[.int .i64 (F : Int)] 3) (an : At Wy (W.heap.size + 1 + 1) #[.bool b] 4) (aj : At Wy jb #[.int .i64 (j : Int)] 3) (ag : At Wy g cur 67) (hT : Tab Wz) (hz : w2.heap.size ≤ Wz.heap.size) (hm : Marks W.heap.size jb ds Wy) (hJn : J ((M + (r + 1)) / 2) Wy) (h0 : 0 < n0) (hw2 : W.heap.size ≤ w2.heap.size) :
    KeepsFrom w2.heap.size Wz ((Wy.setCell ⟨W.heap.size + 1, 0, none⟩ (.int .i64 (P : Int))).setCell ⟨W.heap.size + 1 + 1, 0, none⟩ (.bool nb)) ∧ KeepTab Wz ((Wy.setCell ⟨W.heap.size + 1, 0, none⟩ (.int .i64 (P : Int))).setCell ⟨W.heap.size + 1 + 1, 0, none⟩ (.bool nb)) ∧ WdI W w2 s J M j g cur jb ds l (r + 1) ((Wy.setCell ⟨W.heap.size + 1, 0, none⟩ (.int .i64 (P : Int))).setCell ⟨W.heap.size + 1 + 1, 0, none⟩ (.bool nb)) := by
  have hbs : Below (W.heap.size + 1) Wy ((Wy.setCell ⟨W.heap.size + 1, 0, none⟩ (.int .i64 (P : Int))).setCell ⟨W.heap.size + 1 + 1, 0, none⟩ (.bool nb)) := ((Below.refl _ _).setCell (p := ⟨W.heap.size + 1, 0, none⟩) (Nat.le_refl _) _).setCell (p := ⟨W.heap.size + 1 + 1, 0, none⟩) (Nat.le_succ _) _
  have hTy : Tab Wy := hT.below hk.1 h0
  have a1 := an.other (p := ⟨W.heap.size + 1, 0, none⟩) (by show W.heap.size + 1 + 1 ≠ W.heap.size + 1; omega) (.int .i64 (P : Int))
  have hT' : Tab ((Wy.setCell ⟨W.heap.size + 1, 0, none⟩ (.int .i64 (P : Int))).setCell ⟨W.heap.size + 1 + 1, 0, none⟩ (.bool nb)) := hTy.below hbs (by omega)
  refine ⟨((hk.from hw2).trans ((KeepsOthers.setCell _ _ _).from _)).trans ((KeepsOthers.setCell _ _ _).from _), fun _ => hT', ?_, (ay.other (p := ⟨W.heap.size + 1, 0, none⟩) (by show W.heap.size ≠ W.heap.size + 1; omega) _).other (p := ⟨W.heap.size + 1 + 1, 0, none⟩) (by show W.heap.size ≠ W.heap.size + 1 + 1; omega) _, ?_, ?_, (aj.other (p := ⟨W.heap.size + 1, 0, none⟩) (by show jb ≠ W.heap.size + 1; omega) _).other (p := ⟨W.heap.size + 1 + 1, 0, none⟩) (by show jb ≠ W.heap.size + 1 + 1; omega) _, (ag.other (p := ⟨W.heap.size + 1, 0, none⟩) (by show g ≠ W.heap.size + 1; omega) _).other (p := ⟨W.heap.size + 1 + 1, 0, none⟩) (by show g ≠ W.heap.size + 1 + 1; omega) _, hT', Nat.le_trans hz (Nat.le_trans hk.2.1 hbs.size), marks_set (marks_set hm af _) a1 _⟩
  · exact hJ _ _ _ (some (W.heap.size + 1 + 1)) (hJ _ _ _ (some (W.heap.size + 1)) hJn (grownBy_setCell' _ _ _) (fun r e => by cases e; omega)) (grownBy_setCell' _ _ _) (fun r e => by cases e; omega)
  · have h := (af.set 0 (.int .i64 (P : Int))).other (p := ⟨W.heap.size + 1 + 1, 0, none⟩) (by show W.heap.size + 1 ≠ W.heap.size + 1 + 1; omega) (.bool nb)
    rw [← Nat.add_assoc, hfn]
    simpa using h
  · have h := a1.set 0 (.bool nb)
    rw [← Nat.add_assoc, hwn]
    simpa using h
theorem wd_close {W w2 Wz Wy : World} {s : ByteArray} {J : Nat → World → Prop} {M j g jb l n0 r P F : Nat} {b nb : Bool} {cur : Array Value} {ds : List Deferred} (hJ : FreeFrom W.heap.size J) (hjb : W.heap.size + 1 + 1 + 1 ≤ jb) (hgb : g < W.heap.size) (hfn : frT (trT s) (M + r + 1) = P) (hwn : wiT (M + r + 1) = nb)
    (hk : HeldT n0 W.heap.size g Wz Wy) (ay : At Wy W.heap.size #[.func (.yield l) #[] #[]] 68) (af : At Wy (W.heap.size + 1) #[.int .i64 (F : Int)] 3) (an : At Wy (W.heap.size + 1 + 1) #[.bool b] 4) (aj : At Wy jb #[.int .i64 (j : Int)] 3) (ag : At Wy g cur 67) (hT : Tab Wz) (hz : w2.heap.size ≤ Wz.heap.size) (hm : Marks W.heap.size jb ds Wy) (hJn : J ((M + (r + 1)) / 2) Wy) (h0 : 0 < n0) (hw2 : W.heap.size ≤ w2.heap.size) :
    KeepsFrom w2.heap.size Wz ((Wy.setCell ⟨W.heap.size + 1, 0, none⟩ (.int .i64 (P : Int))).setCell ⟨W.heap.size + 1 + 1, 0, none⟩ (.bool nb)).drew ∧ KeepTab Wz ((Wy.setCell ⟨W.heap.size + 1, 0, none⟩ (.int .i64 (P : Int))).setCell ⟨W.heap.size + 1 + 1, 0, none⟩ (.bool nb)).drew ∧ WdI W w2 s J M j g cur jb ds l (r + 1) ((Wy.setCell ⟨W.heap.size + 1, 0, none⟩ (.int .i64 (P : Int))).setCell ⟨W.heap.size + 1 + 1, 0, none⟩ (.bool nb)).drew := by
  obtain ⟨h1, h2, h3, h4, h5, h6, h7, h8, h9, h10, h11⟩ := wd_close0 hJ hjb hgb hfn hwn hk ay af an aj ag hT hz hm hJn h0 hw2
  exact ⟨⟨h1.1, h1.2⟩, h2, hJ _ _ _ none h3 ⟨rfl, rfl, rfl, Nat.le_refl _, fun _ _ _ => rfl⟩ (fun r e => by cases e), h4, h5, h6, h7, h8, h9, h10, h11.of (fun _ _ _ _ => rfl)⟩

set_option maxRecDepth 100000 in
set_option maxHeartbeats 4000000 in
theorem words1_t (n : Nat) (hn : 1 ≤ n) (l Bl n0 g cap : Nat) (s : ByteArray) (hs : s.size ≤ 1099511627776) (cur : Array Value) (h0 : 0 < n0) (J Jx : Nat → World → Prop) (W : World) (hn0 : n0 ≤ W.heap.size)
    (hJ : FreeFrom W.heap.size J) (hJx : FreeFrom W.heap.size Jx)
    (hY : ∀ r W1, J r W1 → r < (trT s).length / 2 → YieldAt Fence.wide (n - 1) Tryd.prog l (encW (trT s) r) W1 fun e W' =>
      (e = .returned (.bool true) ∧ J (r + 1) W' ∧ HeldS (fun _ _ => True) n0 W.heap.size g W1 W') ∨ (e = .returned (.bool false) ∧ Jx (r + 1) W' ∧ HeldS (fun _ _ => True) n0 W.heap.size g W1 W'))
    (hT : Tab W) (hP : PtsAt W s Bl g cap cur) (hJ0 : J 0 W) :
    CallsIn Fence.wide n Tryd.prog 32 #[.func (.yield l) #[] #[], .pointer (some ⟨Bl, 0, none⟩)] W fun e W' => (∃ v, e = .returned v) ∧
      (J ((trT s).length / 2) W' ∨ ∃ r, r ≤ (trT s).length / 2 ∧ Jx r W') := by
  obtain ⟨K, hK⟩ : ∃ K, Hid (need s.size + 1 = K) := ⟨_, rfl⟩
  have hKl : K ≤ 17179869186 := by have := hK.out; unfold need at this; omega
  obtain ⟨al, ag, hcur⟩ := hP
  rw [hK.out] at al hcur
  have gl := ag.lt
  have cl := al.cell 0
  simp only [List.getElem?_toArray, List.getElem?_cons_zero] at cl
  have all := al.lt
  refine callsIn_of_wp_marks Tryd.func32 rfl trivial ?_ rfl
  simp only [Tryd.ntmps32, List.size_toArray, List.length_cons, List.length_nil, Nat.reduceAdd, Nat.reduceSub, Array.replicate_succ, Array.replicate_zero, List.push_toArray, List.append_toArray, List.nil_append, List.cons_append]
  gi_wp2
  refine wpIn_wide.2 (wp_scope_straight ((wpIn_wide (n := n)).1 ?_))
  gi_wp2
  refine wpIn_label ?_
  rename_i Kl hKl'
  refine hKl' _ _ ?_
  clear hKl' Kl
  obtain ⟨X1, hX1⟩ : ∃ X1, X1 = (((W.alloc (.cells #[.func (.yield l) #[] #[]] 68)).alloc (.cells #[.int .i64 0] 3)).alloc (.cells #[.bool false] 4)) := ⟨_, rfl⟩
  have b1 : Below W.heap.size W X1 := by rw [hX1]; repeat (first | with_reducible exact Below.refl _ _ | with_reducible refine Below.setCell ?_ (by first | (simp; done) | (simp; omega)) _ | with_reducible refine below_drewN ?_ _ | with_reducible refine Below.alloc ?_ (by first | (simp; done) | (simp; omega)) _ | with_reducible refine Below.drew ?_)
  have z1 : X1.heap.size = W.heap.size + 1 + 1 + 1 := by rw [hX1]; simp
  have a0 : At X1 W.heap.size #[.func (.yield l) #[] #[]] 68 := by rw [hX1]; exact ((At.new W _ _).alloc _).alloc _
  have a1 : At X1 (W.heap.size + 1) #[.int .i64 0] 3 := by
    have h := (At.new (W.alloc (.cells #[.func (.yield l) #[] #[]] 68)) #[.int .i64 0] 3).alloc (.cells #[.bool false] 4)
    rw [hX1]; simpa using h
  have a2 : At X1 (W.heap.size + 1 + 1) #[.bool false] 4 := by
    have h := At.new ((W.alloc (.cells #[.func (.yield l) #[] #[]] 68)).alloc (.cells #[.int .i64 0] 3)) #[.bool false] 4
    rw [hX1]; simpa using h
  have hT1 : Tab X1 := hT.below b1 (by omega)
  have hJ1 : J 0 X1 := by rw [hX1]; exact hJ.own.alloc _ (hJ.own.alloc _ (hJ.own.alloc _ hJ0))
  have g1 := ag.keptAll b1
  have cl1 := (al.keptAll b1).cell 0
  simp only [List.getElem?_toArray, List.getElem?_cons_zero] at cl1
  have hKH := hid hK.out
  rw [← hX1]
  clear hX1 b1 al ag cl hT hJ0
  gi_wp2
  obtain ⟨M0, hM0⟩ : ∃ M0, M0 = fun j => (placesB (trX s) (64 * j)).length := ⟨_, rfl⟩
  refine wpIn_loop (fun a Wi => ∃ (j : Nat) (ds : List Deferred) (u6 u7 u8 u13 u14 u15 u16 u17 u18 u19 u20 u21 u22 u23 u24 u25 u26 u27 u28 u29 u49 : Value), a = { tmps := #[.func (.yield l) #[] #[], .pointer (some ⟨Bl, 0, none⟩), .pointer (some ⟨W.heap.size, 0, none⟩), .pointer (some ⟨W.heap.size + 1, 0, none⟩), .pointer (some ⟨W.heap.size + 1 + 1, 0, none⟩), .int .u64 ((cyS s j : Nat) : Int), u6, u7, u8, undef, .slice (some ⟨g, 0, none⟩) K cap, .int .i64 (K : Int), .int .i64 (j : Int), u13, u14, u15, u16, u17, u18, u19, u20, u21, u22, u23, u24, u25, u26, u27, u28, u29, undef, undef, undef, undef, undef, undef, undef, undef, undef, undef, undef, undef, undef, undef, undef, undef, undef, undef, undef, u49], defers := ds } ∧
      j ≤ K ∧ J (M0 j / 2) Wi ∧ At Wi W.heap.size #[.func (.yield l) #[] #[]] 68 ∧ At Wi (W.heap.size + 1) #[.int .i64 ((frT (trT s) (M0 j) : Nat) : Int)] 3 ∧ At Wi (W.heap.size + 1 + 1) #[.bool (wiT (M0 j))] 4 ∧ At Wi g cur 67 ∧ Tab Wi ∧ W.heap.size + 1 + 1 + 1 ≤ Wi.heap.size ∧ Marks W.heap.size Wi.heap.size ds Wi) (fun a _ => K - (intOf (a.tmps.getD 12 undef)).toNat) ?_ ?_
  · have hz : M0 0 = 0 := by rw [hM0]; rfl
    refine ⟨0, [], undef, undef, undef, undef, undef, undef, undef, undef, undef, undef, undef, undef, undef, undef, undef, undef, undef, undef, undef, undef, undef, rfl, Nat.zero_le _, ?_, a0, ?_, ?_, g1, hT1, by omega, trivial⟩
    · rw [hz]; exact hJ1
    · rw [hz]; exact a1
    · rw [hz]; exact a2
  rintro a Wi ⟨j, ds, u6, u7, u8, u13, u14, u15, u16, u17, u18, u19, u20, u21, u22, u23, u24, u25, u26, u27, u28, u29, u49, rfl, hj, hJi, ay, af, an, ag, hTi, hzi, hmi⟩
  by_cases hlt : j < K
  · have hji : (j : Int) < (K : Int) := by omega
    have c0 := pts_cell ag hcur hlt (f := 0) (by omega)
    have c1 := pts_cell ag hcur hlt (f := 1) (by omega)
    have c2 := pts_cell ag hcur hlt (f := 2) (by omega)
    have c3 := pts_cell ag hcur hlt (f := 3) (by omega)
    have c4 := pts_cell ag hcur hlt (f := 4) (by omega)
    obtain ⟨P0, hP0⟩ : ∃ P, Hid (ptV s j 0 = P) := ⟨_, rfl⟩
    obtain ⟨P1, hP1⟩ : ∃ P, Hid (ptV s j 1 = P) := ⟨_, rfl⟩
    obtain ⟨P2, hP2⟩ : ∃ P, Hid (ptV s j 2 = P) := ⟨_, rfl⟩
    obtain ⟨P3, hP3⟩ : ∃ P, Hid (ptV s j 3 = P) := ⟨_, rfl⟩
    obtain ⟨P4, hP4⟩ : ∃ P, Hid (ptV s j 4 = P) := ⟨_, rfl⟩
    rw [Nat.add_zero, hP0.out] at c0
    rw [hP1.out] at c1
    rw [hP2.out] at c2
    rw [hP3.out] at c3
    rw [hP4.out] at c4
    have hP2l : P2 < 18446744073709551616 := hP2.out ▸ ptV_lt s j 2
    obtain ⟨C, hC⟩ : ∃ C, Hid (cyS s j = C) := ⟨_, rfl⟩
    obtain ⟨C', hC'⟩ : ∃ C, Hid (cyS s (j + 1) = C) := ⟨_, rfl⟩
    have hCl : C < 18446744073709551616 := Nat.lt_of_le_of_lt (hC.out ▸ cyS_le s j) (by decide)
    obtain ⟨D, hD⟩ : ∃ D, Hid (P2 * 2 % 18446744073709551616 = D) := ⟨_, rfl⟩
    have hDl : D < 18446744073709551616 := by have := hD.out; omega
    obtain ⟨E, hE⟩ : ∃ E, Hid (D ||| C = E) := ⟨_, rfl⟩
    have hEl : E < 18446744073709551616 := by have := ahead_lt s j; rw [hP2.out, hC.out, hD.out, hE.out] at this; exact this
    obtain ⟨x, hx⟩ : ∃ x, Hid (P2 ^^^ E = x) := ⟨_, rfl⟩
    have hxX : Hid (trX s j = x) := by show _ = _; unfold trX; rw [hP2.out, hC.out, hD.out, hE.out, hx.out]
    have lx : x < 18446744073709551616 := hxX.out ▸ trX_lt s j
    have q1 : IntKind.u64.wrap ((P2 : Int) * 2) = (D : Int) := by rw [IntKind.wrap_u64, ← hD.out]; omega
    have q2 : bits BinOp.or IntKind.u64 (D : Int) (C : Int) = (E : Int) := by rw [u64_or_nat D C hDl hCl, hE.out]
    have q3 : bits BinOp.xor IntKind.u64 (P2 : Int) (E : Int) = (x : Int) := by rw [bits_xor_nat P2 E hP2l hEl, hx.out]
    have q4 : (P2 : Int) / 9223372036854775808 = (C' : Int) := by have := cy_next s j; rw [hP2.out, hC'.out] at this; omega
    have gli := ag.lt
    have hJi' := hid hJi
    have ay' := hid ay
    have af' := hid af
    have an' := hid an
    have ag' := hid ag
    have hTi' := hid hTi
    have hmi' := hid hmi
    rw [hC.out]
    clear hJi ay af an ag hTi hmi hP0 hP1 hP2 hP3 hP4 hC hD hE hx hP2l hCl hDl hEl
    gi_wp2_with fail
    refine ⟨trivial, ?_⟩
    refine (callsIn_wide.2 (each_calls x _)).mono ?_
    rintro e w2 ⟨rfl, hw2⟩
    have aj : At w2 Wi.heap.size #[.int .i64 (j : Int)] 3 := by rw [hw2]; exact ((At.new Wi _ _).alloc _).alloc _
    have ax : At w2 (Wi.heap.size + 1 + 1) #[.int .u64 (x : Int)] 58 := by
      have h := At.new ((Wi.alloc (.cells #[.int .i64 (j : Int)] 3)).alloc (.cells #[.int .u64 (P0 : Int), .int .u64 (P1 : Int), .int .u64 (P2 : Int), .int .u64 (P3 : Int), .int .u64 (P4 : Int)] 67)) #[.int .u64 (x : Int)] 58
      rw [hw2]; simpa using h
    have hbw : Below Wi.heap.size Wi w2 := by rw [hw2]; repeat (first | with_reducible exact Below.refl _ _ | with_reducible refine Below.setCell ?_ (by first | (simp; done) | (simp; omega)) _ | with_reducible refine below_drewN ?_ _ | with_reducible refine Below.alloc ?_ (by first | (simp; done) | (simp; omega)) _ | with_reducible refine Below.drew ?_)
    have hzw : w2.heap.size = Wi.heap.size + 1 + 1 + 1 := by rw [hw2]; simp
    have hJw : J (M0 j / 2) w2 := by rw [hw2]; exact hJ.own.alloc _ (hJ.own.alloc _ (hJ.own.alloc _ hJi'.out))
    have hTw : Tab w2 := hTi'.out.below hbw (by omega)
    have hmw : Marks W.heap.size Wi.heap.size ds w2 := hmi'.out.below hbw (Nat.le_refl _)
    obtain ⟨M, hM⟩ : ∃ M, M0 j = M := ⟨_, rfl⟩
    have hMe : (placesB (trX s) (64 * j)).length = M := by rw [← hM, hM0]
    have hnx : Hid (M0 (j + 1) = M + (places x).length) := by show _ = _; rw [hM0]; show (placesB (trX s) (64 * (j + 1))).length = _; rw [plB_next, hxX.out, hMe]
    have hlen : Hid (M + (places x).length ≤ (trT s).length) := by have := plB_len (trX s) hlt; rw [hxX.out, hMe, ← hKH.out] at this; exact this
    have hat : Hid (∀ r, r < (places x).length → (trT s).getD (M + r) 0 = 64 * j + plc x r % 64) := fun r hr => by
      have := frT_at s (j := j) (r := r) (by rw [hKH.out]; exact hlt) (by rw [hxX.out]; exact hr)
      rw [hMe, hxX.out] at this
      exact this
    rw [hM] at hJw af' an'
    have hI0 : WdI W w2 s J M j g cur Wi.heap.size ds l 0 w2 := ⟨hJw, ay'.out.keptAll hbw, af'.out.keptAll hbw, an'.out.keptAll hbw, aj, ag'.out.keptAll hbw, hTw, Nat.le_refl _, hmw⟩
    have hjb : W.heap.size + 1 + 1 + 1 ≤ Wi.heap.size := hzi
    have hgb : g < W.heap.size := gl
    clear hw2 c0 c1 c2 c3 c4 hJw aj hmw hJi' ay' af' an' ag' hTi'
    gi_wp2_with fail
    refine range_tell (n := n) hn (gf := 52) (lb := #[.pointer (some ⟨Wi.heap.size + 1 + 1, 0, none⟩)]) rfl (enters_of Tryd.func52 (by kernel_rfl) rfl)
      (each_tell (n - 1) (Wi.heap.size + 1 + 1) x lx w2 (by omega) hTw ax) (Below.refl _ _) (fun _ => rfl) KeepTab.trans (keepTab_b (by omega))
      (WdI W w2 s J M j g cur Wi.heap.size ds l) (fun c r Wz => c = .exit 0 ∧ Jx ((M + r) / 2) Wz ∧ Marks W.heap.size Wi.heap.size ds Wz) (wdI_own hJ (by omega) (by omega) (by omega))
      (fun c t Y Z row ⟨h1, h2, h3⟩ hg hr => ⟨h1, hJx _ Y Z row h2 hg (fun r e => by have := (hr r e).1; omega), h3.own hg (fun r e => by have := (hr r e).1; omega)⟩) hI0
      (fun r a' _ => ∃ q : Nat, Hid (q = plc x r % 64) ∧ a' = { tmps := #[.func (.yield l) #[] #[], .pointer (some ⟨Bl, 0, none⟩), .pointer (some ⟨W.heap.size, 0, none⟩), .pointer (some ⟨W.heap.size + 1, 0, none⟩), .pointer (some ⟨W.heap.size + 1 + 1, 0, none⟩), .int .u64 (C' : Int), .pointer (some ⟨Wi.heap.size, 0, none⟩), .pointer (some ⟨Wi.heap.size + 1, 0, none⟩), .int .u64 (x : Int), .int .i64 (q : Int), .slice (some ⟨g, 0, none⟩) K cap, .int .i64 (K : Int), .int .i64 (j : Int), .bool true, .int .i64 (j : Int), .pointer (some ⟨g, j * 5, none⟩), .agg #[.int .u64 (P0 : Int), .int .u64 (P1 : Int), .int .u64 (P2 : Int), .int .u64 (P3 : Int), .int .u64 (P4 : Int)], .pointer (some ⟨Wi.heap.size + 1, 2, none⟩), .int .u64 (P2 : Int), .pointer (some ⟨Wi.heap.size + 1, 2, none⟩), .int .u64 (P2 : Int), .int .u64 (D : Int), .int .u64 (C : Int), .int .u64 (E : Int), .int .u64 (x : Int), .pointer (some ⟨Wi.heap.size + 1, 2, none⟩), .int .u64 (P2 : Int), .int .u64 (C' : Int), .int .u64 (x : Int), .func (.func 52) #[] #[.pointer (some ⟨Wi.heap.size + 1 + 1, 0, none⟩)], .int .i64 (q : Int), undef, undef, undef, undef, undef, undef, undef, undef, undef, undef, undef, undef, undef, undef, undef, undef, undef, undef, u49], defers := [] })
      (fun _ _ _ _ _ _ hs _ _ => hs) ?assign ?body ?done ?stop
    case assign =>
      intro l2 r Wz KK hr hI hKK
      obtain ⟨q, hq⟩ : ∃ q, Hid (q = plc x r % 64) := ⟨_, rfl⟩
      rw [encP, encE, ← hq.out]
      have hK' := fun a' => hKK a' Wz (KeepsFrom.refl _ _) (fun h => h) hI
      clear hKK
      gi_wp2
      exact ⟨q, hq, rfl⟩
    case body =>
      rintro l2 r a' Wz hll ⟨rec, hrec⟩ hr ⟨hJz, ay, af, an, aj, ag, hTz, hzz, hmz⟩ ⟨q, hq, rfl⟩
      have hq64 : q < 64 := by rw [hq.out]; exact Nat.mod_lt _ (by decide)
      have hv : (trT s).getD (M + r) 0 = 64 * j + q := by rw [hat.out r hr, hq.out]
      have hlr : Hid (M + r < (trT s).length) := by have := hlen.out; show _ < _; omega
      obtain ⟨P, hP⟩ : ∃ P, Hid (64 * j + q = P) := ⟨_, rfl⟩
      rw [hP.out] at hv
      have hfn : Hid (frT (trT s) (M + r + 1) = P) := by show _ = _; unfold frT; rw [if_neg (by omega), Nat.add_sub_cancel, hv]
      have ew : IntKind.i64.wrap (64 * (j : Int)) = 64 * (j : Int) := by rw [IntKind.wrap_i64]; omega
      have eP : 64 * (j : Int) + (q : Int) = (P : Int) := by have := hP.out; omega
      have ewP : IntKind.i64.wrap (P : Int) = (P : Int) := by rw [IntKind.wrap_i64]; have := hP.out; omega
      obtain ⟨F, hF⟩ : ∃ F, Hid (frT (trT s) (M + r) = F) := ⟨_, rfl⟩
      rw [hF.out] at af
      have hTz' := hid hTz
      have hv' := hid hv
      have hmz' := hid hmz
      clear hq hP hI0 hv hTz hmz
      by_cases hodd : (M + r) % 2 = 1
      · have hwi : wiT (M + r) = true := decide_eq_true hodd
        rw [hwi] at an
        have hwn : Hid (wiT (M + r + 1) = false) := decide_eq_false (by omega)
        obtain ⟨k, hk⟩ : ∃ k, M + r = 2 * k + 1 := ⟨(M + r) / 2, by omega⟩
        rw [show (M + r) / 2 = k by omega] at hJz
        obtain ⟨fn, tmps, assign, body, hy, hRd⟩ := hY k Wz hJz (by have := hlr.out; omega)
        have hFk : (trT s).getD (2 * k) 0 = F := by have := hF.out; unfold frT at this; rw [if_neg (by omega), hk, Nat.add_sub_cancel] at this; exact this
        rw [show encW (trT s) k = #[.agg #[.int .i64 (F : Int), .int .i64 (P : Int)]] by rw [encW, hFk, ← hk, hv'.out]] at hy
        have cy := ay.cell 0
        have cf := af.cell 0
        have cn := an.cell 0
        have cj := aj.cell 0
        simp only [List.getElem?_toArray, List.getElem?_cons_zero] at cy cf cn cj
        have hk2 : Hid ((M + (r + 1)) / 2 = k + 1) := by show _ = _; omega
        have t1 := hid ay
        have t2 := hid af
        have t3 := hid an
        have t4 := hid aj
        have t5 := hid ag
        clear hY ay af an aj ag hJz hFk hF
        gi_wp2_with fail
        refine ⟨(fun h => by cases h), ?_⟩
        refine (RoundIn.inRound l2 (roundIn_any hRd)).mono ?_
        rintro e W3 (⟨rfl, hJ3, hk3⟩ | ⟨rfl, hJx3, hk3⟩)
        · have ayy := hid (hk3.2.2.2 _ _ _ (.inl (Nat.le_refl _)) trivial t1.out).1
          have afy := hid (hk3.2.2.2 _ _ _ (.inl (by omega)) trivial t2.out).1
          have any := hid (hk3.2.2.2 _ _ _ (.inl (by omega)) trivial t3.out).1
          have ajy := hid (hk3.2.2.2 _ _ _ (.inl (by omega)) trivial t4.out).1
          have agy := hid (hk3.2.2.2 _ _ _ (.inr rfl) trivial t5.out).1
          have hmy := hid (hmz'.out.heldS hk3 (Nat.le_refl _))
          have hJn := hid (show J ((M + (r + 1)) / 2) W3 by rw [hk2.out]; exact hJ3)
          have k1 := hid hk3
          clear hy hRd hrec hk3 cy cf cn cj t1 t2 t3 t4 t5 hJ3
          have hfin := hid (wd_close (s := s) (J := J) (M := M) (r := r) (hJ := hJ) hjb hgb hfn.out hwn.out k1.out ayy.out afy.out any.out ajy.out agy.out hTz'.out hzz hmy.out hJn.out h0 (by omega))
          have cj := ajy.out.cell 0
          have cn := any.out.cell 0
          have cf := afy.out.cell 0
          have ff := afy.out.frozen 0
          have fn := any.out.frozen 0
          simp only [List.getElem?_toArray, List.getElem?_cons_zero] at cj cn cf
          have ajh := ajy
          have s1 := hid (show ∀ v, (W3.setCell ⟨W.heap.size + 1, 0, none⟩ v).cell? ⟨Wi.heap.size, 0, none⟩ = some (.int .i64 (j : Int)) from fun v => (ajh.out.other (p := ⟨W.heap.size + 1, 0, none⟩) (by show Wi.heap.size ≠ W.heap.size + 1; omega) v).cell 0)
          have s2 := hid (show ∀ v u, ((W3.setCell ⟨W.heap.size + 1, 0, none⟩ v).setCell ⟨W.heap.size + 1 + 1, 0, none⟩ u).cell? ⟨Wi.heap.size, 0, none⟩ = some (.int .i64 (j : Int)) from fun v u => ((ajh.out.other (p := ⟨W.heap.size + 1, 0, none⟩) (by show Wi.heap.size ≠ W.heap.size + 1; omega) v).other (p := ⟨W.heap.size + 1 + 1, 0, none⟩) (by show Wi.heap.size ≠ W.heap.size + 1 + 1; omega) u).cell 0)
          have n1 := hid (show ∀ v, (W3.setCell ⟨W.heap.size + 1, 0, none⟩ v).cell? ⟨W.heap.size + 1 + 1, 0, none⟩ = some (.bool true) from fun v => (any.out.other (p := ⟨W.heap.size + 1, 0, none⟩) (by show W.heap.size + 1 + 1 ≠ W.heap.size + 1; omega) v).cell 0)
          clear ayy ajy agy afy any hmy hJn k1 ajh
          gi_wp2_with fail
          refine wpIn_region_round (S := fun W' => W'.cell? ⟨Wi.heap.size, 0, none⟩ = some (.int .i64 (j : Int))) (by kernel_rfl) (by kernel_rfl) (fun _ _ h => h) cj (fun hHeld => ?_)
          (refine' wpAnyH_take (i := 0) rfl (by kernel_rfl) (by kernel_rfl) (by kernel_rfl) (fun _ _ _ h => h) (Or.inl ⟨by rfl, ?_⟩) (by assumption) ?_; rotate_left; (· (intro wq hq; (try dsimp only at hq); go_simp; first | done | with_reducible rfl)); simp only [Act.put, List.getElem_toArray, List.getElem_cons_zero, List.setIfInBounds_toArray, List.set_cons_zero, List.set_cons_succ])
          (refine' wpAnyH_take (i := 1) rfl (by kernel_rfl) (by kernel_rfl) (by kernel_rfl) (fun _ _ _ h => h) (Or.inl ⟨by rfl, ?_⟩) (by assumption) ?_; rotate_left; (· (intro wq hq; (try dsimp only at hq); go_simp; first | done | with_reducible rfl)); simp only [Act.put, List.getElem_toArray, List.getElem_cons_zero, List.getElem_cons_succ, List.setIfInBounds_toArray, List.set_cons_zero, List.set_cons_succ])
          (refine' wpAnyH_take (i := 2) rfl (by kernel_rfl) (by kernel_rfl) (by kernel_rfl) (fun _ _ _ h => h) (Or.inl ⟨by rfl, ?_⟩) (by assumption) ?_; rotate_left; (· (intro wq hq; (try dsimp only at hq); go_simp; first | done | with_reducible rfl)); simp only [Act.put, List.getElem_toArray, List.getElem_cons_zero, List.getElem_cons_succ, List.setIfInBounds_toArray, List.set_cons_zero, List.set_cons_succ])
          (refine' wpAnyH_take (i := 3) rfl (by kernel_rfl) (by kernel_rfl) (by kernel_rfl) (fun _ _ _ h => h) (Or.inl ⟨by rfl, ?_⟩) (by assumption) ?_; rotate_left; (· (intro wq hq; (try dsimp only at hq); go_simp; first | done | with_reducible rfl)); simp only [Act.put, List.getElem_toArray, List.getElem_cons_zero, List.getElem_cons_succ, List.setIfInBounds_toArray, List.set_cons_zero, List.set_cons_succ])
          refine wpAnyH_ready (rs := [4, 6]) (by kernel_rfl) (by simp) ?_
          refine AllReadyH.cons rfl (fun K hK => ?_) ?_
          · go_simp
            refine hK.out _ _ cj (fun hHa => ?_)
            clear hK K
            (refine' wpAnyH_take (i := 5) rfl (by kernel_rfl) (by kernel_rfl) (by kernel_rfl) (fun _ _ _ h => h) (Or.inl ⟨by rfl, ?_⟩) (by assumption) ?_; rotate_left; (· (intro wq hq; (try dsimp only at hq); go_simp; first | done | with_reducible rfl)); simp only [Act.put, List.getElem_toArray, List.getElem_cons_zero, List.getElem_cons_succ, List.setIfInBounds_toArray, List.set_cons_zero, List.set_cons_succ])
            refine wpAnyH_ready (rs := [6]) (by kernel_rfl) (by simp) ?_
            refine AllReadyH.cons rfl (fun K hK => ?_) ?_
            · go_simp
              refine hK.out _ _ (s1.out _) (fun hHb => ?_)
              clear hK K
              refine wpAnyH_ready (rs := [7]) (by kernel_rfl) (by simp) ?_
              refine AllReadyH.cons rfl (fun K hK => ?_) ?_
              · go_simp
                refine hK.out _ _ (s2.out _ _) (fun hHc => ?_)
                clear hK K
                refine wpAnyH_done (by kernel_rfl) ?_ _
                clear hHa hHb hHc hHeld
                change Exit.inBlock 3 _ Exit.normal _ _
                exact hfin.out
              · exact AllReadyH.nil
            · exact AllReadyH.nil
          · refine AllReadyH.cons rfl (fun K hK => ?_) ?_
            · go_simp
              refine hK.out _ _ (s1.out _) (fun hHa => ?_)
              clear hK K
              refine wpAnyH_ready (rs := [4]) (by kernel_rfl) (by simp) ?_
              refine AllReadyH.cons rfl (fun K hK => ?_) ?_
              · have n1' := n1.out (.int .i64 (P : Int))
                go_simp
                refine hK.out _ _ (s1.out _) (fun hHb => ?_)
                clear hK K
                (refine' wpAnyH_take (i := 5) rfl (by kernel_rfl) (by kernel_rfl) (by kernel_rfl) (fun _ _ _ h => h) (Or.inl ⟨by rfl, ?_⟩) (by assumption) ?_; rotate_left; (· (intro wq hq; (try dsimp only at hq); go_simp; first | done | with_reducible rfl)); simp only [Act.put, List.getElem_toArray, List.getElem_cons_zero, List.getElem_cons_succ, List.setIfInBounds_toArray, List.set_cons_zero, List.set_cons_succ])
                refine wpAnyH_ready (rs := [7]) (by kernel_rfl) (by simp) ?_
                refine AllReadyH.cons rfl (fun K hK => ?_) ?_
                · go_simp
                  refine hK.out _ _ (s2.out _ _) (fun hHc => ?_)
                  clear hK K
                  refine wpAnyH_done (by kernel_rfl) ?_ _
                  clear hHa hHb hHc hHeld
                  change Exit.inBlock 3 _ Exit.normal _ _
                  exact hfin.out
                · exact AllReadyH.nil
              · exact AllReadyH.nil
            · exact AllReadyH.nil
        · have kf : KeepsFrom w2.heap.size Wz W3 := hk3.from (by omega)
          have hm3 := hmz'.out.heldS hk3 (Nat.le_refl _)
          have hJn := hid (show Jx ((M + (r + 1)) / 2) W3 by rw [hk2.out]; exact hJx3)
          clear hy hRd hrec hk3 cy cf cn cj t1 t2 t3 t4 t5 hJx3
          gi_wp2
          exact ⟨kf, rfl, hJn.out, hm3⟩
      · have hwi : wiT (M + r) = false := decide_eq_false hodd
        rw [hwi] at an
        have hwn : Hid (wiT (M + r + 1) = true) := decide_eq_true (by omega)
        have cn0 := an.cell 0
        simp only [List.getElem?_toArray, List.getElem?_cons_zero] at cn0
        have ayy := hid ay
        have afy := hid af
        have any := hid an
        have ajy := hid aj
        have agy := hid ag
        have hmy := hmz'
        have hJn := hid (show J ((M + (r + 1)) / 2) Wz by rw [show (M + (r + 1)) / 2 = (M + r) / 2 by omega]; exact hJz)
        have k1 := hid (HeldT.refl n0 W.heap.size g Wz)
        clear hY ay af an aj ag hJz hrec hF
        have hfin := hid (wd_close (s := s) (J := J) (M := M) (r := r) (hJ := hJ) hjb hgb hfn.out hwn.out k1.out ayy.out afy.out any.out ajy.out agy.out hTz'.out hzz hmy.out hJn.out h0 (by omega))
        have cj := ajy.out.cell 0
        have cn := any.out.cell 0
        have cf := afy.out.cell 0
        have ff := afy.out.frozen 0
        have fn := any.out.frozen 0
        simp only [List.getElem?_toArray, List.getElem?_cons_zero] at cj cn cf
        have ajh := ajy
        have s1 := hid (show ∀ v, (Wz.setCell ⟨W.heap.size + 1, 0, none⟩ v).cell? ⟨Wi.heap.size, 0, none⟩ = some (.int .i64 (j : Int)) from fun v => (ajh.out.other (p := ⟨W.heap.size + 1, 0, none⟩) (by show Wi.heap.size ≠ W.heap.size + 1; omega) v).cell 0)
        have s2 := hid (show ∀ v u, ((Wz.setCell ⟨W.heap.size + 1, 0, none⟩ v).setCell ⟨W.heap.size + 1 + 1, 0, none⟩ u).cell? ⟨Wi.heap.size, 0, none⟩ = some (.int .i64 (j : Int)) from fun v u => ((ajh.out.other (p := ⟨W.heap.size + 1, 0, none⟩) (by show Wi.heap.size ≠ W.heap.size + 1; omega) v).other (p := ⟨W.heap.size + 1 + 1, 0, none⟩) (by show Wi.heap.size ≠ W.heap.size + 1 + 1; omega) u).cell 0)
        have n1 := hid (show ∀ v, (Wz.setCell ⟨W.heap.size + 1, 0, none⟩ v).cell? ⟨W.heap.size + 1 + 1, 0, none⟩ = some (.bool false) from fun v => (any.out.other (p := ⟨W.heap.size + 1, 0, none⟩) (by show W.heap.size + 1 + 1 ≠ W.heap.size + 1; omega) v).cell 0)
        clear ayy ajy agy afy any hmy hJn k1 ajh
        gi_wp2_with fail
        refine ⟨(fun _ h => by cases h), ?_⟩
        gi_wp2_with fail
        refine wpIn_region_round (S := fun W' => W'.cell? ⟨Wi.heap.size, 0, none⟩ = some (.int .i64 (j : Int))) (by kernel_rfl) (by kernel_rfl) (fun _ _ h => h) cj (fun hHeld => ?_)
        (refine' wpAnyH_take (i := 0) rfl (by kernel_rfl) (by kernel_rfl) (by kernel_rfl) (fun _ _ _ h => h) (Or.inl ⟨by rfl, ?_⟩) (by assumption) ?_; rotate_left; (· (intro wq hq; (try dsimp only at hq); go_simp; first | done | with_reducible rfl)); simp only [Act.put, List.getElem_toArray, List.getElem_cons_zero, List.setIfInBounds_toArray, List.set_cons_zero, List.set_cons_succ])
        (refine' wpAnyH_take (i := 1) rfl (by kernel_rfl) (by kernel_rfl) (by kernel_rfl) (fun _ _ _ h => h) (Or.inl ⟨by rfl, ?_⟩) (by assumption) ?_; rotate_left; (· (intro wq hq; (try dsimp only at hq); go_simp; first | done | with_reducible rfl)); simp only [Act.put, List.getElem_toArray, List.getElem_cons_zero, List.getElem_cons_succ, List.setIfInBounds_toArray, List.set_cons_zero, List.set_cons_succ])
        (refine' wpAnyH_take (i := 2) rfl (by kernel_rfl) (by kernel_rfl) (by kernel_rfl) (fun _ _ _ h => h) (Or.inl ⟨by rfl, ?_⟩) (by assumption) ?_; rotate_left; (· (intro wq hq; (try dsimp only at hq); go_simp; first | done | with_reducible rfl)); simp only [Act.put, List.getElem_toArray, List.getElem_cons_zero, List.getElem_cons_succ, List.setIfInBounds_toArray, List.set_cons_zero, List.set_cons_succ])
        (refine' wpAnyH_take (i := 3) rfl (by kernel_rfl) (by kernel_rfl) (by kernel_rfl) (fun _ _ _ h => h) (Or.inl ⟨by rfl, ?_⟩) (by assumption) ?_; rotate_left; (· (intro wq hq; (try dsimp only at hq); go_simp; first | done | with_reducible rfl)); simp only [Act.put, List.getElem_toArray, List.getElem_cons_zero, List.getElem_cons_succ, List.setIfInBounds_toArray, List.set_cons_zero, List.set_cons_succ])
        refine wpAnyH_ready (rs := [4, 6]) (by kernel_rfl) (by simp) ?_
        refine AllReadyH.cons rfl (fun K hK => ?_) ?_
        · go_simp
          refine hK.out _ _ cj (fun hHa => ?_)
          clear hK K
          (refine' wpAnyH_take (i := 5) rfl (by kernel_rfl) (by kernel_rfl) (by kernel_rfl) (fun _ _ _ h => h) (Or.inl ⟨by rfl, ?_⟩) (by assumption) ?_; rotate_left; (· (intro wq hq; (try dsimp only at hq); go_simp; first | done | with_reducible rfl)); simp only [Act.put, List.getElem_toArray, List.getElem_cons_zero, List.getElem_cons_succ, List.setIfInBounds_toArray, List.set_cons_zero, List.set_cons_succ])
          refine wpAnyH_ready (rs := [6]) (by kernel_rfl) (by simp) ?_
          refine AllReadyH.cons rfl (fun K hK => ?_) ?_
          · go_simp
            refine hK.out _ _ (s1.out _) (fun hHb => ?_)
            clear hK K
            refine wpAnyH_ready (rs := [7]) (by kernel_rfl) (by simp) ?_
            refine AllReadyH.cons rfl (fun K hK => ?_) ?_
            · go_simp
              refine hK.out _ _ (s2.out _ _) (fun hHc => ?_)
              clear hK K
              refine wpAnyH_done (by kernel_rfl) ?_ _
              clear hHa hHb hHc hHeld
              change Exit.inBlock 3 _ Exit.normal _ _
              exact hfin.out
            · exact AllReadyH.nil
          · exact AllReadyH.nil
        · refine AllReadyH.cons rfl (fun K hK => ?_) ?_
          · go_simp
            refine hK.out _ _ (s1.out _) (fun hHa => ?_)
            clear hK K
            refine wpAnyH_ready (rs := [4]) (by kernel_rfl) (by simp) ?_
            refine AllReadyH.cons rfl (fun K hK => ?_) ?_
            · have n1' := n1.out (.int .i64 (P : Int))
              go_simp
              refine hK.out _ _ (s1.out _) (fun hHb => ?_)
              clear hK K
              (refine' wpAnyH_take (i := 5) rfl (by kernel_rfl) (by kernel_rfl) (by kernel_rfl) (fun _ _ _ h => h) (Or.inl ⟨by rfl, ?_⟩) (by assumption) ?_; rotate_left; (· (intro wq hq; (try dsimp only at hq); go_simp; first | done | with_reducible rfl)); simp only [Act.put, List.getElem_toArray, List.getElem_cons_zero, List.getElem_cons_succ, List.setIfInBounds_toArray, List.set_cons_zero, List.set_cons_succ])
              refine wpAnyH_ready (rs := [7]) (by kernel_rfl) (by simp) ?_
              refine AllReadyH.cons rfl (fun K hK => ?_) ?_
              · go_simp
                refine hK.out _ _ (s2.out _ _) (fun hHc => ?_)
                clear hK K
                refine wpAnyH_done (by kernel_rfl) ?_ _
                clear hHa hHb hHc hHeld
                change Exit.inBlock 3 _ Exit.normal _ _
                exact hfin.out
              · exact AllReadyH.nil
            · exact AllReadyH.nil
          · exact AllReadyH.nil
    case done =>
      rintro D2 Wz hD2 ⟨hJz, ay, af, an, -, ag, hTz, hzz, hmz⟩ hKD
      have hDl := (Array.getElem?_eq_some_iff.1 hKD).1
      have hmn : Hid (Marks W.heap.size Wz.heap.size ({ target := .collected D2, args := #[] } :: ds) Wz) := ⟨D2, rfl, by omega, hDl, hKD, hmz.up (by omega)⟩
      rw [← hnx.out] at hJz af an
      clear hmz hI0 hY
      gi_wp2
      refine ⟨⟨j + 1, _, _, _, _, _, _, _, _, _, _, _, _, _, _, _, _, _, _, _, _, _, _, by rw [hC'.out, show (((j + 1 : Nat)) : Int) = (j : Int) + 1 by simp], by omega, hJz, ay, af, an, ag, hTz, by omega, hmn.out⟩, ?_⟩
      simp [intOf]; omega
    case stop =>
      rintro D2 c r Wz hD2 hr ⟨rfl, hX', hmz⟩ hKD
      have hmn : Marks W.heap.size (D2 + 1) ({ target := .collected D2, args := #[] } :: ds) Wz := ⟨D2, rfl, by omega, by omega, hKD, hmz.up (by omega)⟩
      have hrl : Hid ((M + r) / 2 ≤ (trT s).length / 2) := by have := hlen.out; show _ ≤ _; omega
      clear hY
      gi_wp2
      exact leaves_marks (s := (M + r) / 2) hJx.own (fun W' hj => ⟨_, results_none rfl _ _ _, ⟨_, rfl⟩, .inr ⟨_, hrl.out, hj⟩⟩) _ _ _ hmn hX'
  · obtain rfl : j = K := by omega
    have hMT : Hid (M0 j = (trT s).length) := by show _ = _; rw [hM0]; show (placesB (trX s) (64 * j)).length = _; rw [trT, hKH.out]
    rw [hMT.out] at hJi
    clear hY
    gi_wp2
    exact leaves_marks (s := (trT s).length / 2) hJ.own (fun W' hj => ⟨_, results_none rfl _ _ _, ⟨_, rfl⟩, .inl hj⟩) _ _ _ hmi hJi
end Go.Proofs.YthakingpeegagaaDoor
