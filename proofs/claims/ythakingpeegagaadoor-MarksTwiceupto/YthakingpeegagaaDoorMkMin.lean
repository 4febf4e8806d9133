/-
  What marks.Minify answers.
-/
import Derived.Test.YthakingpeegagaaDoorMkBlanks
import Derived.Test.YthakingpeegagaaDoorMinMath
import Derived.Test.YthakingpeegagaaDoorTellG
import Derived.Test.YthakingpeegagaaDoorBld
namespace Go.Proofs.YthakingpeegagaaDoor
open Go.RowKit Go.Shelf

attribute [local go_sem] Oper.semAt_some

/-! The blanks, one behind the other. -/
/-- Behind the one ahead of the number r. -/
def frL (L : List Nat) (r : Nat) : Nat := if r = 0 then 0 else L.getD (r - 1) 0 + 1
theorem frL_app {L : List Nat} {r x : Nat} (h : r ≤ L.length) : frL (L ++ [x]) r = frL L r := by
  unfold frL
  by_cases h0 : r = 0
  · rw [if_pos h0, if_pos h0]
  · rw [if_neg h0, if_neg h0]
    simp [List.getD, List.getElem?_append, show r - 1 < L.length by omega]
theorem fil_spec (p : Nat → Bool) (n : Nat) : (∀ r, r < ((List.range n).filter p).length → frL ((List.range n).filter p) r ≤ ((List.range n).filter p).getD r 0 ∧ ((List.range n).filter p).getD r 0 < n ∧ p (((List.range n).filter p).getD r 0) = true ∧ ∀ i, frL ((List.range n).filter p) r ≤ i → i < ((List.range n).filter p).getD r 0 → p i = false) ∧
    frL ((List.range n).filter p) ((List.range n).filter p).length ≤ n ∧ ∀ i, frL ((List.range n).filter p) ((List.range n).filter p).length ≤ i → i < n → p i = false := by
  induction n with
  | zero => exact ⟨fun r hr => by simp at hr, by simp [frL], fun i _ hi => by omega⟩
  | succ n ih =>
    obtain ⟨hA, hB, hC⟩ := ih
    cases hp : p n
    · have e : (List.range (n + 1)).filter p = (List.range n).filter p := by simp [List.range_succ, hp]
      rw [e]
      refine ⟨fun r hr => ?_, by omega, fun i h1 h2 => ?_⟩
      · obtain ⟨h1, h2, h3, h4⟩ := hA r hr
        exact ⟨h1, by omega, h3, h4⟩
      · by_cases hi : i = n
        · rw [hi, hp]
        · exact hC i h1 (by omega)
    · have e : (List.range (n + 1)).filter p = (List.range n).filter p ++ [n] := by simp [List.range_succ, hp]
      rw [e]
      generalize (List.range n).filter p = L at *
      refine ⟨fun r hr => ?_, ?_, fun i h1 h2 => ?_⟩
      · rw [List.length_append] at hr
        simp only [List.length_cons, List.length_nil] at hr
        rw [frL_app (by omega)]
        by_cases hl : r < L.length
        · obtain ⟨h1, h2, h3, h4⟩ := hA r hl
          have eg : (L ++ [n]).getD r 0 = L.getD r 0 := by simp [List.getD, List.getElem?_append, hl]
          rw [eg]
          exact ⟨h1, by omega, h3, h4⟩
        · obtain rfl : r = L.length := by omega
          have eg : (L ++ [n]).getD L.length 0 = n := by simp [List.getD]
          rw [eg]
          exact ⟨hB, by omega, hp, hC⟩
      · rw [List.length_append]
        simp [frL, List.getD]
      · rw [List.length_append] at h1
        simp [frL, List.getD] at h1
        omega
theorem minL_run (s : ByteArray) (a d : Nat) (hd : a + d ≤ s.size) (h : ∀ i, a ≤ i → i < a + d → blankS s i = false) : minL s (a + d) = minL s a ++ (s.extract a (a + d)).data.toList := by
  induction d with
  | zero => simp
  | succ d ih =>
    rw [← Nat.add_assoc, minL_f (h (a + d) (by omega) (by omega)), ih (by omega) (fun i h1 h2 => h i h1 (by omega)), List.append_assoc]
    congr 1
    rw [ByteArray.data_extract, ByteArray.data_extract, Array.toList_extract, Array.toList_extract]
    have hl : a + d < s.data.toList.length := by rw [Array.length_toList]; show a + d < s.size; omega
    simp only [List.extract]
    rw [show a + d + 1 - a = (a + d - a) + 1 by omega, List.take_add_one, List.getElem?_drop, show a + (a + d - a) = a + d by omega, List.getElem?_eq_getElem hl]
    simp [Array.getElem?_eq_getElem (show a + d < s.data.size by show a + d < s.size; omega)]

theorem heldB_put {m n0 b g l : Nat} {W : World} {r r' : Loop} (hn : n0 ≤ l) (hl : l < b) (hg : g ≠ l) (hm : m ≠ l) (h : W.heap[l]? = some (.loop r)) : HeldS (SafeB m) n0 b g W (W.putObj l (.loop r')) := by
  have oth : ∀ k, k ≠ l → (W.putObj l (.loop r')).heap[k]? = W.heap[k]? := fun k hk => World.putObj_heap_other hk
  have hgr := grownBy_putObj' W l (.loop r')
  refine ⟨(Below.refl n0 W).grown hgr (by have := (Array.getElem?_eq_some_iff.1 h).1; omega) (fun b e => by cases e; exact hn), hgr.size, fun k o hk hc ho => (oth k (by omega)).trans ho, fun c cs t hc hs ha => ?_⟩
  have hcl : c ≠ l := by rcases hc with h | h <;> omega
  obtain ⟨p, v, h1, h2⟩ := hs
  exact ⟨(oth c hcl).trans ha, p, v, (oth m hm).trans h1, h2⟩
theorem heldB_set {m n0 b g q : Nat} {W : World} (x : Value) (hn : n0 ≤ q) (hq : q < b) (hg : g ≠ q) (hm : m ≠ q) : HeldS (SafeB m) n0 b g W (W.setCell ⟨q, 0, none⟩ x) := by
  refine ⟨(Below.refl n0 W).setCell (p := ⟨q, 0, none⟩) hn _, (KeepsOthers.setCell W ⟨q, 0, none⟩ x).1, fun k o hk hc ho => (Below.heap_setCell W ⟨q, 0, none⟩ x k (by show k ≠ q; omega)).trans ho, fun c cs t hc hs ha => ?_⟩
  have hcq : c ≠ q := by rcases hc with h | h <;> omega
  obtain ⟨p, v, h1, h2⟩ := hs
  exact ⟨ha.other (p := ⟨q, 0, none⟩) hcq x, p, v, h1.other (p := ⟨q, 0, none⟩) hm x, h2⟩

/-- Between two rounds. -/
def MnI (w W0 : World) (s : ByteArray) (L : List Nat) (r : Nat) (Wz : World) : Prop :=
  BdI Wz (w.heap.size + 1) W0.heap.size (minL s (frL L r)) ∧ At Wz w.heap.size #[.string s] 9 ∧ At Wz (w.heap.size + 1 + 1) #[.int .i64 ((frL L r : Nat) : Int)] 3 ∧ Below w.heap.size w Wz ∧ W0.heap.size ≤ Wz.heap.size
theorem mnI_own {w W0 : World} {s : ByteArray} {L : List Nat} {B : Nat} (hB : w.heap.size ≤ B) : OwnFrom B (MnI w W0 s L) := fun t Y Z row ⟨h1, h2, h3, h4, h5⟩ hg hr => by
  have hr' := fun r e => (hr r e).2
  exact ⟨h1.own hg hr', h2.own hg hr', h3.own hg hr', ownFrom_below (β := List Nat) (Nat.le_refl w.heap.size) hB [] Y Z row h4 hg hr, Nat.le_trans h5 hg.size⟩

set_option maxRecDepth 100000 in
set_option maxHeartbeats 4000000 in
theorem minify_in (s : ByteArray) (hs : s.size ≤ 70368744177664) (w : World) (hT : Tab w) (hM : TabM w) (hw0 : 1 < w.heap.size) :
    CallsIn Fence.wide 4 Tryd.prog 17 #[.string s] w fun e w' => e = .returned (.string (minS s)) ∧ Below w.heap.size w w' := by
  have hnf : ∀ (f : Fn) (a b : Array Value) (w : World), Sem.run Tryd.prog (binOp BinOp.eql 71 (.func f a b) .nilFunc) w = .ok (.bool false) w := fun _ _ _ _ => by rfl
  have hbk := hid (fun (w1 : World) (hb : Below w.heap.size w w1) => blanks8_calls s (by omega) w1 (hT.below hb (by omega)) (hM.below hb hw0) (by have := hb.size; omega))
  have hn := hid (wf_size (n := s.size) (by omega))
  have hT' := hid hT
  clear hT hM
  refine callsIn_of_wp_marks Tryd.func17 rfl trivial ?_ rfl
  simp only [Tryd.ntmps17, List.size_toArray, List.length_cons, List.length_nil, Nat.reduceAdd, Nat.reduceSub, Array.replicate_succ, Array.replicate_zero, List.push_toArray, List.append_toArray, List.nil_append, List.cons_append]
  gi_wp2_with fail
  refine ⟨trivial, ?_⟩
  refine (callsIn_wide.2 (hbk.out _ (by repeat (first | with_reducible exact Below.refl _ _ | with_reducible refine Below.setCell ?_ (by first | (simp; done) | (simp; omega)) _ | with_reducible refine below_drewN ?_ _ | with_reducible refine Below.alloc ?_ (by first | (simp; done) | (simp; omega)) _ | with_reducible refine Below.drew ?_)))).mono ?_
  rintro e w1 ⟨g1, hg1, rfl, hA, hb1⟩
  have s0 : At w1 w.heap.size #[.string s] 9 := ((((At.new w _ _).alloc _).alloc _).keptAll hb1)
  have m0 : At w1 (w.heap.size + 1) #[.pointer none, .slice none 0 0] 76 := by
    have h := ((At.new (w.alloc (.cells #[.string s] 9)) #[.pointer none, .slice none 0 0] 76).alloc (.cells #[.int .i64 0] 3)).keptAll (by exact hb1)
    simpa using h
  have f0 : At w1 (w.heap.size + 1 + 1) #[.int .i64 0] 3 := by
    have h := (At.new ((w.alloc (.cells #[.string s] 9)).alloc (.cells #[.pointer none, .slice none 0 0] 76)) #[.int .i64 0] 3).keptAll (by exact hb1)
    simpa using h
  have hB1 : Below w.heap.size w w1 := Below.trans (by repeat (first | with_reducible exact Below.refl _ _ | with_reducible refine Below.setCell ?_ (by first | (simp; done) | (simp; omega)) _ | with_reducible refine below_drewN ?_ _ | with_reducible refine Below.alloc ?_ (by first | (simp; done) | (simp; omega)) _ | with_reducible refine Below.drew ?_)) (hb1.mono (by simp; try omega))
  have hec := hid (eachB_calls (s.size : Int) (some ⟨g1, 0, none⟩) (need s.size) (need s.size) (rowOf (blankS s) s.size) s.size hn.out (by unfold need; omega) (fun e => by cases e) (hid (.inl ⟨rowOf_formed _ _, by simp⟩)) w1 (hA.wds (fun _ _ => rowOf_lt _ _ _) (Nat.le_refl _)))
  unfold bv at hec
  clear hbk hb1 hA hg1
  gi_wp2_with fail
  refine ⟨trivial, ?_⟩
  refine (callsIn_wide.2 hec.out).mono ?_
  rintro e W0 ⟨Bl, g, rfl, hBl, hg, hSq, hb2⟩
  have hB0 : Below w.heap.size w W0 := hB1.trans (hb2.mono hB1.size)
  have hTW := hT'.out.below hB0 (by omega)
  obtain ⟨L, hL⟩ : ∃ L, Hid (placesB (rowOf (blankS s) s.size) s.size = L) := ⟨_, rfl⟩
  rw [hL.out] at hSq
  have hz := fil_spec (bitAt (rowOf (blankS s) s.size)) s.size
  rw [show (List.range s.size).filter (bitAt (rowOf (blankS s) s.size)) = L from hL.out] at hz
  have hbit : ∀ i, i < s.size → bitAt (rowOf (blankS s) s.size) i = blankS s i := fun i hi => by rw [rowOf_bit, decide_eq_true hi]; rfl
  have hA := hid (show ∀ r, r < L.length → frL L r ≤ L.getD r 0 ∧ L.getD r 0 < s.size ∧ minL s (L.getD r 0 + 1) = minL s (frL L r) ++ (s.extract (frL L r) (L.getD r 0)).data.toList by
    intro r hr
    obtain ⟨h1, h2, h3, h4⟩ := hz.1 r hr
    refine ⟨h1, h2, ?_⟩
    rw [minL_t ((hbit _ h2).symm.trans h3)]
    obtain ⟨d, hd⟩ : ∃ d, L.getD r 0 = frL L r + d := ⟨L.getD r 0 - frL L r, by omega⟩
    rw [hd]
    exact minL_run s _ d (by omega) (fun i a b => (hbit i (by omega)).symm.trans (h4 i a (by omega))))
  have hE := hid (show frL L L.length ≤ s.size ∧ minL s s.size = minL s (frL L L.length) ++ (s.extract (frL L L.length) s.size).data.toList by
    obtain ⟨-, h2, h3⟩ := hz
    refine ⟨h2, ?_⟩
    obtain ⟨d, hd⟩ : ∃ d, s.size = frL L L.length + d := ⟨s.size - frL L L.length, by omega⟩
    have h := minL_run s (frL L L.length) d (by omega) (fun i a b => (hbit i (by omega)).symm.trans (h3 i a (by omega)))
    rw [← hd] at h
    exact h)
  have hI0 : MnI w W0 s L 0 W0 := ⟨⟨.pointer none, .slice none 0 0, m0.keptAll hb2, .inl rfl, World.ownsRow_nil _ _ _ _⟩, s0.keptAll hb2, f0.keptAll hb2, hB0, Nat.le_refl _⟩
  have hW0s := (hI0.2.2.1).lt
  obtain ⟨gl, hgl⟩ : ∃ u, Hid (g < W0.heap.size) := by
    obtain ⟨ao, k, cap, cur, ty, Y, -, q2, -⟩ := hSq
    exact ⟨(), q2.lt⟩
  have hgW := hgl.out
  have z1 := f0.lt
  clear hz hec s0 m0 f0 hb2 hL hbit
  gi_wp2_with fail
  refine range_tellG (n := 4) (by decide) (gf := 55) (lb := #[.pointer (some ⟨Bl, 0, none⟩)]) rfl (enters_of Tryd.func55 (by kernel_rfl) rfl)
    (seqB_tellG (SafeB (w.heap.size + 1)) (4 - 1) (by decide) Bl g w.heap.size L W0 hSq hTW (by omega) hB0.size (fun m => safeB_own _ m)) (Below.refl _ _) (fun _ => rfl) HeldS.trans
    (fun W l r r' h1 h2 h3 => heldB_put (by omega) h2 (by omega) (by omega) h3) (MnI w W0 s L) (fun _ _ _ => False) (mnI_own hB0.size) (fun _ _ _ _ _ h _ _ => h) hI0 (fun r W h => h.1.good hgW)
    (fun r a' _ => ∃ A : Nat, Hid (A = L.getD r 0) ∧ a' = { tmps := #[.string s, .pointer (some ⟨w.heap.size, 0, none⟩), .string ⟨#[]⟩, .pointer (some ⟨w.heap.size + 1, 0, none⟩), .pointer (some ⟨w.heap.size + 1 + 1, 0, none⟩), .int .i64 (A : Int), .string s, .agg #[.int .i64 (s.size : Int), .slice (some ⟨g1, 0, none⟩) (need s.size) (need s.size)], .func (.func 55) #[] #[.pointer (some ⟨Bl, 0, none⟩)], .int .i64 (A : Int), undef, undef, undef, undef, undef, undef, undef, undef, undef, undef, undef, undef], defers := [] })
    (fun _ _ _ _ _ _ hs _ _ => hs) ?assign ?body ?done ?stop
  case assign =>
    intro l2 r Wz KK hr hI hKK
    obtain ⟨A, hA'⟩ : ∃ A : Nat, Hid (A = L.getD r 0) := ⟨_, rfl⟩
    rw [encN, ← hA'.out]
    have hK' := fun a' => hKK a' Wz (KeepsFrom.refl _ _) ⟨Below.refl _ _, Nat.le_refl _, fun _ _ _ _ h => h, fun _ _ _ _ hs ha => ⟨ha, hs⟩⟩ hI
    have hAH := hid hA'.out
    clear hKK hA hE
    generalize L.getD r 0 = x at *
    gi_wp2
    exact ⟨A, hAH, rfl⟩
  case body =>
    rintro l2 r a' Wz hll ⟨rec, hrec⟩ hr ⟨hBd, asz, afz, hBz, hzz⟩ ⟨A, hA', rfl⟩
    obtain ⟨q1, q2, q3⟩ := hA.out r hr
    rw [← hA'.out] at q1 q2 q3
    obtain ⟨F, hF⟩ : ∃ F, Hid (frL L r = F) := ⟨_, rfl⟩
    have hFn : Hid (frL L (r + 1) = A + 1) := by show _ = _; unfold frL; rw [if_neg (by omega), Nat.add_sub_cancel, hA'.out]
    rw [hF.out] at q1 q3 afz hBd
    have cs := asz.cell 0
    have cf := afz.cell 0
    have ff := afz.frozen 0
    simp only [List.getElem?_toArray, List.getElem?_cons_zero] at cs cf
    have q1i : (F : Int) ≤ (A : Int) := by omega
    have q2i : (A : Int) < (s.size : Int) := by omega
    have q2j : (A : Int) ≤ (s.size : Int) := by omega
    have hsi : (s.size : Int) ≤ 70368744177664 := by omega
    obtain ⟨T, hTe⟩ : ∃ T, Hid (s.extract F A = T) := ⟨_, rfl⟩
    rw [hTe.out] at q3
    have hTz : T.size = A - F := by rw [← hTe.out, ByteArray.size_extract]; omega
    have hml : (minL s F).length ≤ F := by rw [minL_len]; exact jS_le s F
    have hwr := hid (bwrite_calls (w.heap.size + 1) W0.heap.size (minL s F) T (by omega) (by omega) Wz hBd hzz)
    have asz' := hid asz
    have afz' := hid afz
    have hBz' := hid hBz
    have q3' := hid q3
    have hr' := hid hr
    have sf := hid (hBd.good (g := w.heap.size + 1 + 1) (by omega)).2
    have ss := hid (hBd.good (g := w.heap.size) (by omega)).2
    clear hBd asz afz hBz q3 hA hE hA' hF hml hTz hr
    gi_wp2_with fail
    rw [hTe.out]
    refine ⟨trivial, ?_⟩
    refine (CallsIn.inRound l2 (callsIn_wide.2 hwr.out)).mono ?_
    rintro e W2 ⟨rfl, hBd2, hh2⟩
    have k1 := hid (hh2 w.heap.size (W0.heap.size + 1 + 1) g (by omega) (by omega) (by omega))
    have k0 := hid (hh2 w.heap.size W0.heap.size g (by omega) (by omega) (by omega))
    have as2 := hid ((hh2 w.heap.size (W0.heap.size + 1 + 1) w.heap.size (by omega) (by omega) (by omega)).2.2.2 _ _ _ (.inr rfl) ss.out asz'.out).1
    have af2 := hid ((hh2 w.heap.size (W0.heap.size + 1 + 1) (w.heap.size + 1 + 1) (by omega) (by omega) (by omega)).2.2.2 _ _ _ (.inr rfl) sf.out afz'.out).1
    have cf2 := af2.out.cell 0
    have ff2 := af2.out.frozen 0
    simp only [List.getElem?_toArray, List.getElem?_cons_zero] at cf2
    have hz2 := k1.out.2.1
    have hBd2' := hid hBd2
    have eA : IntKind.i64.wrap ((A : Int) + 1) = ((A + 1 : Nat) : Int) := by rw [IntKind.wrap_i64]; omega
    clear hBd2 hh2 hwr asz' afz' ss sf cs cf ff hTe
    gi_wp2
    have k2 := heldB_set (m := w.heap.size + 1) (n0 := w.heap.size) (b := W0.heap.size + 1 + 1) (g := g) (q := w.heap.size + 1 + 1) (W := W2) (.int .i64 ((A : Int) + 1)) (by omega) (by omega) (by omega) (by omega)
    have k3 := k1.out.trans k2
    refine ⟨⟨k3.2.1, fun k o hk ho hc => ?_⟩, k3, ?_, as2.out.other (p := ⟨w.heap.size + 1 + 1, 0, none⟩) (by show w.heap.size ≠ w.heap.size + 1 + 1; omega) _, ?_, hBz'.out.trans k3.1, Nat.le_trans hzz k3.2.1⟩
    · exact (heldB_set (m := w.heap.size + 1) (n0 := w.heap.size) (b := W0.heap.size) (g := g) (q := w.heap.size + 1 + 1) (W := W2) (.int .i64 ((A : Int) + 1)) (by omega) (by omega) (by omega) (by omega)).2.2.1 k o hk hc (k0.out.2.2.1 k o hk hc ho)
    · rw [hFn.out, q3'.out]
      exact hBd2'.out.other (by omega) (by omega) _
    · have h := af2.out.set 0 (.int .i64 ((A : Int) + 1))
      rw [hFn.out]
      simpa using h
  case done =>
    rintro D Wz hD ⟨hBd, asz, afz, hBz, hzz⟩ hKD
    obtain ⟨q1, q3⟩ := hE.out
    obtain ⟨F, hF⟩ : ∃ F, Hid (frL L L.length = F) := ⟨_, rfl⟩
    rw [hF.out] at q1 q3 afz hBd
    have cs := asz.cell 0
    have cf := afz.cell 0
    simp only [List.getElem?_toArray, List.getElem?_cons_zero] at cs cf
    have q1i : (F : Int) ≤ (s.size : Int) := by omega
    have hsi : (s.size : Int) ≤ 70368744177664 := by omega
    obtain ⟨T, hTe⟩ : ∃ T, Hid (s.extract F s.size = T) := ⟨_, rfl⟩
    rw [hTe.out] at q3
    have hTz : T.size = s.size - F := by rw [← hTe.out, ByteArray.size_extract]; omega
    have hml : (minL s F).length ≤ F := by rw [minL_len]; exact jS_le s F
    have hwr := hid (bwrite_calls (w.heap.size + 1) W0.heap.size (minL s F) T (by omega) (by omega) Wz hBd hzz)
    have hBz' := hid hBz
    have q3' := hid q3
    have hKD' := hid hKD
    clear hBd asz afz hBz q3 hA hE hF hml hTz hKD hI0 hnf
    gi_wp2_with fail
    rw [hTe.out]
    refine ⟨trivial, ?_⟩
    refine (callsIn_wide.2 hwr.out).mono ?_
    rintro e W2 ⟨rfl, hBd2, hh2⟩
    have k1 := hid (hh2 w.heap.size W0.heap.size g (by omega) (by omega) (by omega))
    have hz2 : W0.heap.size ≤ W2.heap.size := Nat.le_trans hzz k1.out.2.1
    rw [← q3'.out] at hBd2
    have hst := hid (bstring_calls (w.heap.size + 1) W0.heap.size W0.heap.size (minL s s.size) W2 hBd2 (Nat.le_refl _) hz2)
    have hK2 := hid (k1.out.2.2.1 D _ hD rfl hKD'.out)
    clear hwr hBd2 hh2 cs cf hTe hKD'
    gi_wp2_with fail
    refine ⟨trivial, ?_⟩
    refine (callsIn_wide.2 hst.out).mono ?_
    rintro e W3 ⟨rfl, hb3, hk3⟩
    have hK3 := hk3 D _ rfl hK2.out
    have hB3 : Below w.heap.size w W3 := (hBz'.out.trans k1.out.1).trans (hb3.mono hB0.size)
    clear hst hk3
    gi_wp2
    refine ⟨by simp, .inl ⟨_, _, rfl, run_takeDeferred hK3, ?_⟩⟩
    refine ⟨.string (minS s), ?_, rfl, hB3.trans (belowK_b (w := w) (Nat.le_refl _) W3 D _ _ (by omega) hK3 rfl rfl)⟩
    simp [results, Tryd.f17, go_sem]
    rfl
  case stop =>
    rintro D c pre W _ _ h _
    exact h.elim
theorem minify8_calls (s : ByteArray) (hs : s.size ≤ 70368744177664) (w : World) (hT : Tab w) (hM : TabM w) (hw0 : 1 < w.heap.size) :
    Calls Tryd.prog 17 #[.string s] w fun e w' => e = .returned (.string (minS s)) ∧ Below w.heap.size w w' := callsIn_wide.1 (minify_in s hs w hT hM hw0)
end Go.Proofs.YthakingpeegagaaDoor
