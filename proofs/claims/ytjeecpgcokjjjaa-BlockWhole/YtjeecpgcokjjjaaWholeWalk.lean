/-
  The walk of quarrylaw02.BlockWhole.
-/
import Derived.Test.YtjeecpgcokjjjaaWholeKit
import Derived.Test.YtjeecpgcokjjjaaBlockSeqK
import Derived.Test.YtjeecpgcokjjjaaCutsEq
namespace Go.Proofs.Ytjeecpgcokjjjaa
open Go.RowKit Go.Shelf

attribute [local go_sem] Oper.semAt_some

/-- Between two rounds: what the variables hold. -/
def WhI (w : World) (m : Nat) (s : ByteArray) (p : Nat) (pre : List Nat) (W : World) : Prop :=
  pre = List.range pre.length ∧ (At W (w.heap.size) #[.string s] 9 ∧ At W (w.heap.size + 1) #[.int .u8 (p : Int)] 5 ∧ At W (w.heap.size + 1 + 1) #[.bool false] 4 ∧ Gath W m (m + 1 + 1 + 1 + 1) s (min (64 * pre.length) s.size) ∧ At W (m + 1) #[.int .i64 (((pre.length : Nat) : Int))] 3 ∧ m + 1 + 1 + 1 + 1 ≤ W.heap.size) ∧ Below w.heap.size w W
/-- A round has left: with a block that is none of the text's. -/
def WhX (w : World) (s : ByteArray) (c : Code) (pre : List Nat) (W : World) : Prop :=
  c = .ret ∧ (¬ ∃ k, k ≤ blocksOf s ∧ pre = List.range k) ∧ Below w.heap.size w W
/-- The frame in which a round's body begins. -/
def WhA (w : World) (m : Nat) (s : ByteArray) (p : Nat) (x : Nat) (a' : Act) (W : World) : Prop :=
  ∃ (g A : Nat) (L : List Value), Hid (A = 64 * min x (blocksOf s)) ∧ Hid (L.toArray = arr64 (cutF s (A : Int) p)) ∧ Hid (L.length = 64) ∧ m + 1 + 1 + 1 < g ∧ At W g L.toArray 33 ∧ a' = { tmps := #[.string s, .int .u8 (p : Int), .pointer (some ⟨w.heap.size, 0, none⟩), .pointer (some ⟨w.heap.size + 1, 0, none⟩), .pointer (some ⟨w.heap.size + 1 + 1, 0, none⟩), .pointer (some ⟨m, 0, none⟩), .pointer (some ⟨m + 1, 0, none⟩), .func (.func 33) #[] #[.pointer (some ⟨m + 1 + 1, 0, none⟩), .pointer (some ⟨m + 1 + 1 + 1, 0, none⟩)], .int .i64 (A : Int), .pointer (some ⟨g, 0, none⟩), undef, undef, undef, .bool true, .bool false, .string s, .int .u8 (p : Int), .func (.func 33) #[] #[.pointer (some ⟨m + 1 + 1, 0, none⟩), .pointer (some ⟨m + 1 + 1 + 1, 0, none⟩)], .func (.func 33) #[] #[.pointer (some ⟨m + 1 + 1, 0, none⟩), .pointer (some ⟨m + 1 + 1 + 1, 0, none⟩)], .bool false, .func (.func 33) #[] #[.pointer (some ⟨m + 1 + 1, 0, none⟩), .pointer (some ⟨m + 1 + 1 + 1, 0, none⟩)], .int .i64 (A : Int), .agg L.toArray, undef, undef, undef, undef, undef, undef, undef, undef, undef, undef, undef, undef, undef, undef, undef, undef, undef, undef, undef, undef, undef, undef, undef, undef, undef, undef, undef, undef, undef, undef, undef, undef, undef, undef, undef, undef, undef, undef, undef, undef, undef, undef, undef, undef, undef, undef, undef, undef], defers := [] }

section
variable {w : World} {m : Nat} {s : ByteArray} {p : Nat} {B : Nat}
theorem whI_own (hB : w.heap.size ≤ B) : OwnFrom B (WhI w m s p) := fun t X Y row hs hg hr => by
  obtain ⟨h0, ⟨h1, h2, h3, h4, h5, h6⟩, hb⟩ := hs
  have hr' := fun r e => (hr r e).2
  exact ⟨h0, ⟨h1.own hg hr', h2.own hg hr', h3.own hg hr', h4.own hg hr', h5.own hg hr', Nat.le_trans h6 hg.size⟩, ownFrom_below (β := List Nat) (Nat.le_refl _) hB t X Y row hb hg hr⟩
theorem whX_own (hB : w.heap.size ≤ B) (c : Code) : OwnFrom B (WhX w s c) := fun t X Y row hs hg hr => by
  obtain ⟨h0, h1, hb⟩ := hs
  exact ⟨h0, h1, ownFrom_below (β := List Nat) (Nat.le_refl _) hB t X Y row hb hg hr⟩
theorem whA_own (x : Nat) (a' : Act) : OwnFrom B (fun (_ : Unit) W => WhA w m s p x a' W) := fun _ X Y row hs hg hr => by
  obtain ⟨g, A, L, h1, h2, h3, h4, h5, h6⟩ := hs
  exact ⟨g, A, L, h1, h2, h3, h4, h5.own hg (fun r e => (hr r e).2), h6⟩
theorem whI_kept {pre : List Nat} {X Y : World} (h : WhI w m s p pre X) (hb : Below X.heap.size X Y) : WhI w m s p pre Y := by
  obtain ⟨h0, ⟨h1, h2, h3, h4, h5, h6⟩, hB⟩ := h
  exact ⟨h0, ⟨h1.keptAll hb, h2.keptAll hb, h3.keptAll hb, h4.kept hb, h5.keptAll hb, Nat.le_trans h6 hb.size⟩, hB.trans (hb.mono hB.size)⟩
end

set_option maxRecDepth 100000 in
set_option maxHeartbeats 8000000 in
theorem whole_in (s : ByteArray) (hs : s.size ≤ 140737488351232) (p : Nat) (w : World) :
    CallsIn Fence.wide 3 Try.prog 8 #[.string s, .int .u8 (p : Int)] w fun e w' => e = .returned (.bool true) ∧ Below w.heap.size w w' := by
  have hnf : ∀ (f : Fn) (a b : Array Value) (w : World), Sem.run Try.prog (binOp BinOp.eql 41 (.func f a b) .nilFunc) w = .ok (.bool false) w := fun _ _ _ _ => by rfl
  refine callsIn_of_wp_marks Try.func8 rfl trivial ?_ rfl
  simp only [Try.ntmps8, List.size_toArray, List.length_cons, List.length_nil, Nat.reduceAdd, Nat.reduceSub, Array.replicate_succ, Array.replicate_zero, List.push_toArray, List.append_toArray, List.nil_append, List.cons_append]
  gi_wp2_with fail
  refine ⟨trivial, ?_⟩
  refine (callsIn_wide.2 (awake_calls _)).mono ?_
  rintro e w1 ⟨rfl, hb1⟩
  have hA0 : At (((w.alloc (.cells #[.string s] 9)).alloc (.cells #[.int .u8 (p : Int)] 5)).alloc (.cells #[.bool false] 4)) (w.heap.size) #[.string s] 9 := ((At.new w _ _).alloc _).alloc _
  have hA1 : At (((w.alloc (.cells #[.string s] 9)).alloc (.cells #[.int .u8 (p : Int)] 5)).alloc (.cells #[.bool false] 4)) (w.heap.size + 1) #[.int .u8 (p : Int)] 5 := by
    have h := (At.new (w.alloc (.cells #[.string s] 9)) #[.int .u8 (p : Int)] 5).alloc (.cells #[.bool false] 4)
    simpa using h
  have hA2 : At (((w.alloc (.cells #[.string s] 9)).alloc (.cells #[.int .u8 (p : Int)] 5)).alloc (.cells #[.bool false] 4)) (w.heap.size + 1 + 1) #[.bool false] 4 := by
    have h := At.new ((w.alloc (.cells #[.string s] 9)).alloc (.cells #[.int .u8 (p : Int)] 5)) #[.bool false] 4
    simpa using h
  have hb0 : Below w.heap.size w (((w.alloc (.cells #[.string s] 9)).alloc (.cells #[.int .u8 (p : Int)] 5)).alloc (.cells #[.bool false] 4)) := by repeat (first | with_reducible exact Below.refl _ _ | with_reducible refine Below.setCell ?_ (by first | (simp; done) | (simp; omega)) _ | with_reducible refine below_drewN ?_ _ | with_reducible refine Below.alloc ?_ (by first | (simp; done) | (simp; omega)) _ | with_reducible refine Below.drew ?_)
  have hz1 := hb1.size
  replace hA0 := hA0.keptAll hb1
  replace hA1 := hA1.keptAll hb1
  replace hA2 := hA2.keptAll hb1
  replace hb0 := hb0.trans (hb1.mono hb0.size)
  simp only [World.size_alloc] at hz1
  clear hb1
  have k0 := ((hA0.alloc (.cells #[.slice none 0 0] 47)).alloc (.cells #[.int .i64 0] 3)).cell 0
  have k1 := ((hA1.alloc (.cells #[.slice none 0 0] 47)).alloc (.cells #[.int .i64 0] 3)).cell 0
  simp only [List.getElem?_toArray, List.getElem?_cons_zero] at k0 k1
  gi_wp2_with fail
  refine ⟨trivial, ?_⟩
  refine (callsIn_wide.2 (blocks_calls s p _)).mono ?_
  rintro e W0 ⟨rfl, hW0⟩
  simp only [World.size_alloc]
  have hb6 : Below w1.heap.size w1 W0 := by
    rw [hW0]
    repeat (first | with_reducible exact Below.refl _ _ | with_reducible refine Below.setCell ?_ (by first | (simp; done) | (simp; omega)) _ | with_reducible refine below_drewN ?_ _ | with_reducible refine Below.alloc ?_ (by first | (simp; done) | (simp; omega)) _ | with_reducible refine Below.drew ?_)
  have hA3 : At W0 w1.heap.size #[.slice none 0 0] 47 := by rw [hW0]; exact (((At.new w1 _ _).alloc _).alloc _).alloc _
  have hA4 : At W0 (w1.heap.size + 1) #[.int .i64 0] 3 := by
    have h := ((At.new (w1.alloc (.cells #[.slice none 0 0] 47)) #[.int .i64 0] 3).alloc (.cells #[.string s] 9)).alloc (.cells #[.int .u8 (p : Int)] 5)
    rw [hW0]
    simpa using h
  have hA5 : At W0 (w1.heap.size + 1 + 1) #[.string s] 9 := by
    have h := (At.new ((w1.alloc (.cells #[.slice none 0 0] 47)).alloc (.cells #[.int .i64 0] 3)) #[.string s] 9).alloc (.cells #[.int .u8 (p : Int)] 5)
    rw [hW0]
    simpa using h
  have hA6 : At W0 (w1.heap.size + 1 + 1 + 1) #[.int .u8 (p : Int)] 5 := by
    have h := At.new (((w1.alloc (.cells #[.slice none 0 0] 47)).alloc (.cells #[.int .i64 0] 3)).alloc (.cells #[.string s] 9)) #[.int .u8 (p : Int)] 5
    rw [hW0]
    simpa using h
  have hz0 : W0.heap.size = w1.heap.size + 1 + 1 + 1 + 1 := by rw [hW0]; simp
  replace hA0 := hA0.keptAll hb6
  replace hA1 := hA1.keptAll hb6
  replace hA2 := hA2.keptAll hb6
  have hB0 := hb0.trans (hb6.mono hb0.size)
  clear hW0 hb6 hb0 k0 k1
  generalize w1.heap.size = m at *
  clear w1
  have hI0 : WhI w m s p [] W0 := ⟨rfl, ⟨hA0, hA1, hA2, by simpa using Gath.nil hA3, hA4, by omega⟩, hB0⟩
  gi_wp2_with fail
  refine wpIn_rangeFunc_ownH rfl (n := 3) (by decide) (gf := 33) (lb := #[.pointer (some ⟨m + 1 + 1, 0, none⟩), .pointer (some ⟨m + 1 + 1 + 1, 0, none⟩)]) rfl trivial (enters_of Try.func33 (by kernel_rfl) rfl)
    (blocks_stops_k (3 - 1) (m + 1 + 1) (m + 1 + 1 + 1) s (by omega) p W0 hA5 hA6) KeepB.trans (keepB_b (w := W0)) (Below.refl _ _) (fun _ => rfl)
    (WhI w m s p) (WhX w s) (whI_own hB0.size) (whX_own hB0.size) hI0 (WhA w m s p) (fun x a' => whA_own x a') ?assign ?body ?done ?stop
  case assign =>
    intro l pre x W K hI hK
    obtain ⟨A, hA⟩ : ∃ A : Nat, Hid (A = 64 * min x (blocksOf s)) := ⟨_, rfl⟩
    obtain ⟨L, hLt, hLl⟩ := arr64_list (cutF s (A : Int) p)
    have hL1 := arr64_one _ hLt
    have hiL' : (Try.prog.info? 33).map (·.size) = some L.toArray.size := by rw [List.size_toArray, hLl]; exact info64
    have he : encB s p x = #[.int .i64 (A : Int), .agg L.toArray] := by rw [hLt, encB, hA.out]
    rw [he]
    obtain ⟨hth, W2, hW2, hA2, hB2⟩ := laid64 W L hLl
    have hK2 := fun a' => hK a' W2 ((keeps_below hB2).from _) (KeepB.of_below hB2) (whI_kept hI hB2)
    have hgt : m + 1 + 1 + 1 < W.heap.size := by have := hI.2.1.2.2.2.2.2; omega
    have hLH : Hid (L.toArray = arr64 (cutF s (A : Int) p)) := hLt
    clear hK hI hLt he
    gi_wp2_with (first | (refine wpListIn_store_want 33 _ _ (W.heap.size) 0 L.toArray hth hiL' (all_oneCell_toArray hL1) rfl rfl rfl (by rfl) ?_))
    exact ⟨W.heap.size, A, L, hA, hLH, hLl, hgt, hA2, rfl⟩
  case body =>
    rintro l pre x a' W hll ⟨rec, hrec⟩ hI ⟨g, A, L, hA, hL, hLl, hg, hAt, rfl⟩ hlt
    obtain ⟨hpre', ⟨h0, h1, h2, h3, h4, hzW⟩, hB⟩ := hI
    have hpre : Hid (pre = List.range pre.length) := hpre'
    clear hpre'
    have k0 := h0.cell 0
    have k1 := h1.cell 0
    simp only [List.getElem?_toArray, List.getElem?_cons_zero] at k0 k1
    gi_wp2_with fail
    refine ⟨trivial, ?_⟩
    have hAm : A ≤ 64 * blocksOf s := by rw [hA.out]; exact Nat.mul_le_mul_left _ (Nat.min_le_right _ _)
    have hms : 64 * blocksOf s ≤ s.size + 63 := by unfold blocksOf; omega
    obtain ⟨nn, Hn⟩ : ∃ nn, Hid (cutN s (A : Int) = nn) := ⟨_, rfl⟩
    refine (CallsIn.inRound l (callsIn_wide.2 (cut_nat s (A : Int) p nn Hn _))).mono ?_
    rintro e w1 ⟨rfl, hb1⟩
    rw [← hL.out]
    have hL1 := arr64_one _ hL.out
    have hiL : (Try.prog.info? 33).map (·.size) = some L.length := by rw [hLl.out]; exact info64
    have hiL' : (Try.prog.info? 33).map (·.size) = some L.toArray.size := by simpa using hiL
    obtain ⟨hth, W2, hW2, hA2, hB2⟩ := laid64 w1 L hLl.out
    have hbb : Below W.heap.size W W2 := hb1.trans (hB2.mono hb1.size)
    have r1 := (hAt.keptAll hbb).range rfl
    have r2 := hA2.range rfl
    have hneq := neq64_same (cutF s (A : Int) p)
    rw [← hL.out] at hneq
    have g0 := h0.keptAll hbb
    have g1 := h1.keptAll hbb
    have g2 := h2.keptAll hbb
    have g3 := h3.kept hbb
    have g4 := h4.keptAll hbb
    have gg := hAt.keptAll hbb
    have hBW := hB.trans (hbb.mono hB.size)
    have hKW := keeps_below hbb
    have hKn : KeepB (m + 1 + 1) (m + 1 + 1 + 1) W W2 := KeepB.of_below hbb
    clear k0 k1 h0 h1 h2 h3 h4 hAt hA2 hb1 hB2
    have k2 := g2.cell 0
    have f2 := g2.frozen 0
    have k4 := g4.cell 0
    have f4 := g4.frozen 0
    simp only [List.getElem?_toArray, List.getElem?_cons_zero] at k2 k4
    have hnI : (0 : Int) ≤ (nn : Int) := by omega
    by_cases hx : x = pre.length
    · subst hx
      have hAe : ((A : Nat) : Int) = 64 * ((pre.length : Nat) : Int) := by rw [hA.out, Nat.min_eq_left (by omega)]; simp
      have hAlt : A < s.size := by unfold blocksOf at hlt; omega
      have hnn : nn = min (s.size - A) 64 := by
        have h := Hn.out
        unfold cutN at h
        rw [if_pos ⟨by omega, by omega⟩] at h
        simpa using h.symm
      have hn1 : decide ((nn : Int) < 1) = false := by simp; omega
      have hn2 : decide ((64 : Int) < (nn : Int)) = false := by simp; omega
      have hn64 : nn ≤ 64 := by omega
      have hAn : A + nn ≤ s.size := by omega
      have hend : Hid (A + nn = min (64 * (pre ++ [pre.length]).length) s.size) := by
        show _ = _
        simp only [List.length_append, List.length_singleton]
        omega
      have hAb : (((A : Nat) : Int) != 64 * ((pre.length : Nat) : Int)) = false := by rw [hAe]; simp
      have hK0 : min (64 * pre.length) s.size = A := by omega
      rw [hK0] at g3
      have hmul : (64 : Int) * ((pre.length : Nat) : Int) ≤ 9223372036854775807 := by omega
      have hAH : Hid _ := hAe
      have hnH : Hid _ := hnn
      clear hAe hnn hK0
      have hpx : Hid (pre ++ [pre.length] = List.range (pre ++ [pre.length]).length) := by
        show _ = _
        rw [List.length_append, List.length_singleton, List.range_succ, ← hpre.out]
      have hnl : Hid ((((pre ++ [pre.length]).length : Nat) : Int) = ((pre.length : Nat) : Int) + 1) := by show _ = _; simp
      obtain ⟨W3, hW3⟩ : ∃ W3, W2.setCell ⟨m + 1, 0, none⟩ (.int .i64 (((pre.length : Nat) : Int) + 1)) = W3 := ⟨_, rfl⟩
      have t0 := g0.other (p := ⟨m + 1, 0, none⟩) (by show w.heap.size ≠ m + 1; omega) (.int .i64 (((pre.length : Nat) : Int) + 1))
      have t1 := g1.other (p := ⟨m + 1, 0, none⟩) (by show w.heap.size + 1 ≠ m + 1; omega) (.int .i64 (((pre.length : Nat) : Int) + 1))
      have t2 := g2.other (p := ⟨m + 1, 0, none⟩) (by show w.heap.size + 1 + 1 ≠ m + 1; omega) (.int .i64 (((pre.length : Nat) : Int) + 1))
      have t3 := g3.other (b := m + 1) (by omega) (by omega) (.int .i64 (((pre.length : Nat) : Int) + 1))
      have t4 := g4.set 0 (.int .i64 (((pre.length : Nat) : Int) + 1))
      have tg := gg.other (p := ⟨m + 1, 0, none⟩) (by show g ≠ m + 1; omega) (.int .i64 (((pre.length : Nat) : Int) + 1))
      have hBt := hBW.setCell (p := ⟨m + 1, 0, none⟩) (by show w.heap.size ≤ m + 1; omega) (.int .i64 (((pre.length : Nat) : Int) + 1))
      have hKt := hKW.trans (KeepsOthers.setCell W2 ⟨m + 1, 0, none⟩ (.int .i64 (((pre.length : Nat) : Int) + 1)))
      have hKk : KeepB (m + 1 + 1) (m + 1 + 1 + 1) W (W2.setCell ⟨m + 1, 0, none⟩ (.int .i64 (((pre.length : Nat) : Int) + 1))) :=
        hKn.trans ⟨(KeepsOthers.setCell W2 ⟨m + 1, 0, none⟩ (.int .i64 (((pre.length : Nat) : Int) + 1))).1, fun _ _ q => q.other (p := ⟨m + 1, 0, none⟩) (by show m + 1 + 1 ≠ m + 1; omega) _, fun _ _ q => q.other (p := ⟨m + 1, 0, none⟩) (by show m + 1 + 1 + 1 ≠ m + 1; omega) _⟩
      have hzt : m + 1 + 1 + 1 + 1 ≤ W3.heap.size := by rw [← hW3]; exact Nat.le_trans hzW (Nat.le_trans hbb.size (KeepsOthers.setCell W2 ⟨m + 1, 0, none⟩ _).1)
      simp only [List.setIfInBounds_toArray, List.set_cons_zero] at t4
      rw [hW3] at t0 t1 t2 t3 t4 tg hBt hKt hKk
      gi_wp2_with (first | (refine wpListIn_store_want 33 _ _ (w1.heap.size) 0 L.toArray hth hiL' (all_oneCell_toArray hL1) rfl rfl rfl (by rfl) ?_) | (refine wpListIn_load_want 33 _ (w1.heap.size) 0 L _ r2 Try.underlying33 hiL rfl rfl rfl (by rfl) ?_) | (refine wpListIn_load_want 33 _ (g) 0 L _ r1 Try.underlying33 hiL rfl rfl rfl (by rfl) ?_))
      clear g0 g1 g2 g3 g4 gg hBW hKW hKn k2 f2 k4 f4 r1 r2 hneq hth hW2 hbb hW3 hiL hiL' hL1
      gi_loopw [12] (fun i wr => ∃ k : Nat, k ≤ 64 ∧ i = .int .i64 (k : Int) ∧ At wr (w.heap.size) #[.string s] 9 ∧ At wr (w.heap.size + 1) #[.int .u8 (p : Int)] 5 ∧ At wr (w.heap.size + 1 + 1) #[.bool false] 4 ∧ Gath wr m (m + 1 + 1 + 1 + 1) s (A + min k nn) ∧ At wr (m + 1) #[.int .i64 (((pre.length : Nat) : Int) + 1)] 3 ∧ At wr g L.toArray 33 ∧ KeepsOthers W wr ∧ KeepB (m + 1 + 1) (m + 1 + 1 + 1) W wr ∧ m + 1 + 1 + 1 + 1 ≤ wr.heap.size ∧ Below w.heap.size w wr) (fun i _ => 64 - (intOf i).toNat)
      case atStart => exact ⟨0, by omega, rfl, t0, t1, t2, by simpa using t3, t4, tg, hKt, hKk, hzt, hBt⟩
      case round =>
        clear t0 t1 t2 t3 t4 tg hKt hKk hzt hBt
        obtain ⟨k, hk, rfl, t0, t1, t2, t3, t4, tg, hKt, hKk, hzt, hBt⟩ := hrel
        have hLk : k < 64 → L.toArray[k]? = some (.int .u8 ((cutF s (A : Int) p k : Nat) : Int)) := fun h => by rw [hL.out]; exact arr64_at _ k h
        by_cases hk6 : (k : Int) < 64
        · have hcell := (tg.cell k).trans (hLk (by omega))
          by_cases hkn : (k : Int) < (nn : Int)
          · have hF : cutF s (A : Int) p k = byteAt s (A + k) := by
              unfold cutF
              rw [if_pos ⟨by omega, by omega⟩]
              simp
            rw [hF] at hcell
            obtain ⟨v, hv, hrow⟩ := t3
            rw [show min k nn = k by omega] at hrow
            have hvc := hv.cell 0
            simp only [List.getElem?_toArray, List.getElem?_cons_zero] at hvc
            gi_wp2_with fail
            refine wpIn_region_round (S := fun w' => w'.cell? ⟨g, k, none⟩ = some (.int .u8 ((byteAt s (A + k) : Nat) : Int))) (by kernel_rfl) (by kernel_rfl) (fun _ _ h => h) hcell (fun hHeld => ?_)
            (refine' wpAnyH_take (i := 1) rfl (by kernel_rfl) (by kernel_rfl) (by kernel_rfl) (fun _ _ _ h => h) (Or.inl ⟨by rfl, ?_⟩) (by assumption) ?_; rotate_left; (· (intro wq hq; (try dsimp only at hq); go_simp; first | done | with_reducible rfl)); simp only [Act.put, List.getElem_toArray, List.getElem_cons_zero, List.getElem_cons_succ, List.setIfInBounds_toArray, List.set_cons_zero, List.set_cons_succ])
            (refine' wpAnyH_take (i := 2) rfl (by kernel_rfl) (by kernel_rfl) (by kernel_rfl) (fun _ _ _ h => h) (Or.inl ⟨by rfl, ?_⟩) (by assumption) ?_; rotate_left; (· (intro wq hq; (try dsimp only at hq); go_simp; first | done | with_reducible rfl)); simp only [Act.put, List.getElem_toArray, List.getElem_cons_zero, List.getElem_cons_succ, List.setIfInBounds_toArray, List.set_cons_zero, List.set_cons_succ])
            (refine' wpAnyH_take (i := 3) rfl (by kernel_rfl) (by kernel_rfl) (by kernel_rfl) (fun _ _ _ h => h) (Or.inl ⟨by rfl, ?_⟩) (by assumption) ?_; rotate_left; (· (intro wq hq; (try dsimp only at hq); go_simp; first | done | with_reducible rfl)); simp only [Act.put, List.getElem_toArray, List.getElem_cons_zero, List.getElem_cons_succ, List.setIfInBounds_toArray, List.set_cons_zero, List.set_cons_succ])
            refine wpAnyH_ready (rs := [0, 4]) (by kernel_rfl) (by simp) ?_
            refine AllReadyH.cons rfl (fun K hK => ?_) ?_
            · go_simp
              refine hK.out _ _ hHeld (fun hH1 => ?_)
              clear hK K
              refine wpAnyH_ready (rs := [4]) (by kernel_rfl) (by simp) ?_
              refine AllReadyH.cons rfl (fun K hK => ?_) ?_
              · go_simp
                have hS4 : (wr.drew.alloc (.cells #[.int .u8 ((byteAt s (A + k) : Nat) : Int)] 5)).cell? ⟨g, k, none⟩ = some (.int .u8 ((byteAt s (A + k) : Nat) : Int)) := ((tg.alloc (.cells #[.int .u8 ((byteAt s (A + k) : Nat) : Int)] 5)).cell k).trans (by rw [hL.out, arr64_at _ k (by omega), hF])
                refine hK.out _ _ hS4 (fun hH4 => ?_)
                clear hK K
                refine wpAnyH_ready (rs := [5]) (by kernel_rfl) (by simp) ?_
                refine AllReadyH.cons rfl (fun K hK => ?_) ?_
                · rw [if_pos (by rfl)]
                  refine wp_gather (W := wr.drew) (v := v) rfl rfl rfl hrow (by omega) hzt ?_
                  intro g' cap w2 hown' hgr
                  obtain ⟨e1, e2, e3, e4, e5, e6⟩ := gath_append (W := wr.drew) (m := m) hv hrow hzt (by omega) hown' hgr
                  have eg := e6 g _ _ tg (by omega) (.inl (by decide))
                  have q0 := (e6 _ _ _ t0 (by omega) (.inl (by decide))).2
                  have q1 := (e6 _ _ _ t1 (by omega) (.inr (by omega))).2
                  have q2 := (e6 _ _ _ t2 (by omega) (.inl (by decide))).2
                  have q4 := (e6 _ _ _ t4 (by omega) (.inl (by decide))).2
                  have c1 := e1.cell 0
                  have f1 := e1.frozen 0
                  simp only [List.getElem?_toArray, List.getElem?_cons_zero] at c1
                  refine hK.out _ _ ((eg.1.cell k).trans (by rw [hL.out, arr64_at _ k (by omega), hF])) (fun hH6 => ?_)
                  clear hK K
                  refine wpAnyH_ready (rs := [6]) (by kernel_rfl) (by simp) ?_
                  refine AllReadyH.cons rfl (fun K hK => ?_) ?_
                  · go_simp
                    refine hK.out _ _ ((eg.2.cell k).trans (by rw [hL.out, arr64_at _ k (by omega), hF])) (fun hH7 => ?_)
                    clear hK K
                    refine wpAnyH_done (by kernel_rfl) ?_ _
                    rename_i Kz hKz
                    refine hKz _ _ ?_
                    gi_wp2
                    go_roundw
                    case rel => exact ⟨k + 1, by omega, by go_num, q0, q1, q2, ⟨_, e2, by rw [show A + min (k + 1) nn = A + k + 1 by omega]; exact e3⟩, q4, eg.2, hKt.trans ⟨e4.1, e4.2⟩, hKk.trans ⟨e4.1, fun cs t q => (e6 _ cs t q (by omega) (.inr (by omega))).2, fun cs t q => (e6 _ cs t q (by omega) (.inr (by omega))).2⟩, Nat.le_trans hzt e4.1, hBt.drew.trans (e5.mono (by omega))⟩
                    case measure => simp [intOf]; omega
                  · exact AllReadyH.nil
                · exact AllReadyH.nil
              · exact AllReadyH.nil
            · refine AllReadyH.cons rfl (fun K hK => ?_) ?_
              · go_simp
                have hS4 : (wr.drew.alloc (.cells #[.int .u8 ((byteAt s (A + k) : Nat) : Int)] 5)).cell? ⟨g, k, none⟩ = some (.int .u8 ((byteAt s (A + k) : Nat) : Int)) := ((tg.alloc (.cells #[.int .u8 ((byteAt s (A + k) : Nat) : Int)] 5)).cell k).trans (by rw [hL.out, arr64_at _ k (by omega), hF])
                refine hK.out _ _ hS4 (fun hH4 => ?_)
                clear hK K
                have hvd : (wr.alloc (.cells #[.int .u8 ((byteAt s (A + k) : Nat) : Int)] 5)).drew.cell? ⟨m, 0, none⟩ = some v := (hv.alloc (.cells #[.int .u8 ((byteAt s (A + k) : Nat) : Int)] 5)).cell 0
                refine wpAnyH_ready (rs := [0]) (by kernel_rfl) (by simp) ?_
                refine AllReadyH.cons rfl (fun K hK => ?_) ?_
                · go_simp
                  refine hK.out _ _ hH4 (fun hH1 => ?_)
                  clear hK K
                  refine wpAnyH_ready (rs := [5]) (by kernel_rfl) (by simp) ?_
                  refine AllReadyH.cons rfl (fun K hK => ?_) ?_
                  · rw [if_pos (by rfl)]
                    refine wp_gather (W := wr.drew) (v := v) rfl rfl rfl hrow (by omega) hzt ?_
                    intro g' cap w2 hown' hgr
                    obtain ⟨e1, e2, e3, e4, e5, e6⟩ := gath_append (W := wr.drew) (m := m) hv hrow hzt (by omega) hown' hgr
                    have eg := e6 g _ _ tg (by omega) (.inl (by decide))
                    have q0 := (e6 _ _ _ t0 (by omega) (.inl (by decide))).2
                    have q1 := (e6 _ _ _ t1 (by omega) (.inr (by omega))).2
                    have q2 := (e6 _ _ _ t2 (by omega) (.inl (by decide))).2
                    have q4 := (e6 _ _ _ t4 (by omega) (.inl (by decide))).2
                    have c1 := e1.cell 0
                    have f1 := e1.frozen 0
                    simp only [List.getElem?_toArray, List.getElem?_cons_zero] at c1
                    refine hK.out _ _ ((eg.1.cell k).trans (by rw [hL.out, arr64_at _ k (by omega), hF])) (fun hH6 => ?_)
                    clear hK K
                    refine wpAnyH_ready (rs := [6]) (by kernel_rfl) (by simp) ?_
                    refine AllReadyH.cons rfl (fun K hK => ?_) ?_
                    · go_simp
                      refine hK.out _ _ ((eg.2.cell k).trans (by rw [hL.out, arr64_at _ k (by omega), hF])) (fun hH7 => ?_)
                      clear hK K
                      refine wpAnyH_done (by kernel_rfl) ?_ _
                      rename_i Kz hKz
                      refine hKz _ _ ?_
                      gi_wp2
                      go_roundw
                      case rel => exact ⟨k + 1, by omega, by go_num, q0, q1, q2, ⟨_, e2, by rw [show A + min (k + 1) nn = A + k + 1 by omega]; exact e3⟩, q4, eg.2, hKt.trans ⟨e4.1, e4.2⟩, hKk.trans ⟨e4.1, fun cs t q => (e6 _ cs t q (by omega) (.inr (by omega))).2, fun cs t q => (e6 _ cs t q (by omega) (.inr (by omega))).2⟩, Nat.le_trans hzt e4.1, hBt.drew.trans (e5.mono (by omega))⟩
                      case measure => simp [intOf]; omega
                    · exact AllReadyH.nil
                  · exact AllReadyH.nil
                · exact AllReadyH.nil
              · exact AllReadyH.nil
          · have hF : cutF s (A : Int) p k = p := by
              unfold cutF
              rw [if_neg]
              have := hnH.out
              omega
            rw [hF] at hcell
            have hp1 := t1.cell 0
            simp only [List.getElem?_toArray, List.getElem?_cons_zero] at hp1
            gi_wp2_with fail
            refine wpIn_region_round (S := fun w' => w'.cell? ⟨g, k, none⟩ = some (.int .u8 (p : Int)) ∧ w'.cell? ⟨w.heap.size + 1, 0, none⟩ = some (.int .u8 (p : Int))) (by kernel_rfl) (by kernel_rfl) (fun _ _ h => h) ⟨hcell, hp1⟩ (fun hHeld => ?_)
            (refine' wpAnyH_take (i := 0) rfl (by kernel_rfl) (by kernel_rfl) (by kernel_rfl) (fun _ _ _ h => h) (Or.inl ⟨by rfl, ?_⟩) (by assumption) ?_; rotate_left; (· (intro wq hq; (try dsimp only at hq); go_simp; first | done | with_reducible rfl)); simp only [Act.put, List.getElem_toArray, List.getElem_cons_zero, List.setIfInBounds_toArray, List.set_cons_zero, List.set_cons_succ])
            (refine' wpAnyH_take (i := 1) rfl (by kernel_rfl) (by kernel_rfl) (by kernel_rfl) (fun _ _ _ h => h) (Or.inl ⟨by rfl, ?_⟩) (by assumption) ?_; rotate_left; (· (intro wq hq; (try dsimp only at hq); go_simp; first | done | with_reducible rfl)); simp only [Act.put, List.getElem_toArray, List.getElem_cons_zero, List.getElem_cons_succ, List.setIfInBounds_toArray, List.set_cons_zero, List.set_cons_succ])
            (refine' wpAnyH_take (i := 2) rfl (by kernel_rfl) (by kernel_rfl) (by kernel_rfl) (fun _ _ _ h => h) (Or.inl ⟨by rfl, ?_⟩) (by assumption) ?_; rotate_left; (· (intro wq hq; (try dsimp only at hq); go_simp; first | done | with_reducible rfl)); simp only [Act.put, List.getElem_toArray, List.getElem_cons_zero, List.getElem_cons_succ, List.setIfInBounds_toArray, List.set_cons_zero, List.set_cons_succ])
            (refine' wpAnyH_take (i := 3) rfl (by kernel_rfl) (by kernel_rfl) (by kernel_rfl) (fun _ _ _ h => h) (Or.inl ⟨by rfl, ?_⟩) (by assumption) ?_; rotate_left; (· (intro wq hq; (try dsimp only at hq); go_simp; first | done | with_reducible rfl)); simp only [Act.put, List.getElem_toArray, List.getElem_cons_zero, List.getElem_cons_succ, List.setIfInBounds_toArray, List.set_cons_zero, List.set_cons_succ])
            (refine' wpAnyH_take (i := 4) rfl (by kernel_rfl) (by kernel_rfl) (by kernel_rfl) (fun _ _ _ h => h) (Or.inl ⟨by rfl, ?_⟩) (by assumption) ?_; rotate_left; (· (intro wq hq; (try dsimp only at hq); go_simp; first | done | with_reducible rfl)); simp only [Act.put, List.getElem_toArray, List.getElem_cons_zero, List.getElem_cons_succ, List.setIfInBounds_toArray, List.set_cons_zero, List.set_cons_succ])
            refine wpAnyH_done (by kernel_rfl) ?_ _
            rename_i Kz hKz
            refine hKz _ _ ?_
            gi_wp2
            go_roundw
            case rel => exact ⟨k + 1, by omega, by go_num, t0, t1, t2, by rw [show min (k + 1) nn = min k nn by omega]; exact t3, t4, tg, ⟨hKt.1, hKt.2⟩, hKk, hzt, hBt.drew⟩
            case measure => simp [intOf]; omega
        · gi_wp2_with fail
          refine ⟨hKt.from _, hKk, hpx.out, ⟨t0, t1, t2, ?_, ?_, hzt⟩, hBt⟩
          · rw [← hend.out]
            rw [show min k nn = nn by omega] at t3
            exact t3
          · rw [hnl.out]
            exact t4
    · have hAne : ¬ ((A : Nat) : Int) = 64 * ((pre.length : Nat) : Int) := by
        rw [hA.out]
        have : min x (blocksOf s) ≠ pre.length := by omega
        omega
      have hAb : (((A : Nat) : Int) != 64 * ((pre.length : Nat) : Int)) = true := by simpa using hAne
      have hout : ¬ ∃ k, k ≤ blocksOf s ∧ pre ++ [x] = List.range k := by
        rintro ⟨k, _, hk⟩
        have hkl := congrArg List.length hk
        simp only [List.length_append, List.length_cons, List.length_nil, List.length_range] at hkl
        rw [← hkl, List.range_succ] at hk
        have := (List.append_inj hk (by simp)).2
        simp at this
        exact hx this
      have hmul : (64 : Int) * ((pre.length : Nat) : Int) ≤ 9223372036854775807 := by omega
      have hOut := hBW.setCell (p := ⟨w.heap.size + 1 + 1, 0, none⟩) (by show w.heap.size ≤ w.heap.size + 1 + 1; omega) (.bool false)
      by_cases hn1 : (nn : Int) < 1
      · gi_wp2_with (first | (refine wpListIn_store_want 33 _ _ (w1.heap.size) 0 L.toArray hth hiL' (all_oneCell_toArray hL1) rfl rfl rfl (by rfl) ?_) | (refine wpListIn_load_want 33 _ (w1.heap.size) 0 L _ r2 Try.underlying33 hiL rfl rfl rfl (by rfl) ?_) | (refine wpListIn_load_want 33 _ (g) 0 L _ r1 Try.underlying33 hiL rfl rfl rfl (by rfl) ?_))
        exact ⟨(hKW.trans (KeepsOthers.setCell _ _ _)).from _, rfl, hout, hOut⟩
      · by_cases hn2 : (64 : Int) < (nn : Int)
        · gi_wp2_with (first | (refine wpListIn_store_want 33 _ _ (w1.heap.size) 0 L.toArray hth hiL' (all_oneCell_toArray hL1) rfl rfl rfl (by rfl) ?_) | (refine wpListIn_load_want 33 _ (w1.heap.size) 0 L _ r2 Try.underlying33 hiL rfl rfl rfl (by rfl) ?_) | (refine wpListIn_load_want 33 _ (g) 0 L _ r1 Try.underlying33 hiL rfl rfl rfl (by rfl) ?_))
          exact ⟨(hKW.trans (KeepsOthers.setCell _ _ _)).from _, rfl, hout, hOut⟩
        · gi_wp2_with (first | (refine wpListIn_store_want 33 _ _ (w1.heap.size) 0 L.toArray hth hiL' (all_oneCell_toArray hL1) rfl rfl rfl (by rfl) ?_) | (refine wpListIn_load_want 33 _ (w1.heap.size) 0 L _ r2 Try.underlying33 hiL rfl rfl rfl (by rfl) ?_) | (refine wpListIn_load_want 33 _ (g) 0 L _ r1 Try.underlying33 hiL rfl rfl rfl (by rfl) ?_))
          exact ⟨(hKW.trans (KeepsOthers.setCell _ _ _)).from _, rfl, hout, hOut⟩
  case done =>
    rintro D ys W hD rfl hI hK
    obtain ⟨-, ⟨h0, h1, h2, h3, h4, -⟩, hB⟩ := hI
    rw [List.length_range, show min (64 * blocksOf s) s.size = s.size by unfold blocksOf; omega] at h3
    obtain ⟨v, hv, hrow⟩ := h3
    have hcv := conv_row s hrow
    have k0 := h0.cell 0
    have k2 := h2.cell 0
    have k3 := hv.cell 0
    have f2 := h2.frozen 0
    simp only [List.getElem?_toArray, List.getElem?_cons_zero] at k0 k2 k3
    have hK' := (KeepsOthers.setCell W ⟨w.heap.size + 1 + 1, 0, none⟩ (.bool true)).same D _ hK rfl
    have hc5 := cell_kept (World.cell?_setCell_same' W ⟨w.heap.size + 1 + 1, 0, none⟩ (.bool true) (by rw [k2]; rfl)) (grownBy_putObj' _ D (.deferred none)) (fun r e => by cases e; exact ⟨_, hK', rfl⟩)
    have hBe := hB.setCell (p := ⟨w.heap.size + 1 + 1, 0, none⟩) (by show w.heap.size ≤ w.heap.size + 1 + 1; omega) (.bool true)
    clear h0 h1 h2 h4 hv hrow
    gi_wp2
    refine ⟨by simp, .inl ⟨_, _, rfl, run_takeDeferred hK', ?_⟩⟩
    refine ⟨.bool true, ?_, rfl, hBe.trans (belowK_b (w := w) (Nat.le_refl _) _ D _ _ (by omega) hK' rfl rfl)⟩
    simp [results, Try.f8, go_sem, hc5]
  case stop =>
    rintro D c pre W hD hpre hX hK
    exact absurd hpre hX.2.1

theorem blockWhole_walk (s : ByteArray) (hs : s.size ≤ reachBytes) (p : Int) (hp : (Lit.int .u8 p).wf = true) (w : World) :
    Calls Try.prog 8 #[.string s, .int .u8 p] w fun e w' => e = .returned (.bool true) ∧ Below w.heap.size w w' := by
  obtain ⟨c0, c1⟩ := wf_u8 hp
  obtain ⟨X, rfl⟩ := Int.eq_ofNat_of_zero_le c0
  exact callsIn_wide.1 (whole_in s (by unfold reachBytes at hs; omega) X w)
end Go.Proofs.Ytjeecpgcokjjjaa
