/-
  What quarrylaw02.told answers of the blocks of a text: true.
-/
import Derived.Test.YtjeecpgcokjjjaaBlockSeq
import Derived.Test.YtjeecpgcokjjjaaBlockRefCut
import Derived.Test.YtjeecpgcokjjjaaCutsEq
namespace Go.Proofs.Ytjeecpgcokjjjaa
open Go.RowKit Go.Shelf

attribute [local go_sem] Oper.semAt_some

/-- Between two rounds: what the variables hold. -/
def ToldI (w : World) (s : ByteArray) (p : Nat) (left deep : Int) (Bs Bp : Nat) (pre : List Nat) (W : World) : Prop :=
  pre = List.range pre.length ∧ (At W (w.heap.size) #[.func (.func 33) #[] #[.pointer (some ⟨Bs, 0, none⟩), .pointer (some ⟨Bp, 0, none⟩)]] 41 ∧ At W (w.heap.size + 1) #[.string s] 9 ∧ At W (w.heap.size + 1 + 1) #[.int .u8 (p : Int)] 5 ∧ At W (w.heap.size + 1 + 1 + 1) #[.int .i64 left] 3 ∧ At W (w.heap.size + 1 + 1 + 1 + 1) #[.int .i64 deep] 3 ∧ At W (w.heap.size + 1 + 1 + 1 + 1 + 1) #[.bool false] 4 ∧ At W (w.heap.size + 1 + 1 + 1 + 1 + 1 + 1) #[.int .i64 ((pre.length : Nat) : Int)] 3) ∧ Below w.heap.size w W
/-- A round has left: by a return, with true, or with a block that is none of the text's. -/
def ToldX (w : World) (s : ByteArray) (c : Code) (pre : List Nat) (W : World) : Prop :=
  c = .ret ∧ ((¬ ∃ k, k ≤ blocksOf s ∧ pre = List.range k) ∨ At W (w.heap.size + 1 + 1 + 1 + 1 + 1) #[.bool true] 4) ∧ (∃ v, At W (w.heap.size + 1 + 1 + 1 + 1 + 1) #[.bool v] 4) ∧ Below w.heap.size w W
/-- The frame in which a round's body begins. -/
def ToldA (w : World) (s : ByteArray) (p : Nat) (left deep : Int) (Bs Bp : Nat) (x : Nat) (a' : Act) (W : World) : Prop :=
  ∃ (g A : Nat) (L : List Value), Hid (A = 64 * min x (blocksOf s)) ∧ Hid (L.toArray = arr64 (cutF s (A : Int) p)) ∧ Hid (L.length = 64) ∧ w.heap.size + 1 + 1 + 1 + 1 + 1 + 1 < g ∧ At W g L.toArray 33 ∧ a' = { tmps := #[.func (.func 33) #[] #[.pointer (some ⟨Bs, 0, none⟩), .pointer (some ⟨Bp, 0, none⟩)], .string s, .int .u8 (p : Int), .int .i64 left, .int .i64 deep, .pointer (some ⟨w.heap.size, 0, none⟩), .pointer (some ⟨w.heap.size + 1, 0, none⟩), .pointer (some ⟨w.heap.size + 1 + 1, 0, none⟩), .pointer (some ⟨w.heap.size + 1 + 1 + 1, 0, none⟩), .pointer (some ⟨w.heap.size + 1 + 1 + 1 + 1, 0, none⟩), .pointer (some ⟨w.heap.size + 1 + 1 + 1 + 1 + 1, 0, none⟩), .pointer (some ⟨w.heap.size + 1 + 1 + 1 + 1 + 1 + 1, 0, none⟩), .int .i64 (A : Int), .pointer (some ⟨g, 0, none⟩), undef, undef, .func (.func 33) #[] #[.pointer (some ⟨Bs, 0, none⟩), .pointer (some ⟨Bp, 0, none⟩)], .int .i64 (A : Int), .agg L.toArray, undef, undef, undef, undef, undef, undef, undef, undef, undef, undef, undef, undef, undef, undef, undef, undef, undef, undef, undef, undef, undef, undef, undef, undef, undef, undef, undef, undef, undef, undef, undef, undef, undef, undef, undef, undef, undef, undef, undef, undef, undef, undef, undef, undef, undef, undef, undef, undef, undef, undef, undef, undef, undef, undef, undef, undef, undef, undef, undef, undef, undef], defers := [] }

section
variable {w : World} {s : ByteArray} {p : Nat} {left deep : Int} {Bs Bp : Nat} {B : Nat}
theorem toldI_own (hB : w.heap.size ≤ B) : OwnFrom B (ToldI w s p left deep Bs Bp) := fun t X Y row hs hg hr => by
  obtain ⟨h0, ⟨h1, h2, h3, h4, h5, h6, h7⟩, hb⟩ := hs
  have hr' := fun r e => (hr r e).2
  exact ⟨h0, ⟨h1.own hg hr', h2.own hg hr', h3.own hg hr', h4.own hg hr', h5.own hg hr', h6.own hg hr', h7.own hg hr'⟩, ownFrom_below (β := List Nat) (Nat.le_refl _) hB t X Y row hb hg hr⟩
theorem toldX_own (hB : w.heap.size ≤ B) (c : Code) : OwnFrom B (ToldX w s c) := fun t X Y row hs hg hr => by
  obtain ⟨h0, h1, ⟨v, h2⟩, hb⟩ := hs
  have hr' := fun r e => (hr r e).2
  refine ⟨h0, ?_, ⟨v, h2.own hg hr'⟩, ownFrom_below (β := List Nat) (Nat.le_refl _) hB t X Y row hb hg hr⟩
  rcases h1 with h1 | h1
  · exact .inl h1
  · exact .inr (h1.own hg hr')
theorem toldA_own (x : Nat) (a' : Act) : OwnFrom B (fun (_ : Unit) W => ToldA w s p left deep Bs Bp x a' W) := fun _ X Y row hs hg hr => by
  obtain ⟨g, A, L, h1, h2, h3, h4, h5, h6⟩ := hs
  exact ⟨g, A, L, h1, h2, h3, h4, h5.own hg (fun r e => (hr r e).2), h6⟩
theorem toldI_kept {pre : List Nat} {X Y : World} (h : ToldI w s p left deep Bs Bp pre X) (hb : Below X.heap.size X Y) : ToldI w s p left deep Bs Bp pre Y := by
  obtain ⟨h0, ⟨h1, h2, h3, h4, h5, h6, h7⟩, hB⟩ := h
  exact ⟨h0, ⟨h1.keptAll hb, h2.keptAll hb, h3.keptAll hb, h4.keptAll hb, h5.keptAll hb, h6.keptAll hb, h7.keptAll hb⟩, hB.trans (hb.mono hB.size)⟩
end

set_option maxRecDepth 100000 in
set_option maxHeartbeats 8000000 in
theorem told_in (s : ByteArray) (hs : s.size ≤ 9223372036854775000) (p : Nat) (left deep : Int) (hdp : deep ≤ 9223372036854775807) (Bs Bp : Nat) (w : World)
    (hBs : Bs < w.heap.size) (hBp : Bp < w.heap.size) (cs : w.cell? ⟨Bs, 0, none⟩ = some (.string s)) (cp : w.cell? ⟨Bp, 0, none⟩ = some (.int .u8 (p : Int)))
    (Hself : Hid (0 < deep → ∀ (left' : Int) (wx : World), Below w.heap.size w wx → Calls Try.prog 26 #[.func (.func 33) #[] #[.pointer (some ⟨Bs, 0, none⟩), .pointer (some ⟨Bp, 0, none⟩)], .string s, .int .u8 (p : Int), .int .i64 left', .int .i64 (deep - 1)] wx fun e w' => e = .returned (.bool true) ∧ Below wx.heap.size wx w')) :
    CallsIn Fence.wide 3 Try.prog 26 #[.func (.func 33) #[] #[.pointer (some ⟨Bs, 0, none⟩), .pointer (some ⟨Bp, 0, none⟩)], .string s, .int .u8 (p : Int), .int .i64 left, .int .i64 deep] w fun e w' => e = .returned (.bool true) ∧ Below w.heap.size w w' := by
  refine callsIn_of_wp_marks Try.func26 rfl trivial ?_ rfl
  simp only [Try.ntmps26, List.size_toArray, List.length_cons, List.length_nil, Nat.reduceAdd, Nat.reduceSub, Array.replicate_succ, Array.replicate_zero, List.push_toArray, List.append_toArray, List.nil_append, List.cons_append]
  gi_wp2
  have hI0 : ToldI w s p left deep Bs Bp [] (((((((w.alloc (.cells #[.func (.func 33) #[] #[.pointer (some ⟨Bs, 0, none⟩), .pointer (some ⟨Bp, 0, none⟩)]] 41)).alloc (.cells #[.string s] 9)).alloc (.cells #[.int .u8 (p : Int)] 5)).alloc (.cells #[.int .i64 left] 3)).alloc (.cells #[.int .i64 deep] 3)).alloc (.cells #[.bool false] 4)).alloc (.cells #[.int .i64 0] 3)) := by
    refine ⟨rfl, ⟨?_, ?_, ?_, ?_, ?_, ?_, ?_⟩, by repeat (first | with_reducible exact Below.refl _ _ | with_reducible refine Below.setCell ?_ (by first | (simp; done) | (simp; omega)) _ | with_reducible refine below_drewN ?_ _ | with_reducible refine Below.alloc ?_ (by first | (simp; done) | (simp; omega)) _ | with_reducible refine Below.drew ?_)⟩
    · exact ((((((At.new w _ _).alloc _).alloc _).alloc _).alloc _).alloc _).alloc _
    · have h := (((((At.new (w.alloc (.cells #[.func (.func 33) #[] #[.pointer (some ⟨Bs, 0, none⟩), .pointer (some ⟨Bp, 0, none⟩)]] 41)) #[.string s] 9).alloc (.cells #[.int .u8 (p : Int)] 5)).alloc (.cells #[.int .i64 left] 3)).alloc (.cells #[.int .i64 deep] 3)).alloc (.cells #[.bool false] 4)).alloc (.cells #[.int .i64 0] 3)
      simpa using h
    · have h := ((((At.new ((w.alloc (.cells #[.func (.func 33) #[] #[.pointer (some ⟨Bs, 0, none⟩), .pointer (some ⟨Bp, 0, none⟩)]] 41)).alloc (.cells #[.string s] 9)) #[.int .u8 (p : Int)] 5).alloc (.cells #[.int .i64 left] 3)).alloc (.cells #[.int .i64 deep] 3)).alloc (.cells #[.bool false] 4)).alloc (.cells #[.int .i64 0] 3)
      simpa using h
    · have h := (((At.new (((w.alloc (.cells #[.func (.func 33) #[] #[.pointer (some ⟨Bs, 0, none⟩), .pointer (some ⟨Bp, 0, none⟩)]] 41)).alloc (.cells #[.string s] 9)).alloc (.cells #[.int .u8 (p : Int)] 5)) #[.int .i64 left] 3).alloc (.cells #[.int .i64 deep] 3)).alloc (.cells #[.bool false] 4)).alloc (.cells #[.int .i64 0] 3)
      simpa using h
    · have h := ((At.new ((((w.alloc (.cells #[.func (.func 33) #[] #[.pointer (some ⟨Bs, 0, none⟩), .pointer (some ⟨Bp, 0, none⟩)]] 41)).alloc (.cells #[.string s] 9)).alloc (.cells #[.int .u8 (p : Int)] 5)).alloc (.cells #[.int .i64 left] 3)) #[.int .i64 deep] 3).alloc (.cells #[.bool false] 4)).alloc (.cells #[.int .i64 0] 3)
      simpa using h
    · have h := (At.new (((((w.alloc (.cells #[.func (.func 33) #[] #[.pointer (some ⟨Bs, 0, none⟩), .pointer (some ⟨Bp, 0, none⟩)]] 41)).alloc (.cells #[.string s] 9)).alloc (.cells #[.int .u8 (p : Int)] 5)).alloc (.cells #[.int .i64 left] 3)).alloc (.cells #[.int .i64 deep] 3)) #[.bool false] 4).alloc (.cells #[.int .i64 0] 3)
      simpa using h
    · have h := At.new ((((((w.alloc (.cells #[.func (.func 33) #[] #[.pointer (some ⟨Bs, 0, none⟩), .pointer (some ⟨Bp, 0, none⟩)]] 41)).alloc (.cells #[.string s] 9)).alloc (.cells #[.int .u8 (p : Int)] 5)).alloc (.cells #[.int .i64 left] 3)).alloc (.cells #[.int .i64 deep] 3)).alloc (.cells #[.bool false] 4)) #[.int .i64 0] 3
      simpa using h
  have hz0 : (((((((w.alloc (.cells #[.func (.func 33) #[] #[.pointer (some ⟨Bs, 0, none⟩), .pointer (some ⟨Bp, 0, none⟩)]] 41)).alloc (.cells #[.string s] 9)).alloc (.cells #[.int .u8 (p : Int)] 5)).alloc (.cells #[.int .i64 left] 3)).alloc (.cells #[.int .i64 deep] 3)).alloc (.cells #[.bool false] 4)).alloc (.cells #[.int .i64 0] 3)).heap.size = w.heap.size + 1 + 1 + 1 + 1 + 1 + 1 + 1 := by simp
  generalize ((((((w.alloc (.cells #[.func (.func 33) #[] #[.pointer (some ⟨Bs, 0, none⟩), .pointer (some ⟨Bp, 0, none⟩)]] 41)).alloc (.cells #[.string s] 9)).alloc (.cells #[.int .u8 (p : Int)] 5)).alloc (.cells #[.int .i64 left] 3)).alloc (.cells #[.int .i64 deep] 3)).alloc (.cells #[.bool false] 4)).alloc (.cells #[.int .i64 0] 3) = W0 at *
  have hB0 := hI0.2.2
  refine wpIn_rangeFunc_ownH rfl (n := 3) (by decide) (gf := 33) (lb := #[.pointer (some ⟨Bs, 0, none⟩), .pointer (some ⟨Bp, 0, none⟩)]) rfl trivial (enters_of Try.func33 (by kernel_rfl) rfl)
    (blocks_stops (3 - 1) Bs Bp w.heap.size s hs p W0 hBs hBp hB0.size ((hB0.cell (p := ⟨Bs, 0, none⟩) hBs).trans cs) ((hB0.cell (p := ⟨Bp, 0, none⟩) hBp).trans cp)) belowK_t (belowK_b hB0.size) (Below.refl _ _) (fun _ => rfl)
    (ToldI w s p left deep Bs Bp) (ToldX w s) (toldI_own hB0.size) (toldX_own hB0.size) hI0 (ToldA w s p left deep Bs Bp) (fun x a' => toldA_own x a') ?assign ?body ?done ?stop
  case assign =>
    intro l pre x W K hI hK
    obtain ⟨A, hA⟩ : ∃ A : Nat, Hid (A = 64 * min x (blocksOf s)) := ⟨_, rfl⟩
    obtain ⟨L, hLt, hLl⟩ := arr64_list (cutF s (A : Int) p)
    have hL1 := arr64_one _ hLt
    have hiL' : (Try.prog.info? 33).map (·.size) = some L.toArray.size := by rw [List.size_toArray, hLl]; exact info64
    have he : encB s p x = #[.int .i64 (A : Int), .agg L.toArray] := by rw [hLt, encB, hA.out]
    rw [he]
    obtain ⟨hth, W2, hW2, hA2, hB2⟩ := laid64 W L hLl
    have hK2 := fun a' => hK a' W2 ((keeps_below hB2).from _) (hB2.mono hI.2.2.size) (toldI_kept hI hB2)
    have hgt : w.heap.size + 1 + 1 + 1 + 1 + 1 + 1 < W.heap.size := hI.2.1.2.2.2.2.2.2.lt
    have hLH : Hid (L.toArray = arr64 (cutF s (A : Int) p)) := hLt
    clear hK hI hLt he
    gi_wp2_with (first | (refine wpListIn_store_want 33 _ _ (W.heap.size) 0 L.toArray hth hiL' (all_oneCell_toArray hL1) rfl rfl rfl (by rfl) ?_))
    exact ⟨W.heap.size, A, L, hA, hLH, hLl, hgt, hA2, rfl⟩
  case body =>
    rintro l pre x a' W hll ⟨rec, hrec⟩ hI ⟨g, A, L, hA, hL, hLl, hg, hAt, rfl⟩ hlt
    obtain ⟨hpre', ⟨h0, h1, h2, h3, h4, h5, h6⟩, hB⟩ := hI
    have hpre : Hid (pre = List.range pre.length) := hpre'
    clear hpre'
    have k1 := h1.cell 0
    have k2 := h2.cell 0
    simp only [List.getElem?_toArray, List.getElem?_cons_zero] at k1 k2
    gi_wp2_with fail
    refine ⟨trivial, ?_⟩
    have hAm : A ≤ 64 * blocksOf s := by rw [hA.out]; exact Nat.mul_le_mul_left _ (Nat.min_le_right _ _)
    have hms : 64 * blocksOf s ≤ s.size + 63 := by unfold blocksOf; omega
    refine (CallsIn.inRound l (callsIn_wide.2 (refCut_nat s (by omega) (A : Int) (by omega) (by omega) p _ rfl _))).mono ?_
    rintro e w1 ⟨rfl, hb1⟩
    rw [← hL.out]
    generalize cutN s (A : Int) = nn
    have hL1 := arr64_one _ hL.out
    have hiL : (Try.prog.info? 33).map (·.size) = some L.length := by rw [hLl.out]; exact info64
    have hiL' : (Try.prog.info? 33).map (·.size) = some L.toArray.size := by simpa using hiL
    obtain ⟨hth, W2, hW2, hA2, hB2⟩ := laid64 w1 L hLl.out
    have hbb : Below W.heap.size W W2 := hb1.trans (hB2.mono hb1.size)
    have r1 := (hAt.keptAll hbb).range rfl
    have r2 := hA2.range rfl
    have hneq := neq64_same (cutF s (A : Int) p)
    rw [← hL.out] at hneq
    have g0 := h0.keptAll hbb
    have g1 := h1.keptAll hbb
    have g2 := h2.keptAll hbb
    have g3 := h3.keptAll hbb
    have g4 := h4.keptAll hbb
    have g5 := h5.keptAll hbb
    have g6 := h6.keptAll hbb
    have hBW := hB.trans (hbb.mono hB.size)
    have hKW := keeps_below hbb
    have hKn : Below w.heap.size W W2 := hbb.mono hB.size
    clear k1 k2 h0 h1 h2 h3 h4 h5 h6 hAt hA2 hb1 hB2
    have k1 := g1.cell 0
    have k6 := g6.cell 0
    simp only [List.getElem?_toArray, List.getElem?_cons_zero] at k1 k6
    have f5 := g5.frozen 0
    have k5 := g5.cell 0
    simp only [List.getElem?_toArray, List.getElem?_cons_zero] at k5
    have f6 := g6.frozen 0
    have hmul : (64 : Int) * ((pre.length : Nat) : Int) ≤ 9223372036854775807 := by omega
    by_cases hx : x = pre.length
    · have hAe : ((A : Nat) : Int) = 64 * ((pre.length : Nat) : Int) := by rw [hA.out, hx, Nat.min_eq_left (by omega)]; simp
      have hAlt : (A : Int) < (s.size : Int) := by unfold blocksOf at hlt; omega
      have hAb : (((A : Nat) : Int) != 64 * ((pre.length : Nat) : Int)) = false := by rw [hAe]; simp
      have hge : decide (s.size ≤ A) = false := by simp; omega
      have hAH : Hid _ := hAe
      clear hAe
      have hpx : Hid (pre ++ [x] = List.range (pre ++ [x]).length) := by
        show _ = _
        rw [List.length_append, List.length_singleton, List.range_succ, ← hpre.out, hx]
      have hk3 := g3.cell 0
      have hk4 := g4.cell 0
      have hk0 := g0.cell 0
      have hk2 := g2.cell 0
      simp only [List.getElem?_toArray, List.getElem?_cons_zero] at hk3 hk4 hk0 hk2
      have hnl : (((pre ++ [x]).length : Nat) : Int) = ((pre.length : Nat) : Int) + 1 := by simp
      by_cases h3 : pre.length = 2
      · have h3i : ((pre.length : Nat) : Int) + 1 = 3 := by omega
        rw [h3i] at hnl
        clear h3
        obtain ⟨W3, hW3⟩ : ∃ W3, W2.setCell ⟨w.heap.size + 1 + 1 + 1 + 1 + 1 + 1, 0, none⟩ (.int .i64 (3)) = W3 := ⟨_, rfl⟩
        have t0 := g0.other (p := ⟨w.heap.size + 1 + 1 + 1 + 1 + 1 + 1, 0, none⟩) (by show w.heap.size ≠ w.heap.size + 1 + 1 + 1 + 1 + 1 + 1; omega) (.int .i64 (3))
        have t1 := g1.other (p := ⟨w.heap.size + 1 + 1 + 1 + 1 + 1 + 1, 0, none⟩) (by show w.heap.size + 1 ≠ w.heap.size + 1 + 1 + 1 + 1 + 1 + 1; omega) (.int .i64 (3))
        have t2 := g2.other (p := ⟨w.heap.size + 1 + 1 + 1 + 1 + 1 + 1, 0, none⟩) (by show w.heap.size + 1 + 1 ≠ w.heap.size + 1 + 1 + 1 + 1 + 1 + 1; omega) (.int .i64 (3))
        have t3 := g3.other (p := ⟨w.heap.size + 1 + 1 + 1 + 1 + 1 + 1, 0, none⟩) (by show w.heap.size + 1 + 1 + 1 ≠ w.heap.size + 1 + 1 + 1 + 1 + 1 + 1; omega) (.int .i64 (3))
        have t4 := g4.other (p := ⟨w.heap.size + 1 + 1 + 1 + 1 + 1 + 1, 0, none⟩) (by show w.heap.size + 1 + 1 + 1 + 1 ≠ w.heap.size + 1 + 1 + 1 + 1 + 1 + 1; omega) (.int .i64 (3))
        have t5 := g5.other (p := ⟨w.heap.size + 1 + 1 + 1 + 1 + 1 + 1, 0, none⟩) (by show w.heap.size + 1 + 1 + 1 + 1 + 1 ≠ w.heap.size + 1 + 1 + 1 + 1 + 1 + 1; omega) (.int .i64 (3))
        have t6 := g6.set 0 (.int .i64 (3))
        have hBt := hBW.setCell (p := ⟨w.heap.size + 1 + 1 + 1 + 1 + 1 + 1, 0, none⟩) (by show w.heap.size ≤ w.heap.size + 1 + 1 + 1 + 1 + 1 + 1; omega) (.int .i64 (3))
        have hKt := hKW.trans (KeepsOthers.setCell W2 ⟨w.heap.size + 1 + 1 + 1 + 1 + 1 + 1, 0, none⟩ (.int .i64 (3)))
        have hKk := hKn.setCell (p := ⟨w.heap.size + 1 + 1 + 1 + 1 + 1 + 1, 0, none⟩) (by show w.heap.size ≤ w.heap.size + 1 + 1 + 1 + 1 + 1 + 1; omega) (.int .i64 (3))
        rw [hW3] at t0 t1 t2 t3 t4 t5 t6 hBt hKt hKk
        have c0 := t0.cell 0
        have c1 := t1.cell 0
        have c2 := t2.cell 0
        have c3 := t3.cell 0
        have c4 := t4.cell 0
        have c5 := t5.cell 0
        have c6 := t6.cell 0
        have cf := t5.frozen 0
        simp only [List.getElem?_toArray, List.getElem?_cons_zero] at c0 c1 c2 c3 c4 c5
        simp only [List.setIfInBounds_toArray, List.set_cons_zero, List.getElem?_toArray, List.getElem?_cons_zero] at c6
        gi_wp2_with (first | (refine wpListIn_store_want 33 _ _ (w1.heap.size) 0 L.toArray hth hiL' (all_oneCell_toArray hL1) rfl rfl rfl (by rfl) ?_) | (refine wpListIn_load_want 33 _ (w1.heap.size) 0 L _ r2 Try.underlying33 hiL rfl rfl rfl (by rfl) ?_) | (refine wpListIn_load_want 33 _ (g) 0 L _ r1 Try.underlying33 hiL rfl rfl rfl (by rfl) ?_))
        · have hd : 0 < deep := by first | assumption | omega | (simp at *; omega)
          refine ⟨trivial, ?_⟩
          refine (CallsIn.inRound l (callsIn_wide.2 (Hself.out hd _ W3 hBt))).mono ?_
          rintro e w4 ⟨rfl, hb4⟩
          have u0 := t0.keptAll hb4
          have u1 := t1.keptAll hb4
          have u2 := t2.keptAll hb4
          have u3 := t3.keptAll hb4
          have u4 := t4.keptAll hb4
          have u5 := t5.keptAll hb4
          have u6 := t6.keptAll hb4
          have hBu := hBt.trans (hb4.mono hBt.size)
          have hKu := hKt.trans (keeps_below hb4)
          have hKv := hKk.trans (hb4.mono hBt.size)
          clear c0 c1 c2 c3 c4 c5 c6 cf t0 t1 t2 t3 t4 t5 t6 hb4 hW3
          have q0 := u0.cell 0
          have q1 := u1.cell 0
          have q2 := u2.cell 0
          have q3 := u3.cell 0
          have q4 := u4.cell 0
          have q5 := u5.cell 0
          have q6 := u6.cell 0
          have qf := u5.frozen 0
          simp only [List.getElem?_toArray, List.getElem?_cons_zero] at q0 q1 q2 q3 q4 q5
          simp only [List.setIfInBounds_toArray, List.set_cons_zero, List.getElem?_toArray, List.getElem?_cons_zero] at q6
          gi_wp2
          · refine ⟨(hKu.trans (KeepsOthers.setCell _ _ _)).from _, rfl, .inr (u5.set 0 (.bool true)), ⟨true, u5.set 0 (.bool true)⟩, hBu.setCell (p := ⟨w.heap.size + 1 + 1 + 1 + 1 + 1, 0, none⟩) (by show w.heap.size ≤ w.heap.size + 1 + 1 + 1 + 1 + 1; omega) _⟩
          · refine ⟨hKu.from _, hKv, hpx.out, ⟨u0, u1, u2, u3, u4, u5, ?_⟩, hBu⟩
            rw [hnl]
            exact u6
        · refine ⟨trivial, ?_⟩
          gi_wp2
          · refine ⟨(hKt.trans (KeepsOthers.setCell _ _ _)).from _, rfl, .inr (t5.set 0 (.bool true)), ⟨true, t5.set 0 (.bool true)⟩, hBt.setCell (p := ⟨w.heap.size + 1 + 1 + 1 + 1 + 1, 0, none⟩) (by show w.heap.size ≤ w.heap.size + 1 + 1 + 1 + 1 + 1; omega) _⟩
          · refine ⟨hKt.from _, hKk, hpx.out, ⟨t0, t1, t2, t3, t4, t5, ?_⟩, hBt⟩
            rw [hnl]
            exact t6
      · have h3b : (((pre.length : Nat) : Int) + 1 == 3) = false := by simp; omega
        obtain ⟨W3, hW3⟩ : ∃ W3, W2.setCell ⟨w.heap.size + 1 + 1 + 1 + 1 + 1 + 1, 0, none⟩ (.int .i64 (((pre.length : Nat) : Int) + 1)) = W3 := ⟨_, rfl⟩
        have t0 := g0.other (p := ⟨w.heap.size + 1 + 1 + 1 + 1 + 1 + 1, 0, none⟩) (by show w.heap.size ≠ w.heap.size + 1 + 1 + 1 + 1 + 1 + 1; omega) (.int .i64 (((pre.length : Nat) : Int) + 1))
        have t1 := g1.other (p := ⟨w.heap.size + 1 + 1 + 1 + 1 + 1 + 1, 0, none⟩) (by show w.heap.size + 1 ≠ w.heap.size + 1 + 1 + 1 + 1 + 1 + 1; omega) (.int .i64 (((pre.length : Nat) : Int) + 1))
        have t2 := g2.other (p := ⟨w.heap.size + 1 + 1 + 1 + 1 + 1 + 1, 0, none⟩) (by show w.heap.size + 1 + 1 ≠ w.heap.size + 1 + 1 + 1 + 1 + 1 + 1; omega) (.int .i64 (((pre.length : Nat) : Int) + 1))
        have t3 := g3.other (p := ⟨w.heap.size + 1 + 1 + 1 + 1 + 1 + 1, 0, none⟩) (by show w.heap.size + 1 + 1 + 1 ≠ w.heap.size + 1 + 1 + 1 + 1 + 1 + 1; omega) (.int .i64 (((pre.length : Nat) : Int) + 1))
        have t4 := g4.other (p := ⟨w.heap.size + 1 + 1 + 1 + 1 + 1 + 1, 0, none⟩) (by show w.heap.size + 1 + 1 + 1 + 1 ≠ w.heap.size + 1 + 1 + 1 + 1 + 1 + 1; omega) (.int .i64 (((pre.length : Nat) : Int) + 1))
        have t5 := g5.other (p := ⟨w.heap.size + 1 + 1 + 1 + 1 + 1 + 1, 0, none⟩) (by show w.heap.size + 1 + 1 + 1 + 1 + 1 ≠ w.heap.size + 1 + 1 + 1 + 1 + 1 + 1; omega) (.int .i64 (((pre.length : Nat) : Int) + 1))
        have t6 := g6.set 0 (.int .i64 (((pre.length : Nat) : Int) + 1))
        have hBt := hBW.setCell (p := ⟨w.heap.size + 1 + 1 + 1 + 1 + 1 + 1, 0, none⟩) (by show w.heap.size ≤ w.heap.size + 1 + 1 + 1 + 1 + 1 + 1; omega) (.int .i64 (((pre.length : Nat) : Int) + 1))
        have hKt := hKW.trans (KeepsOthers.setCell W2 ⟨w.heap.size + 1 + 1 + 1 + 1 + 1 + 1, 0, none⟩ (.int .i64 (((pre.length : Nat) : Int) + 1)))
        have hKk := hKn.setCell (p := ⟨w.heap.size + 1 + 1 + 1 + 1 + 1 + 1, 0, none⟩) (by show w.heap.size ≤ w.heap.size + 1 + 1 + 1 + 1 + 1 + 1; omega) (.int .i64 (((pre.length : Nat) : Int) + 1))
        rw [hW3] at t0 t1 t2 t3 t4 t5 t6 hBt hKt hKk
        have c0 := t0.cell 0
        have c1 := t1.cell 0
        have c2 := t2.cell 0
        have c3 := t3.cell 0
        have c4 := t4.cell 0
        have c5 := t5.cell 0
        have c6 := t6.cell 0
        have cf := t5.frozen 0
        simp only [List.getElem?_toArray, List.getElem?_cons_zero] at c0 c1 c2 c3 c4 c5
        simp only [List.setIfInBounds_toArray, List.set_cons_zero, List.getElem?_toArray, List.getElem?_cons_zero] at c6
        gi_wp2_with (first | (refine wpListIn_store_want 33 _ _ (w1.heap.size) 0 L.toArray hth hiL' (all_oneCell_toArray hL1) rfl rfl rfl (by rfl) ?_) | (refine wpListIn_load_want 33 _ (w1.heap.size) 0 L _ r2 Try.underlying33 hiL rfl rfl rfl (by rfl) ?_) | (refine wpListIn_load_want 33 _ (g) 0 L _ r1 Try.underlying33 hiL rfl rfl rfl (by rfl) ?_))
        refine ⟨trivial, ?_⟩
        gi_wp2
        · refine ⟨(hKt.trans (KeepsOthers.setCell _ _ _)).from _, rfl, .inr (t5.set 0 (.bool true)), ⟨true, t5.set 0 (.bool true)⟩, hBt.setCell (p := ⟨w.heap.size + 1 + 1 + 1 + 1 + 1, 0, none⟩) (by show w.heap.size ≤ w.heap.size + 1 + 1 + 1 + 1 + 1; omega) _⟩
        · refine ⟨hKt.from _, hKk, hpx.out, ⟨t0, t1, t2, t3, t4, t5, ?_⟩, hBt⟩
          rw [hnl]
          exact t6
    · have hAne : ¬ ((A : Nat) : Int) = 64 * ((pre.length : Nat) : Int) := by
        rw [hA.out]
        have : min x (blocksOf s) ≠ pre.length := by omega
        omega
      have hAb : (((A : Nat) : Int) != 64 * ((pre.length : Nat) : Int)) = true := by simpa using hAne
      gi_wp2_with (first | (refine wpListIn_store_want 33 _ _ (w1.heap.size) 0 L.toArray hth hiL' (all_oneCell_toArray hL1) rfl rfl rfl (by rfl) ?_) | (refine wpListIn_load_want 33 _ (w1.heap.size) 0 L _ r2 Try.underlying33 hiL rfl rfl rfl (by rfl) ?_) | (refine wpListIn_load_want 33 _ (g) 0 L _ r1 Try.underlying33 hiL rfl rfl rfl (by rfl) ?_))
      refine ⟨(hKW.trans (KeepsOthers.setCell _ _ _)).from _, rfl, .inl ?_, ⟨false, g5.set 0 (.bool false)⟩, hBW.setCell (p := ⟨w.heap.size + 1 + 1 + 1 + 1 + 1, 0, none⟩) (by show w.heap.size ≤ w.heap.size + 1 + 1 + 1 + 1 + 1; omega) _⟩
      rintro ⟨k, _, hk⟩
      have hkl := congrArg List.length hk
      simp only [List.length_append, List.length_cons, List.length_nil, List.length_range] at hkl
      rw [← hkl, List.range_succ] at hk
      have := (List.append_inj hk (by simp)).2
      simp at this
      exact hx this
  case done =>
    rintro D ys W hD rfl hI hK
    obtain ⟨-, ⟨h0, h1, h2, h3, h4, h5, h6⟩, hB⟩ := hI
    rw [List.length_range] at h6
    have k1 := h1.cell 0
    have k5 := h5.cell 0
    have k6 := h6.cell 0
    have f5 := h5.frozen 0
    simp only [List.getElem?_toArray, List.getElem?_cons_zero] at k1 k5 k6
    have hM1 : s.size ≤ 64 * blocksOf s := by unfold blocksOf; omega
    have hM2 : blocksOf s = 0 ∨ 64 * (blocksOf s - 1) < s.size := by unfold blocksOf; omega
    have hM3 : 64 * blocksOf s ≤ 9223372036854775800 := by unfold blocksOf; omega
    generalize blocksOf s = M at hM1 hM2 hM3 k6
    clear h0 h1 h2 h3 h4 h6 Hself
    have hK' := (KeepsOthers.setCell W ⟨w.heap.size + 1 + 1 + 1 + 1 + 1, 0, none⟩ (.bool true)).same D _ hK rfl
    have hc5 := cell_kept (World.cell?_setCell_same' W ⟨w.heap.size + 1 + 1 + 1 + 1 + 1, 0, none⟩ (.bool true) (by rw [k5]; rfl)) (grownBy_putObj' _ D (.deferred none)) (fun r e => by cases e; exact ⟨_, hK', rfl⟩)
    have hBe := hB.setCell (p := ⟨w.heap.size + 1 + 1 + 1 + 1 + 1, 0, none⟩) (by show w.heap.size ≤ w.heap.size + 1 + 1 + 1 + 1 + 1; omega) (.bool true)
    by_cases hM : M = 0
    · have hz : s.size = 0 := by omega
      subst hM
      gi_wp2
      refine ⟨by simp, .inl ⟨_, _, rfl, run_takeDeferred hK', ?_⟩⟩
      refine ⟨.bool true, ?_, rfl, hBe.trans (belowK_b (w := w) (Nat.le_refl _) _ D _ _ (by omega) hK' rfl rfl)⟩
      simp [results, Try.f26, go_sem, hc5]
    · have hMi : ((M : Nat) : Int) ≤ 144115188075855871 := by omega
      have hMz : (((M : Nat) : Int) == 0) = false := by simpa using hM
      have hge : decide ((s.size : Int) ≤ 64 * ((M : Nat) : Int)) = true := by simp; omega
      have hlt : decide (64 * (((M : Nat) : Int) - 1) < (s.size : Int)) = true := by simp; omega
      gi_wp2
      refine ⟨by simp, .inl ⟨_, _, rfl, run_takeDeferred hK', ?_⟩⟩
      refine ⟨.bool true, ?_, rfl, hBe.trans (belowK_b (w := w) (Nat.le_refl _) _ D _ _ (by omega) hK' rfl rfl)⟩
      simp [results, Try.f26, go_sem, hc5]
  case stop =>
    rintro D c pre W hD hpre hX hK
    obtain ⟨rfl, hX, -, hB⟩ := hX
    rcases hX with hX | hX
    · exact absurd hpre hX
    have k5 := hX.cell 0
    simp only [List.getElem?_toArray, List.getElem?_cons_zero] at k5
    clear Hself
    gi_wp2
    refine ⟨by simp, .inl ⟨_, _, rfl, run_takeDeferred hK, ?_⟩⟩
    have hc5 := cell_kept k5 (grownBy_putObj' _ D (.deferred none)) (fun r e => by cases e; exact ⟨_, hK, rfl⟩)
    refine ⟨.bool true, ?_, rfl, hB.trans (belowK_b (w := w) (Nat.le_refl _) W D _ _ (by omega) hK rfl rfl)⟩
    simp [results, Try.f26, go_sem, hc5]

theorem told_calls (s : ByteArray) (hs : s.size ≤ 9223372036854775000) (p : Nat) (Bs Bp : Nat) (d : Nat) (hd : d ≤ 1000) : ∀ (left : Int) (w : World)
    (_ : Bs < w.heap.size) (_ : Bp < w.heap.size) (_ : w.cell? ⟨Bs, 0, none⟩ = some (.string s)) (_ : w.cell? ⟨Bp, 0, none⟩ = some (.int .u8 (p : Int))),
    Calls Try.prog 26 #[.func (.func 33) #[] #[.pointer (some ⟨Bs, 0, none⟩), .pointer (some ⟨Bp, 0, none⟩)], .string s, .int .u8 (p : Int), .int .i64 left, .int .i64 (d : Int)] w fun e w' => e = .returned (.bool true) ∧ Below w.heap.size w w' := by
  induction d with
  | zero =>
    intro left w hBs hBp cs cp
    exact callsIn_wide.1 (told_in s hs p left _ (by omega) Bs Bp w hBs hBp cs cp (fun h => absurd h (by omega)))
  | succ d ih =>
    intro left w hBs hBp cs cp
    refine callsIn_wide.1 (told_in s hs p left _ (by omega) Bs Bp w hBs hBp cs cp (fun _ left' wx hb => ?_))
    have hz := hb.size
    have h := ih (by omega) left' wx (by omega) (by omega) ((hb.cell (p := ⟨Bs, 0, none⟩) hBs).trans cs) ((hb.cell (p := ⟨Bp, 0, none⟩) hBp).trans cp)
    have he : (((d + 1 : Nat) : Int) - 1) = ((d : Nat) : Int) := by omega
    rw [he]
    exact h
end Go.Proofs.Ytjeecpgcokjjjaa
