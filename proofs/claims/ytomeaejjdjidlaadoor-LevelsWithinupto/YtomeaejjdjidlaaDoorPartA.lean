/-
  What marks.kindOf and marks.split answer.
-/
import Derived.Test.YtomeaejjdjidlaaDoorMarkMath
import Derived.Test.YtomeaejjdjidlaaDoorQuoB
namespace Go.Proofs.YtomeaejjdjidlaaDoor
open Go.RowKit Go.Shelf

/-- What a byte is where it stands outside: 1 structural, 2 a blank, 0 of a word. -/
def kB (x : Nat) : Nat := if x == 123 || x == 125 || x == 91 || x == 93 || x == 58 || x == 44 then 1 else if x == 32 || x == 9 || x == 10 || x == 13 then 2 else 0
def tabM : List Nat := (List.range 128).map kB
/-- The program's table lies in its variable. -/
abbrev TabM (w : World) : Prop := TabAt 1 tabM w
theorem TabM.below {n₀ : Nat} {w w' : World} (h : TabM w) (hb : Below n₀ w w') (h0 : 1 < n₀) : TabM w' := fun j hj => (hb.cell (p := ⟨1, j, none⟩) h0).trans (h j hj)
theorem tabM_get {x : Nat} (h : x < 128) : tabM.getD x 0 = kB x := by simp [tabM, List.getD, h]
theorem kB_lt (x : Nat) : kB x < 3 := by
  unfold kB
  split
  · omega
  · split <;> omega
theorem kB_high {x : Nat} (h : 128 ≤ x) : kB x = 0 := by
  unfold kB
  rw [if_neg (by simp; omega), if_neg (by simp; omega)]
theorem kB_str (s : ByteArray) (i : Nat) : (kB (byteAt s i) == 1) = sgnB s i := by
  unfold kB sgnB
  generalize byteAt s i = x
  by_cases h : (x == 123 || x == 125 || x == 91 || x == 93 || x == 58 || x == 44) = true
  · rw [if_pos h, h]; rfl
  · rw [if_neg h, eq_false_of_ne_true h]
    split <;> rfl
theorem kB_blk (s : ByteArray) (i : Nat) : (kB (byteAt s i) == 2) = blkB s i := by
  have hx := sgn_blk s i
  unfold kB
  unfold sgnB at hx
  unfold blkB at hx ⊢
  generalize byteAt s i = x at hx ⊢
  by_cases h : (x == 123 || x == 125 || x == 91 || x == 93 || x == 58 || x == 44) = true
  · rw [if_pos h, hx h]; rfl
  · rw [if_neg h]
    by_cases h2 : (x == 32 || x == 9 || x == 10 || x == 13) = true
    · rw [if_pos h2, h2]; rfl
    · rw [if_neg h2, eq_false_of_ne_true h2]; rfl
theorem kB_word (s : ByteArray) (i : Nat) : (kB (byteAt s i) == 0) = (!sgnB s i && !blkB s i) := by
  rw [← kB_str, ← kB_blk]
  have := kB_lt (byteAt s i)
  generalize kB (byteAt s i) = k at *
  obtain rfl | rfl | rfl : k = 0 ∨ k = 1 ∨ k = 2 := by omega
  all_goals rfl

set_option maxRecDepth 10000 in
theorem kindOf_calls (x : Nat) (hx : x < 256) (K : Nat) (hK : Hid (kB x = K)) (w : World) (hT : TabM w) :
    Calls Tryd.prog 79 #[.int .u8 (x : Int)] w fun e w' => e = .returned (.int .u8 (K : Int)) ∧ w' = w := by
  go_enter Tryd.func79, Tryd.ntmps79
  by_cases h : x < 128
  · have hi : (x : Int) < 128 := by omega
    have hc : w.cell? ⟨1, x, none⟩ = some (.int .u8 (K : Int)) := by
      have := hT x (by simpa [tabM] using h)
      rw [tabM_get h, hK.out] at this
      exact this
    clear hT hK
    go_wp2
    go_ret
    exact ⟨rfl, rfl⟩
  · have hi : ¬ (x : Int) < 128 := by omega
    obtain rfl : K = 0 := by rw [← hK.out, kB_high (by omega)]
    clear hT hK
    go_wp2
    go_ret
    exact ⟨rfl, rfl⟩

/-- Which of a block's first n bytes are of the kind k. -/
def kdW (f : Nat → Nat) (k n : Nat) : Nat := mk (fun i => kB (f i) == k) n
theorem kdW_lt (f : Nat → Nat) (k n : Nat) (h : n ≤ 64) : kdW f k n < 18446744073709551616 := mk_lt64 _ n h
theorem kdW_next (f : Nat → Nat) (n c : Nat) : kdW f c (n + 1) = if c = kB (f n) then kdW f (kB (f n)) n ||| 2 ^ n else kdW f c n := by
  unfold kdW
  rw [mk_succ]
  by_cases h : c = kB (f n)
  · subst h
    simp
  · rw [if_neg (show ¬ (kB (f n) == c) = true by simp; omega), if_neg h, Nat.or_zero]

theorem sizePart : (Tryd.prog.info? 67).map (·.size) = some 5 := by kernel_rfl
theorem ret_part1 {fn : Func} {p : Tmp} {R : Ending → World → Prop} {a : Act} {w : World} {b : Nat} {x0 x1 x2 x3 x4 : Value} (hres : fn.results = #[.cell p 67]) (hp : a.tmps.getD p undef = .pointer (some ⟨b, 0, none⟩))
    (h : At w b #[x0, x1, x2, x3, x4] 67) (hd : a.defers = []) (hR : R (.returned (.agg #[x0, x1, x2, x3, x4])) w) : bodyPost Tryd.prog fn R .ret a w :=
  bodyPost_ret (v := .agg #[x0, x1, x2, x3, x4]) (results_cell_row (P := Tryd.prog) hres _ w b 67 #[x0, x1, x2, x3, x4] (0, 0) _ hp h Tryd.underlying67 rfl sizePart) hd hR
theorem At.five {w : World} {b : Nat} {x0 x1 x2 x3 x4 y0 y1 y2 y3 y4 : Value} {t : TypeId} (h : At w b #[x0, x1, x2, x3, x4] t) : At (((((w.setCell ⟨b, 0, none⟩ y0).setCell ⟨b, 1, none⟩ y1).setCell ⟨b, 2, none⟩ y2).setCell ⟨b, 3, none⟩ y3).setCell ⟨b, 4, none⟩ y4) b #[y0, y1, y2, y3, y4] t := by
  have := ((((h.set 0 y0).set 1 y1).set 2 y2).set 3 y3).set 4 y4
  simpa using this

set_option maxRecDepth 100000 in
set_option maxHeartbeats 1000000 in
theorem split_calls (f : Nat → Nat) (hf : ∀ i, f i < 256) (O P0 P1 P2 : Nat) (hO : O < 18446744073709551616) (h0 : Hid (kdW f 1 64 &&& O = P0)) (h1 : Hid (kdW f 2 64 &&& O = P1)) (h2 : Hid (kdW f 0 64 &&& O = P2)) (w : World) (hT : TabM w) (hw1 : 1 < w.heap.size) :
    Calls Tryd.prog 55 #[.agg (arr64 f), .int .u64 (O : Int)] w fun e w' => e = .returned (.agg #[.int .u64 (P0 : Int), .int .u64 (P1 : Int), .int .u64 (P2 : Int), .int .u64 0, .int .u64 0]) ∧ Below w.heap.size w w' := by
  have hkd := hid (fun (w1 : World) (hb : Below w.heap.size w w1) (x K : Nat) (hx : x < 256) (hK : Hid (kB x = K)) => kindOf_calls x hx K hK w1 (hT.below hb hw1))
  clear hT
  go_enter Tryd.func55, Tryd.ntmps55
  go_wp2
  go_loopw [6, 7, 8] (fun _ _ i wr => ∃ k : Nat, k ≤ 64 ∧ i = .int .i64 (k : Int) ∧ At wr w.heap.size (arr64 f) 80 ∧ At wr (w.heap.size + 1) #[.int .u64 0, .int .u64 0, .int .u64 0, .int .u64 0, .int .u64 0] 67 ∧
      At wr (w.heap.size + 1 + 1) (rowCells 3 (fun c => kdW f c k)) 117 ∧ Below w.heap.size w wr) (fun _ _ i _ => 64 - (intOf i).toNat)
  case atStart =>
    refine ⟨0, by omega, rfl, ((At.new w _ _).alloc _).alloc _, ?_, ?_, by repeat (first | with_reducible exact Below.refl _ _ | with_reducible refine Below.setCell ?_ (by first | (simp; done) | (simp; omega)) _ | with_reducible refine below_drewN ?_ _ | with_reducible refine Below.alloc ?_ (by first | (simp; done) | (simp; omega)) _ | with_reducible refine Below.drew ?_)⟩
    · have h := (At.new (w.alloc (.cells (arr64 f) 80)) #[.int .u64 0, .int .u64 0, .int .u64 0, .int .u64 0, .int .u64 0] 67).alloc (.cells #[.int .u64 0, .int .u64 0, .int .u64 0] 117)
      simpa using h
    · have h := At.new ((w.alloc (.cells (arr64 f) 80)).alloc (.cells #[.int .u64 0, .int .u64 0, .int .u64 0, .int .u64 0, .int .u64 0] 67)) #[.int .u64 0, .int .u64 0, .int .u64 0] 117
      rw [show rowCells 3 (fun c => kdW f c 0) = #[.int .u64 0, .int .u64 0, .int .u64 0] from rfl]
      simpa using h
  case round =>
    obtain ⟨k, hk, rfl, a1, a2, a3, hB⟩ := hrel
    by_cases hlt : k < 64
    · have hki : (k : Int) < 64 := by omega
      have c0 : wr.cell? ⟨w.heap.size, k, none⟩ = some (.int .u8 ((f k : Nat) : Int)) := (a1.cell _).trans (arr64_at f _ (by omega))
      obtain ⟨x, hx⟩ : ∃ x, Hid (f k = x) := ⟨_, rfl⟩
      have hxl : x < 256 := hx.out ▸ hf k
      obtain ⟨K, hK⟩ : ∃ K, Hid (kB x = K) := ⟨_, rfl⟩
      have hK3 : K < 3 := hK.out ▸ kB_lt x
      have hK3i : (K : Int) < 3 := by omega
      have d0 := a3.cell K
      have f0 := a3.frozen K
      rw [rowCells_get _ hK3] at d0
      obtain ⟨D, hD⟩ : ∃ D, Hid (kdW f K k = D) := ⟨_, rfl⟩
      have hDl : D < 18446744073709551616 := hD.out ▸ kdW_lt f K k (by omega)
      have e1 := or_pow hDl hlt
      rw [hD.out] at d0
      rw [hx.out] at c0
      have hkc := hid (fun (w1 : World) (hb : Below w.heap.size w w1) => hkd.out w1 hb x K hxl hK)
      have t1 := hid a1
      have t2 := hid a2
      have t3 := hid a3
      clear a1 a2 a3 hkd
      go_wp2
      go_region
      go_wp2
      go_region_with (first
        | (go_at_call 79; refine (hkc.out _ (by first | exact hB.drew.drew | exact hB.drew | exact hB)).mono ?_; rintro e w4 ⟨rfl, hw4⟩; obtain rfl := hw4.symm))
      all_goals
        go_wp2
        go_roundw
        case rel =>
          refine ⟨k + 1, by omega, by go_num, t1.out.other (p := ⟨w.heap.size + 1 + 1, K, none⟩) (by show w.heap.size ≠ w.heap.size + 1 + 1; omega) _, t2.out.other (p := ⟨w.heap.size + 1 + 1, K, none⟩) (by show w.heap.size + 1 ≠ w.heap.size + 1 + 1; omega) _, ?_, ?_⟩
          rotate_left
          · repeat (first | with_reducible exact hB | with_reducible refine Below.drew ?_ | refine Below.setCell (p := ⟨w.heap.size + 1 + 1, K, none⟩) ?_ (by show w.heap.size ≤ w.heap.size + 1 + 1; omega) _)
          have h1 := t3.out.set K (.int .u64 ((D ||| 2 ^ k : Nat) : Int))
          rw [rowCells_set] at h1
          rw [show rowCells 3 (fun c => kdW f c (k + 1)) = rowCells 3 (fun c => if c = K then D ||| 2 ^ k else kdW f c k) from rowCells_congr (fun c _ => by rw [kdW_next, hx.out, hK.out, hD.out])]
          exact h1
        case measure => simp [intOf]; omega
    · obtain rfl : k = 64 := by omega
      have d0 := a3.cell 0
      have d1 := a3.cell 1
      have d2 := a3.cell 2
      rw [rowCells_get _ (by omega)] at d0 d1 d2
      obtain ⟨D0, hD0⟩ : ∃ D, Hid (kdW f 0 64 = D) := ⟨_, rfl⟩
      obtain ⟨D1, hD1⟩ : ∃ D, Hid (kdW f 1 64 = D) := ⟨_, rfl⟩
      obtain ⟨D2, hD2⟩ : ∃ D, Hid (kdW f 2 64 = D) := ⟨_, rfl⟩
      rw [hD0.out] at d0
      rw [hD1.out] at d1
      rw [hD2.out] at d2
      have e0 : bits BinOp.and IntKind.u64 (D0 : Int) (O : Int) = (P2 : Int) := by rw [u64_and_nat D0 O (hD0.out ▸ kdW_lt f 0 64 (by omega)) hO, ← hD0.out, h2.out]
      have e1 : bits BinOp.and IntKind.u64 (D1 : Int) (O : Int) = (P0 : Int) := by rw [u64_and_nat D1 O (hD1.out ▸ kdW_lt f 1 64 (by omega)) hO, ← hD1.out, h0.out]
      have e2 : bits BinOp.and IntKind.u64 (D2 : Int) (O : Int) = (P1 : Int) := by rw [u64_and_nat D2 O (hD2.out ▸ kdW_lt f 2 64 (by omega)) hO, ← hD2.out, h1.out]
      have b0 := a2.cell 0
      have b1 := a2.cell 1
      have b2 := a2.cell 2
      have b3 := a2.cell 3
      have b4 := a2.cell 4
      have g0 := a2.frozen 0
      have g1 := a2.frozen 1
      have g2 := a2.frozen 2
      have g3 := a2.frozen 3
      have g4 := a2.frozen 4
      simp only [List.getElem?_toArray, List.getElem?_cons_zero, List.getElem?_cons_succ] at b0 b1 b2 b3 b4
      have t2 := hid a2
      clear a1 a2 a3 hkd hD0 hD1 hD2 h0 h1 h2
      go_wp2
      refine ret_part1 rfl rfl t2.out.five rfl ⟨rfl, ?_⟩
      exact ((((hB.setCell (p := ⟨w.heap.size + 1, 0, none⟩) (by show w.heap.size ≤ w.heap.size + 1; omega) _).setCell (p := ⟨w.heap.size + 1, 1, none⟩) (by show w.heap.size ≤ w.heap.size + 1; omega) _).setCell (p := ⟨w.heap.size + 1, 2, none⟩) (by show w.heap.size ≤ w.heap.size + 1; omega) _).setCell (p := ⟨w.heap.size + 1, 3, none⟩) (by show w.heap.size ≤ w.heap.size + 1; omega) _).setCell (p := ⟨w.heap.size + 1, 4, none⟩) (by show w.heap.size ≤ w.heap.size + 1; omega) _
end Go.Proofs.YtomeaejjdjidlaaDoor
