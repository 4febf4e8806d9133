/-
  PartA, PartB, PartC, PartD, one behind the other.
-/
import Derived.Test.YtlckhiflhnlgpabGreatDoorMarkMath
import Derived.Test.YtlckhiflhnlgpabGreatDoorQuoE
import Derived.Test.YtlckhiflhnlgpabGreatDoorJoinGives
/- What marks.kindOf and marks.split answer. -/
namespace Go.Proofs.YtlckhiflhnlgpabGreatDoor
open Go.RowKit Go.Shelf

/-- What a byte is where it stands outside: 1 structural, 2 a blank, 0 of a word. -/
def kB (x : Nat) : Nat := if x == 123 || x == 125 || x == 91 || x == 93 || x == 58 || x == 44 then 1 else if x == 32 || x == 9 || x == 10 || x == 13 then 2 else 0
def tabM : List Nat := (List.range 128).map kB
/-- The program's table lies in its variable. -/
abbrev TabM (w : World) : Prop := TabAt 1 tabM w
theorem TabM.below {n₀ : Nat} {w w' : World} (h : TabM w) (hb : Below n₀ w w') (h0 : 1 < n₀) : TabM w' := fun j hj => (hb.cell (p := ⟨1, j, none⟩) h0).trans (h j hj)
theorem tabM_get {x : Nat} (h : x < 128) : tabM.getD x 0 = kB x := by simp [tabM, List.getD, h]
theorem kB_lt (x : Nat) : kB x < 3 := by
  unfold kB
  split
  · omega
  · split <;> omega
theorem kB_high {x : Nat} (h : 128 ≤ x) : kB x = 0 := by
  unfold kB
  rw [if_neg (by simp; omega), if_neg (by simp; omega)]
theorem kB_str (s : ByteArray) (i : Nat) : (kB (byteAt s i) == 1) = sgnB s i := by
  unfold kB sgnB
  generalize byteAt s i = x
  by_cases h : (x == 123 || x == 125 || x == 91 || x == 93 || x == 58 || x == 44) = true
  · rw [if_pos h, h]; rfl
  · rw [if_neg h, eq_false_of_ne_true h]
    split <;> rfl
theorem kB_blk (s : ByteArray) (i : Nat) : (kB (byteAt s i) == 2) = blkB s i := by
  have hx := sgn_blk s i
  unfold kB
  unfold sgnB at hx
  unfold blkB at hx ⊢
  generalize byteAt s i = x at hx ⊢
  by_cases h : (x == 123 || x == 125 || x == 91 || x == 93 || x == 58 || x == 44) = true
  · rw [if_pos h, hx h]; rfl
  · rw [if_neg h]
    by_cases h2 : (x == 32 || x == 9 || x == 10 || x == 13) = true
    · rw [if_pos h2, h2]; rfl
    · rw [if_neg h2, eq_false_of_ne_true h2]; rfl
theorem kB_word (s : ByteArray) (i : Nat) : (kB (byteAt s i) == 0) = (!sgnB s i && !blkB s i) := by
  rw [← kB_str, ← kB_blk]
  have := kB_lt (byteAt s i)
  generalize kB (byteAt s i) = k at *
  obtain rfl | rfl | rfl : k = 0 ∨ k = 1 ∨ k = 2 := by omega
  all_goals rfl

set_option maxRecDepth 10000 in
theorem kindOf_calls (x : Nat) (hx : x < 256) (K : Nat) (hK : Hid (kB x = K)) (w : World) (hT : TabM w) :
    Calls Tryz.prog 47 #[.int .u8 (x : Int)] w fun e w' => e = .returned (.int .u8 (K : Int)) ∧ w' = w := by
  go_enter Tryz.func47, Tryz.ntmps47
  by_cases h : x < 128
  · have hi : (x : Int) < 128 := by omega
    have hc : w.cell? ⟨1, x, none⟩ = some (.int .u8 (K : Int)) := by
      have := hT x (by simpa [tabM] using h)
      rw [tabM_get h, hK.out] at this
      exact this
    clear hT hK
    go_wp2
    go_ret
    exact ⟨rfl, rfl⟩
  · have hi : ¬ (x : Int) < 128 := by omega
    obtain rfl : K = 0 := by rw [← hK.out, kB_high (by omega)]
    clear hT hK
    go_wp2
    go_ret
    exact ⟨rfl, rfl⟩

/-- Which of a block's first n bytes are of the kind k. -/
def kdW (f : Nat → Nat) (k n : Nat) : Nat := mk (fun i => kB (f i) == k) n
theorem kdW_lt (f : Nat → Nat) (k n : Nat) (h : n ≤ 64) : kdW f k n < 18446744073709551616 := mk_lt64 _ n h
theorem kdW_next (f : Nat → Nat) (n c : Nat) : kdW f c (n + 1) = if c = kB (f n) then kdW f (kB (f n)) n ||| 2 ^ n else kdW f c n := by
  unfold kdW
  rw [mk_succ]
  by_cases h : c = kB (f n)
  · subst h
    simp
  · rw [if_neg (show ¬ (kB (f n) == c) = true by simp; omega), if_neg h, Nat.or_zero]

theorem sizePart : (Tryz.prog.info? 43).map (·.size) = some 5 := by kernel_rfl
theorem ret_part1 {fn : Func} {p : Tmp} {R : Ending → World → Prop} {a : Act} {w : World} {b : Nat} {x0 x1 x2 x3 x4 : Value} (hres : fn.results = #[.cell p 43]) (hp : a.tmps.getD p undef = .pointer (some ⟨b, 0, none⟩))
    (h : At w b #[x0, x1, x2, x3, x4] 43) (hd : a.defers = []) (hR : R (.returned (.agg #[x0, x1, x2, x3, x4])) w) : bodyPost Tryz.prog fn R .ret a w :=
  bodyPost_ret (v := .agg #[x0, x1, x2, x3, x4]) (results_cell_row (P := Tryz.prog) hres _ w b 43 #[x0, x1, x2, x3, x4] (0, 0) _ hp h Tryz.underlying43 rfl sizePart) hd hR
theorem At.five {w : World} {b : Nat} {x0 x1 x2 x3 x4 y0 y1 y2 y3 y4 : Value} {t : TypeId} (h : At w b #[x0, x1, x2, x3, x4] t) : At (((((w.setCell ⟨b, 0, none⟩ y0).setCell ⟨b, 1, none⟩ y1).setCell ⟨b, 2, none⟩ y2).setCell ⟨b, 3, none⟩ y3).setCell ⟨b, 4, none⟩ y4) b #[y0, y1, y2, y3, y4] t := by
  have := ((((h.set 0 y0).set 1 y1).set 2 y2).set 3 y3).set 4 y4
  simpa using this

set_option maxRecDepth 100000 in
set_option maxHeartbeats 1000000 in
theorem split_calls (f : Nat → Nat) (hf : ∀ i, f i < 256) (O P0 P1 P2 : Nat) (hO : O < 18446744073709551616) (h0 : Hid (kdW f 1 64 &&& O = P0)) (h1 : Hid (kdW f 2 64 &&& O = P1)) (h2 : Hid (kdW f 0 64 &&& O = P2)) (w : World) (hT : TabM w) (hw1 : 1 < w.heap.size) :
    Calls Tryz.prog 30 #[.agg (arr64 f), .int .u64 (O : Int)] w fun e w' => e = .returned (.agg #[.int .u64 (P0 : Int), .int .u64 (P1 : Int), .int .u64 (P2 : Int), .int .u64 0, .int .u64 0]) ∧ Below w.heap.size w w' := by
  have hkd := hid (fun (w1 : World) (hb : Below w.heap.size w w1) (x K : Nat) (hx : x < 256) (hK : Hid (kB x = K)) => kindOf_calls x hx K hK w1 (hT.below hb hw1))
  clear hT
  go_enter Tryz.func30, Tryz.ntmps30
  go_wp2
  go_loopw [6, 7, 8] (fun _ _ i wr => ∃ k : Nat, k ≤ 64 ∧ i = .int .i64 (k : Int) ∧ At wr w.heap.size (arr64 f) 60 ∧ At wr (w.heap.size + 1) #[.int .u64 0, .int .u64 0, .int .u64 0, .int .u64 0, .int .u64 0] 43 ∧
      At wr (w.heap.size + 1 + 1) (rowCells 3 (fun c => kdW f c k)) 78 ∧ Below w.heap.size w wr) (fun _ _ i _ => 64 - (intOf i).toNat)
  case atStart =>
    refine ⟨0, by omega, rfl, ((At.new w _ _).alloc _).alloc _, ?_, ?_, by repeat (first | with_reducible exact Below.refl _ _ | with_reducible refine Below.setCell ?_ (by first | (simp; done) | (simp; omega)) _ | with_reducible refine below_drewN ?_ _ | with_reducible refine Below.alloc ?_ (by first | (simp; done) | (simp; omega)) _ | with_reducible refine Below.drew ?_)⟩
    · have h := (At.new (w.alloc (.cells (arr64 f) 60)) #[.int .u64 0, .int .u64 0, .int .u64 0, .int .u64 0, .int .u64 0] 43).alloc (.cells #[.int .u64 0, .int .u64 0, .int .u64 0] 78)
      simpa using h
    · have h := At.new ((w.alloc (.cells (arr64 f) 60)).alloc (.cells #[.int .u64 0, .int .u64 0, .int .u64 0, .int .u64 0, .int .u64 0] 43)) #[.int .u64 0, .int .u64 0, .int .u64 0] 78
      rw [show rowCells 3 (fun c => kdW f c 0) = #[.int .u64 0, .int .u64 0, .int .u64 0] from rfl]
      simpa using h
  case round =>
    obtain ⟨k, hk, rfl, a1, a2, a3, hB⟩ := hrel
    by_cases hlt : k < 64
    · have hki : (k : Int) < 64 := by omega
      have c0 : wr.cell? ⟨w.heap.size, k, none⟩ = some (.int .u8 ((f k : Nat) : Int)) := (a1.cell _).trans (arr64_at f _ (by omega))
      obtain ⟨x, hx⟩ : ∃ x, Hid (f k = x) := ⟨_, rfl⟩
      have hxl : x < 256 := hx.out ▸ hf k
      obtain ⟨K, hK⟩ : ∃ K, Hid (kB x = K) := ⟨_, rfl⟩
      have hK3 : K < 3 := hK.out ▸ kB_lt x
      have hK3i : (K : Int) < 3 := by omega
      have d0 := a3.cell K
      have f0 := a3.frozen K
      rw [rowCells_get _ hK3] at d0
      obtain ⟨D, hD⟩ : ∃ D, Hid (kdW f K k = D) := ⟨_, rfl⟩
      have hDl : D < 18446744073709551616 := hD.out ▸ kdW_lt f K k (by omega)
      have e1 := or_pow hDl hlt
      rw [hD.out] at d0
      rw [hx.out] at c0
      have hkc := hid (fun (w1 : World) (hb : Below w.heap.size w w1) => hkd.out w1 hb x K hxl hK)
      have t1 := hid a1
      have t2 := hid a2
      have t3 := hid a3
      clear a1 a2 a3 hkd
      go_wp2
      go_region
      go_wp2
      go_region_with (first
        | (go_at_call 47; refine (hkc.out _ (by first | exact hB.drew.drew | exact hB.drew | exact hB)).mono ?_; rintro e w4 ⟨rfl, hw4⟩; obtain rfl := hw4.symm))
      all_goals
        go_wp2
        go_roundw
        case rel =>
          refine ⟨k + 1, by omega, by go_num, t1.out.other (p := ⟨w.heap.size + 1 + 1, K, none⟩) (by show w.heap.size ≠ w.heap.size + 1 + 1; omega) _, t2.out.other (p := ⟨w.heap.size + 1 + 1, K, none⟩) (by show w.heap.size + 1 ≠ w.heap.size + 1 + 1; omega) _, ?_, ?_⟩
          rotate_left
          · repeat (first | with_reducible exact hB | with_reducible refine Below.drew ?_ | refine Below.setCell (p := ⟨w.heap.size + 1 + 1, K, none⟩) ?_ (by show w.heap.size ≤ w.heap.size + 1 + 1; omega) _)
          have h1 := t3.out.set K (.int .u64 ((D ||| 2 ^ k : Nat) : Int))
          rw [rowCells_set] at h1
          rw [show rowCells 3 (fun c => kdW f c (k + 1)) = rowCells 3 (fun c => if c = K then D ||| 2 ^ k else kdW f c k) from rowCells_congr (fun c _ => by rw [kdW_next, hx.out, hK.out, hD.out])]
          exact h1
        case measure => simp [intOf]; omega
    · obtain rfl : k = 64 := by omega
      have d0 := a3.cell 0
      have d1 := a3.cell 1
      have d2 := a3.cell 2
      rw [rowCells_get _ (by omega)] at d0 d1 d2
      obtain ⟨D0, hD0⟩ : ∃ D, Hid (kdW f 0 64 = D) := ⟨_, rfl⟩
      obtain ⟨D1, hD1⟩ : ∃ D, Hid (kdW f 1 64 = D) := ⟨_, rfl⟩
      obtain ⟨D2, hD2⟩ : ∃ D, Hid (kdW f 2 64 = D) := ⟨_, rfl⟩
      rw [hD0.out] at d0
      rw [hD1.out] at d1
      rw [hD2.out] at d2
      have e0 : bits BinOp.and IntKind.u64 (D0 : Int) (O : Int) = (P2 : Int) := by rw [u64_and_nat D0 O (hD0.out ▸ kdW_lt f 0 64 (by omega)) hO, ← hD0.out, h2.out]
      have e1 : bits BinOp.and IntKind.u64 (D1 : Int) (O : Int) = (P0 : Int) := by rw [u64_and_nat D1 O (hD1.out ▸ kdW_lt f 1 64 (by omega)) hO, ← hD1.out, h0.out]
      have e2 : bits BinOp.and IntKind.u64 (D2 : Int) (O : Int) = (P1 : Int) := by rw [u64_and_nat D2 O (hD2.out ▸ kdW_lt f 2 64 (by omega)) hO, ← hD2.out, h1.out]
      have b0 := a2.cell 0
      have b1 := a2.cell 1
      have b2 := a2.cell 2
      have b3 := a2.cell 3
      have b4 := a2.cell 4
      have g0 := a2.frozen 0
      have g1 := a2.frozen 1
      have g2 := a2.frozen 2
      have g3 := a2.frozen 3
      have g4 := a2.frozen 4
      simp only [List.getElem?_toArray, List.getElem?_cons_zero, List.getElem?_cons_succ] at b0 b1 b2 b3 b4
      have t2 := hid a2
      clear a1 a2 a3 hkd hD0 hD1 hD2 h0 h1 h2
      go_wp2
      refine ret_part1 rfl rfl t2.out.five rfl ⟨rfl, ?_⟩
      exact ((((hB.setCell (p := ⟨w.heap.size + 1, 0, none⟩) (by show w.heap.size ≤ w.heap.size + 1; omega) _).setCell (p := ⟨w.heap.size + 1, 1, none⟩) (by show w.heap.size ≤ w.heap.size + 1; omega) _).setCell (p := ⟨w.heap.size + 1, 2, none⟩) (by show w.heap.size ≤ w.heap.size + 1; omega) _).setCell (p := ⟨w.heap.size + 1, 3, none⟩) (by show w.heap.size ≤ w.heap.size + 1; omega) _).setCell (p := ⟨w.heap.size + 1, 4, none⟩) (by show w.heap.size ≤ w.heap.size + 1; omega) _
end Go.Proofs.YtlckhiflhnlgpabGreatDoor

/- What marks.sides answers. -/
namespace Go.Proofs.YtlckhiflhnlgpabGreatDoor
open Go.RowKit Go.Shelf

/-- The marks that open. -/
def opnS (s : ByteArray) (i : Nat) : Bool := markS s i && inS s i
/-- The first places of words. -/
def firS (s : ByteArray) (i : Nat) : Bool := wordS s i && !(decide (0 < i) && wordS s (i - 1))
theorem rowOf_same {G H : Nat → Bool} {n j : Nat} (h : ∀ i, i < n → G i = H i) : rowOf G n j = rowOf H n j :=
  rowOf_eq (rowOf_lt _ _ _) fun r hr => by
    rw [← bitAt_word _ _ _ hr, rowOf_bit]
    by_cases hl : 64 * j + r < n
    · rw [decide_eq_true hl, h _ hl]
    · rw [decide_eq_false hl]; rfl
theorem rowOf_test (G : Nat → Bool) (n j r : Nat) (hr : r < 64) : (rowOf G n j).testBit r = (decide (64 * j + r < n) && G (64 * j + r)) := by rw [← bitAt_word _ _ _ hr, rowOf_bit]

set_option maxRecDepth 10000 in
set_option maxHeartbeats 1000000 in
theorem sides_calls (s : ByteArray) (hs : s.size ≤ 562949953421312) (K : Nat) (hK : Hid (need s.size = K)) (w : World) (hT : Tab w) (hw0 : 0 < w.heap.size) :
    Calls Tryz.prog 28 #[.string s] w fun e w' => ∃ o1 o2, e = .returned (.tuple #[.slice o1 K K, .slice o2 K K]) ∧ Own w.heap.size w' o1 K (rowOf (opnS s) s.size) ∧ Own w.heap.size w' o2 K (rowOf (outS s) s.size) ∧ Below w.heap.size w w' := by
  have hmk := hid (fun (w1 : World) (hb : Below w.heap.size w w1) => marksQ_calls s hs w1 (hT.below hb hw0) (Nat.lt_of_lt_of_le hw0 hb.size))
  have hn := wf_size hs
  have hk44 : K ≤ 17592186044416 := hK.out ▸ need_le hs
  have hfo : ∀ G, formed (s.size : Int) K (rowOf G s.size) := fun G => hK.out ▸ rowOf_formed G s.size
  have htE := hid (fun G => (show Hid (turnE (s.size : Int) K (rowOf G s.size) 0 (s.size : Int) K) from .inr ⟨hfo G, rfl, rfl, rfl⟩))
  have hjE := hid (fun G H => (show Hid (joinE (s.size : Int) (s.size : Int) K K (rowOf G s.size) (rowOf H s.size) 0 (s.size : Int) K) from .inr (.inr ⟨⟨hfo G, hfo H⟩, rfl, rfl, rfl, rfl⟩)))
  rw [hK.out] at hmk
  have hn' := hid hn
  clear hT hfo hn
  go_enter Tryz.func28, Tryz.ntmps28
  go_wp2_with fail
  refine Calls.mono (hmk.out _ (by repeat (first | with_reducible exact Below.refl _ _ | with_reducible refine Below.setCell ?_ (by first | (simp; done) | (simp; omega)) _ | with_reducible refine below_drewN ?_ _ | with_reducible refine Below.alloc ?_ (by first | (simp; done) | (simp; omega)) _ | with_reducible refine Below.drew ?_))) ?_
  rintro e w1 ⟨g, hg, rfl, hA, hb1⟩
  have hpre := hid (fun (w2 : World) (hb : Below w1.heap.size w1 w2) => prefixB_calls (s.size : Int) (some ⟨g, 0, none⟩) K K (rowOf (markS s) s.size) 0 (s.size : Int) K hn'.out hk44 (htE.out _) w2 ((hA.wds (fun _ _ => rowOf_lt _ _ _) (Nat.le_refl _)).kept hb))
  have hA' := hid hA
  clear hA hmk
  unfold bv at hpre
  go_wp2_with fail
  refine Calls.mono (hpre.out _ (by repeat (first | with_reducible exact Below.refl _ _ | with_reducible refine Below.setCell ?_ (by first | (simp; done) | (simp; omega)) _ | with_reducible refine below_drewN ?_ _ | with_reducible refine Below.alloc ?_ (by first | (simp; done) | (simp; omega)) _ | with_reducible refine Below.drew ?_))) ?_
  rintro e w2 ⟨hb2, so1, ho1, rfl⟩
  rw [Int.toNat_natCast] at ho1
  have v4 : At w2 w1.heap.size #[.int .i64 (s.size : Int), .slice (some ⟨g, 0, none⟩) K K] 70 := (At.new w1 _ _).keptAll hb2
  have q2 : Below w1.heap.size w1 w2 := Below.trans (by repeat (first | with_reducible exact Below.refl _ _ | with_reducible refine Below.setCell ?_ (by first | (simp; done) | (simp; omega)) _ | with_reducible refine below_drewN ?_ _ | with_reducible refine Below.alloc ?_ (by first | (simp; done) | (simp; omega)) _ | with_reducible refine Below.drew ?_)) (hb2.mono (by simp))
  have v4' := hid v4
  obtain ⟨m0, m1, -, -⟩ := v4.facts
  have mlt := v4.lt
  have ho1' := hid ho1
  have hand := hid (fun (w3 : World) (hb : Below w2.heap.size w2 w3) => and_gives (s.size : Int) (s.size : Int) (some ⟨g, 0, none⟩) so1 K K K K (rowOf (markS s) s.size) (rowOf (fun i => oddB (rowOf (markS s) s.size) (i + 1)) s.size) 0 (s.size : Int) K hn'.out hn'.out hk44 hk44 (hjE.out _ _) w3 (((hA'.out.wds (fun _ _ => rowOf_lt _ _ _) (Nat.le_refl _)).kept q2).kept hb) ((ho1'.out.wds (fun _ _ => rowOf_lt _ _ _)).kept hb))
  clear hpre v4 ho1 hb2
  unfold bv at hand ⊢
  go_wp2_with fail
  refine Calls.mono (hand.out _ (by repeat (first | with_reducible exact Below.refl _ _ | with_reducible refine Below.setCell ?_ (by first | (simp; done) | (simp; omega)) _ | with_reducible refine below_drewN ?_ _ | with_reducible refine Below.alloc ?_ (by first | (simp; done) | (simp; omega)) _ | with_reducible refine Below.drew ?_))) ?_
  rintro e w3 ⟨hb3, so2, ho2, rfl⟩
  rw [Int.toNat_natCast] at ho2
  clear m0 m1
  have v5 : At w3 w2.heap.size #[.int .i64 (s.size : Int), .slice so1 K K] 70 := (At.new w2 _ _).keptAll hb3
  have q3 : Below w2.heap.size w2 w3 := Below.trans (by repeat (first | with_reducible exact Below.refl _ _ | with_reducible refine Below.setCell ?_ (by first | (simp; done) | (simp; omega)) _ | with_reducible refine below_drewN ?_ _ | with_reducible refine Below.alloc ?_ (by first | (simp; done) | (simp; omega)) _ | with_reducible refine Below.drew ?_)) (hb3.mono (by simp))
  have v4b := v4'.out.keptAll q3
  obtain ⟨m0, m1, -, -⟩ := v4b.facts
  obtain ⟨n0, n1, -, -⟩ := v5.facts
  have nlt := v5.lt
  have mlt3 := v4b.lt
  have ho2' := hid ho2
  have q23 := hid (q2.trans (q3.mono q2.size))
  have hor := hid (fun (w4 : World) (hb : Below w3.heap.size w3 w4) => or_gives (s.size : Int) (s.size : Int) (some ⟨g, 0, none⟩) so1 K K K K (rowOf (markS s) s.size) (rowOf (fun i => oddB (rowOf (markS s) s.size) (i + 1)) s.size) 0 (s.size : Int) K hn'.out hn'.out hk44 hk44 (hjE.out _ _) w4 (((hA'.out.wds (fun _ _ => rowOf_lt _ _ _) (Nat.le_refl _)).kept q23.out).kept hb) (((ho1'.out.wds (fun _ _ => rowOf_lt _ _ _)).kept q3).kept hb))
  clear hand v5 v4b hb3 ho2
  unfold bv at hor ⊢
  go_wp2_with fail
  refine Calls.mono (hor.out _ (by repeat (first | with_reducible exact Below.refl _ _ | with_reducible refine Below.setCell ?_ (by first | (simp; done) | (simp; omega)) _ | with_reducible refine below_drewN ?_ _ | with_reducible refine Below.alloc ?_ (by first | (simp; done) | (simp; omega)) _ | with_reducible refine Below.drew ?_))) ?_
  rintro e w4 ⟨hb4, so3, ho3, rfl⟩
  rw [Int.toNat_natCast] at ho3
  clear m0 m1 n0 n1
  have v7 := hid (show At w4 w3.heap.size #[.int .i64 (s.size : Int), .slice so2 K K] 70 from (At.new w3 _ _).keptAll hb4)
  have q4 : Below w3.heap.size w3 w4 := Below.trans (by repeat (first | with_reducible exact Below.refl _ _ | with_reducible refine Below.setCell ?_ (by first | (simp; done) | (simp; omega)) _ | with_reducible refine below_drewN ?_ _ | with_reducible refine Below.alloc ?_ (by first | (simp; done) | (simp; omega)) _ | with_reducible refine Below.drew ?_)) (hb4.mono (by simp))
  have ho3' := hid ho3
  have hnot := hid (fun (w5 : World) (hb : Below w4.heap.size w4 w5) => not_calls (s.size : Int) so3 K K (rowOf (fun i => bitAt (rowOf (markS s) s.size) i || bitAt (rowOf (fun i => oddB (rowOf (markS s) s.size) (i + 1)) s.size) i) s.size) 0 (s.size : Int) K hn'.out hk44 (htE.out _) w5 ((ho3'.out.wds (fun _ _ => rowOf_lt _ _ _)).kept hb))
  clear hor hb4 ho3
  unfold bv at hnot ⊢
  go_wp2_with fail
  refine Calls.mono (hnot.out _ (by repeat (first | with_reducible exact Below.refl _ _ | with_reducible refine Below.setCell ?_ (by first | (simp; done) | (simp; omega)) _ | with_reducible refine below_drewN ?_ _ | with_reducible refine Below.alloc ?_ (by first | (simp; done) | (simp; omega)) _ | with_reducible refine Below.drew ?_))) ?_
  rintro e w5 ⟨hb5, so4, ho4, rfl⟩
  rw [Int.toNat_natCast] at ho4
  have q5 : Below w4.heap.size w4 w5 := Below.trans (by repeat (first | with_reducible exact Below.refl _ _ | with_reducible refine Below.setCell ?_ (by first | (simp; done) | (simp; omega)) _ | with_reducible refine below_drewN ?_ _ | with_reducible refine Below.alloc ?_ (by first | (simp; done) | (simp; omega)) _ | with_reducible refine Below.drew ?_)) (hb5.mono (by simp))
  have v7b := v7.out.keptAll q5
  obtain ⟨m0, m1, -, -⟩ := v7b.facts
  have v7lt := v7b.lt
  have ho4' := hid ho4
  have z1 := hb1.size
  have z2 := q2.size
  have z3 := q3.size
  have z4 := q4.size
  have q5' := hid q5
  have q4' := hid q4
  have q3' := hid q3
  have q2' := hid q2
  have hb1' := hid hb1
  have hz5 := hid (show w4.heap.size ≤ w5.heap.size from q5.size)
  have z1' := hid z1
  have z2' := hid z2
  have z3' := hid z3
  have z4' := hid z4
  clear hnot hb5 ho4 v7b q2 q3 q4 q5 hb1 z1 z2 z3 z4
  unfold bv
  go_wp2
  go_region
  go_wp2
  refine bodyPost_ret (v := .tuple #[.slice so2 K K, .slice so4 K K]) (by simp [results, Tryz.results28, go_sem]) rfl ?_
  have y1 := z1'.out
  have y2 := z2'.out
  have y3 := z3'.out
  have y4 := z4'.out
  have hBe : Below w.heap.size w w5 := hb1'.out.trans ((q2'.out.trans ((q3'.out.trans ((q4'.out.trans (q5'.out.mono (by omega))).mono (by omega))).mono (by omega))).mono (by omega))
  refine ⟨so2, so4, rfl, ?_, ?_, ?_⟩
  · have h := (((ho2'.out.kept q4'.out).kept q5'.out).kept (w' := w5.alloc (.cells #[.int .i64 (s.size : Int), .slice so4 K K] 70)) (by repeat (first | with_reducible exact Below.refl _ _ | with_reducible refine Below.setCell ?_ (by first | (simp; done) | (simp; omega)) _ | with_reducible refine below_drewN ?_ _ | with_reducible refine Below.alloc ?_ (by first | (simp; done) | (simp; omega)) _ | with_reducible refine Below.drew ?_))).mono (B' := w.heap.size) (by simp; omega)
    rw [show rowOf (opnS s) s.size = rowOf (fun i => bitAt (rowOf (markS s) s.size) i && bitAt (rowOf (fun i => oddB (rowOf (markS s) s.size) (i + 1)) s.size) i) s.size from funext fun j => rowOf_same fun i hi => by
      rw [rowOf_bit, show rowOf (fun i => oddB (rowOf (markS s) s.size) (i + 1)) s.size = rowOf (inS s) s.size from funext (inS_row s), rowOf_bit, decide_eq_true hi]; rfl]
    exact h
  · have h := (ho4'.out.kept (w' := w5.alloc (.cells #[.int .i64 (s.size : Int), .slice so4 K K] 70)) (by repeat (first | with_reducible exact Below.refl _ _ | with_reducible refine Below.setCell ?_ (by first | (simp; done) | (simp; omega)) _ | with_reducible refine below_drewN ?_ _ | with_reducible refine Below.alloc ?_ (by first | (simp; done) | (simp; omega)) _ | with_reducible refine Below.drew ?_))).mono (B' := w.heap.size) (by simp; omega)
    rw [show rowOf (outS s) s.size = rowOf (fun i => !bitAt (rowOf (fun i => bitAt (rowOf (markS s) s.size) i || bitAt (rowOf (fun i => oddB (rowOf (markS s) s.size) (i + 1)) s.size) i) s.size) i) s.size from funext fun j => rowOf_same fun i hi => by
      rw [rowOf_bit, rowOf_bit, show rowOf (fun i => oddB (rowOf (markS s) s.size) (i + 1)) s.size = rowOf (inS s) s.size from funext (inS_row s), rowOf_bit, decide_eq_true hi]
      unfold outS
      rw [decide_eq_true hi]
      cases markS s i <;> cases inS s i <;> rfl]
    exact h
  · exact (hBe.alloc (by omega) _).drew
end Go.Proofs.YtlckhiflhnlgpabGreatDoor

/- What marks.parts answers. -/
namespace Go.Proofs.YtlckhiflhnlgpabGreatDoor
open Go.RowKit Go.Shelf

attribute [local go_sem] Oper.semAt_some

/-! The words of a part. -/
/-- The field f of the part j. -/
def ptV (s : ByteArray) (j f : Nat) : Nat :=
  if f = 0 then rowOf (strS s) s.size j else if f = 1 then rowOf (blankS s) s.size j else if f = 2 then rowOf (wordS s) s.size j else if f = 3 then rowOf (opnS s) s.size j else rowOf (firS s) s.size j
theorem ptV_lt (s : ByteArray) (j f : Nat) : ptV s j f < 18446744073709551616 := by
  unfold ptV
  split
  · exact rowOf_lt _ _ _
  · split
    · exact rowOf_lt _ _ _
    · split
      · exact rowOf_lt _ _ _
      · split <;> exact rowOf_lt _ _ _
/-- The cells of the parts, as far as r of them are told. -/
def ptUp (s : ByteArray) (r i : Nat) : Nat := if i / 5 < r then ptV s (i / 5) (i % 5) else 0
/-- All of them. -/
def ptZ (s : ByteArray) (i : Nat) : Nat := ptV s (i / 5) (i % 5)
theorem ptUp_set (s : ByteArray) (j i : Nat) :
    (if i = j * 5 + 4 then ptV s j 4 else if i = j * 5 + 3 then ptV s j 3 else if i = j * 5 + 2 then ptV s j 2 else if i = j * 5 + 1 then ptV s j 1 else if i = j * 5 then ptV s j 0 else ptUp s j i) = ptUp s (j + 1) i := by
  unfold ptUp
  by_cases h : i / 5 = j
  · rw [if_pos (show i / 5 < j + 1 by omega), h]
    have h5 : i % 5 < 5 := Nat.mod_lt _ (by decide)
    have hi : i = j * 5 + i % 5 := by omega
    obtain e | e | e | e | e : i % 5 = 0 ∨ i % 5 = 1 ∨ i % 5 = 2 ∨ i % 5 = 3 ∨ i % 5 = 4 := by omega
    · rw [e] at hi ⊢
      rw [if_neg (by omega), if_neg (by omega), if_neg (by omega), if_neg (by omega), if_pos (by omega)]
    · rw [e] at hi ⊢
      rw [if_neg (by omega), if_neg (by omega), if_neg (by omega), if_pos (by omega)]
    · rw [e] at hi ⊢
      rw [if_neg (by omega), if_neg (by omega), if_pos (by omega)]
    · rw [e] at hi ⊢
      rw [if_neg (by omega), if_pos (by omega)]
    · rw [e] at hi ⊢
      rw [if_pos (by omega)]
  · rw [if_neg (by omega), if_neg (by omega), if_neg (by omega), if_neg (by omega), if_neg (by omega)]
    by_cases h2 : i / 5 < j
    · rw [if_pos h2, if_pos (by omega)]
    · rw [if_neg h2, if_neg (by omega)]
/-- Does the place right ahead of the block j stand in a word? -/
def cyS (s : ByteArray) (j : Nat) : Nat := if decide (0 < j) && wordS s (64 * j - 1) then 1 else 0
theorem cyS_le (s : ByteArray) (j : Nat) : cyS s j ≤ 1 := by unfold cyS; split <;> omega
theorem cut_out (s : ByteArray) (j k : Nat) (G : Nat → Bool) (hG : ∀ i, i < s.size → (kB (byteAt s i) == k && outS s i) = G i) : kdW (cutF s ((64 * j : Nat) : Int) 0) k 64 &&& rowOf (outS s) s.size j = rowOf G s.size j :=
  rowOf_eq (Nat.lt_of_le_of_lt Nat.and_le_right (rowOf_lt _ _ _)) fun r hr => by
    rw [Nat.testBit_and, kdW, mk_bit, rowOf_test _ _ _ _ hr, decide_eq_true hr, Bool.true_and]
    by_cases hl : 64 * j + r < s.size
    · rw [decide_eq_true hl, Bool.true_and, Bool.true_and, ← hG _ hl]
      congr 3
      unfold cutF
      rw [if_pos (by omega)]
      congr 1
    · rw [decide_eq_false hl]; simp
theorem cut_str (s : ByteArray) (j : Nat) : kdW (cutF s ((64 * j : Nat) : Int) 0) 1 64 &&& rowOf (outS s) s.size j = ptV s j 0 :=
  cut_out s j 1 (strS s) fun i _ => by rw [kB_str, strS, Bool.and_comm]
theorem cut_blk (s : ByteArray) (j : Nat) : kdW (cutF s ((64 * j : Nat) : Int) 0) 2 64 &&& rowOf (outS s) s.size j = ptV s j 1 :=
  cut_out s j 2 (blankS s) fun i _ => by rw [kB_blk, blankS, Bool.and_comm]
theorem cut_word (s : ByteArray) (j : Nat) : kdW (cutF s ((64 * j : Nat) : Int) 0) 0 64 &&& rowOf (outS s) s.size j = ptV s j 2 :=
  cut_out s j 0 (wordS s) fun i _ => by rw [kB_word, wordS, Bool.and_comm]
theorem word_test (s : ByteArray) (j r : Nat) (hr : r < 64) : (ptV s j 2).testBit r = wordS s (64 * j + r) := by
  show (rowOf (wordS s) s.size j).testBit r = _
  rw [rowOf_test _ _ _ _ hr]
  by_cases hl : 64 * j + r < s.size
  · rw [decide_eq_true hl]; rfl
  · rw [decide_eq_false hl, wordS_out (by omega)]; rfl
theorem dbl_bit (x r : Nat) (hr : r < 64) : (x * 2 % 18446744073709551616).testBit r = (decide (0 < r) && x.testBit (r - 1)) := by
  rw [show (18446744073709551616 : Nat) = 2 ^ 64 from rfl, Nat.testBit_mod_two_pow, decide_eq_true hr, Bool.true_and, show x * 2 = x * 2 ^ 1 from rfl, Nat.testBit_mul_two_pow]
  congr 1
theorem cy_bit (c r : Nat) (hc : c ≤ 1) : c.testBit r = (decide (r = 0) && decide (c = 1)) := by
  obtain rfl | rfl : c = 0 ∨ c = 1 := by omega
  · simp
  · cases r with
    | zero => rfl
    | succ r => simp [Nat.testBit_succ]
/-- The word right behind each place of a word. -/
theorem ahead_bit (s : ByteArray) (j r : Nat) (hr : r < 64) : ((ptV s j 2 * 2 % 18446744073709551616) ||| cyS s j).testBit r = (decide (0 < 64 * j + r) && wordS s (64 * j + r - 1)) := by
  rw [Nat.testBit_or, dbl_bit _ _ hr, cy_bit _ _ (cyS_le s j)]
  by_cases h0 : r = 0
  · subst h0
    rw [decide_eq_false (by omega), decide_eq_true rfl, Bool.false_and, Bool.false_or, Bool.true_and]
    unfold cyS
    cases j with
    | zero => simp
    | succ j =>
      rw [decide_eq_true (show 0 < j + 1 by omega), decide_eq_true (show 0 < 64 * (j + 1) + 0 by omega)]
      cases wordS s (64 * (j + 1) - 1) <;> simp
  · rw [decide_eq_true (show 0 < r by omega), word_test s j (r - 1) (by omega), decide_eq_false h0, decide_eq_true (show 0 < 64 * j + r by omega), show 64 * j + (r - 1) = 64 * j + r - 1 by omega]
    simp
theorem ahead_lt (s : ByteArray) (j : Nat) : ((ptV s j 2 * 2 % 18446744073709551616) ||| cyS s j) < 18446744073709551616 :=
  Nat.or_lt_two_pow (n := 64) (Nat.mod_lt _ (by decide)) (Nat.lt_of_le_of_lt (cyS_le s j) (by decide))
theorem first_row (s : ByteArray) (j : Nat) : ptV s j 2 &&& (18446744073709551615 - ((ptV s j 2 * 2 % 18446744073709551616) ||| cyS s j)) = ptV s j 4 :=
  rowOf_eq (andNot_lt (ptV_lt s j 2)) fun r hr => by
    rw [andNot_bit (ahead_lt s j) hr, ahead_bit s j r hr, word_test s j r hr]
    unfold firS
    by_cases hl : 64 * j + r < s.size
    · rw [decide_eq_true hl]; rfl
    · rw [decide_eq_false hl, wordS_out (by omega)]; rfl
theorem cy_next (s : ByteArray) (j : Nat) : ptV s j 2 / 9223372036854775808 = cyS s (j + 1) := by
  have h := word_test s j 63 (by decide)
  have hl := ptV_lt s j 2
  rw [Nat.testBit_eq_decide_div_mod_eq] at h
  unfold cyS
  rw [show 64 * (j + 1) - 1 = 64 * j + 63 by omega, ← h, decide_eq_true (show 0 < j + 1 by omega), Bool.true_and]
  generalize ptV s j 2 = x at *
  simp only [Nat.reducePow, decide_eq_true_eq]
  split <;> omega
end Go.Proofs.YtlckhiflhnlgpabGreatDoor

/- What marks.parts answers. -/
namespace Go.Proofs.YtlckhiflhnlgpabGreatDoor
open Go.RowKit Go.Shelf

attribute [local go_sem] Oper.semAt_some

theorem madeParts (K : Nat) : madeCells #[.int .u64 0, .int .u64 0, .int .u64 0, .int .u64 0, .int .u64 0] (K * 5) = rowCells (K * 5) (fun _ => 0) := by
  apply Array.ext_getElem?
  intro i
  by_cases hi : i < K * 5
  · rw [rowCells_get _ hi]
    have h5 : i % 5 < 5 := Nat.mod_lt _ (by decide)
    simp only [madeCells, Array.getElem?_map, Array.getElem?_range, hi, ↓reduceIte, Option.map_some, List.size_toArray, List.length_cons, List.length_nil]
    generalize i % (0 + 1 + 1 + 1 + 1 + 1) = m at *
    obtain rfl | rfl | rfl | rfl | rfl : m = 0 ∨ m = 1 ∨ m = 2 ∨ m = 3 ∨ m = 4 := by omega
    all_goals rfl
  · rw [Array.getElem?_eq_none (by simp [madeCells]; omega), Array.getElem?_eq_none (by rw [rowCells_size]; omega)]
theorem infoP : (Tryz.prog.info? 43).map (fun i => (i.zero, i.size, i.bytes)) = some (some (.agg #[.int .u64 0, .int .u64 0, .int .u64 0, .int .u64 0, .int .u64 0]), 5, 40) := by kernel_rfl
theorem make_parts (K : Nat) (hK : K ≤ 2199023255552) (u : World) : (Instr.makeSlice 39 (.int .i64 (K : Int)) (.int .i64 (K : Int))).run Tryz.prog u =
    .ok (.slice (some ⟨u.heap.size, 0, none⟩) K K) (u.alloc (.cells (rowCells (K * 5) (fun _ => 0)) 43)) := by
  obtain ⟨i0, hi, hz0, hz1, hz2⟩ := info_parts infoP
  have h := run_make (P := Tryz.prog) u 39 43 i0 (.agg #[.int .u64 0, .int .u64 0, .int .u64 0, .int .u64 0, .int .u64 0]) Tryz.underlying39 hi hz0 .i64 .i64 (K : Int) (K : Int) (by omega) (Int.le_refl _) (by rw [hz2]; omega) (by omega)
  rw [Int.toNat_natCast] at h
  rw [h, ← madeParts]
  simp [hz1, Value.cells]

/-- Between two rounds. -/
def PtI (w : World) (s : ByteArray) (K : Nat) (o1 o2 : Option Addr) (b : Nat) (r : Nat) (W : World) : Prop :=
  (At W b #[.slice o1 K K] 54 ∧ At W (b + 1) #[.slice o2 K K] 54 ∧ At W (b + 1 + 1) (rowCells (K * 5) (ptUp s r)) 43 ∧ At W (b + 1 + 1 + 1) #[.slice (some ⟨b + 1 + 1, 0, none⟩) K K] 39 ∧
    At W (b + 1 + 1 + 1 + 1) #[.int .u64 ((cyS s r : Nat) : Int)] 41 ∧ Own w.heap.size W o1 K (rowOf (opnS s) s.size) ∧ Own w.heap.size W o2 K (rowOf (outS s) s.size) ∧ b + 7 ≤ W.heap.size ∧ TabM W) ∧ Below w.heap.size w W

/-- The frame in which a round's body begins. -/
def PtA (s : ByteArray) (K : Nat) (o1 o2 : Option Addr) (b : Nat) (x : Nat) (a' : Act) (W : World) : Prop :=
  ∃ (gx A : Nat) (L : List Value), Hid (A = 64 * x) ∧ Hid (L.toArray = arr64 (cutF s (A : Int) 0)) ∧ Hid (L.length = 64) ∧ b + 7 ≤ gx ∧ At W gx L.toArray 60 ∧ a' = { tmps := #[.string s, undef, .slice none 0 0, .pointer (some ⟨b, 0, none⟩), .pointer (some ⟨b + 1, 0, none⟩), .pointer (some ⟨b + 1 + 1 + 1, 0, none⟩), .pointer (some ⟨b + 1 + 1 + 1 + 1, 0, none⟩), .int .i64 (A : Int), .pointer (some ⟨gx, 0, none⟩), undef, .tuple #[.slice o1 K K, .slice o2 K K], .string s, .tuple #[.slice o1 K K, .slice o2 K K], .slice o1 K K, .slice o2 K K, .slice o2 K K, .int .i64 (K : Int), .slice (some ⟨b + 1 + 1, 0, none⟩) K K, .string s, .func (.func 45) #[] #[.pointer (some ⟨b + 1 + 1 + 1 + 1 + 1, 0, none⟩), .pointer (some ⟨b + 1 + 1 + 1 + 1 + 1 + 1, 0, none⟩)], .int .i64 (A : Int), .agg L.toArray, undef, undef, undef, undef, undef, undef, undef, undef, undef, undef, undef, undef, undef, undef, undef, undef, undef, undef, undef, undef, undef, undef, undef, undef, undef, undef, undef, undef, undef, undef, undef], defers := [] }
theorem own_lt {B : Nat} {w : World} {so : Option Addr} {r : Nat} {Z : Nat → Nat} (h : Own B w so r Z) (g : Nat) (e : so = some ⟨g, 0, none⟩) : g < w.heap.size := by
  subst e
  rcases h with ⟨h, _⟩ | ⟨g', h1, _, h3⟩
  · cases h
  · cases h1
    exact h3.lt
theorem five_facts {w : World} {b : Nat} {x0 x1 x2 x3 x4 : Value} {t : TypeId} (h : At w b #[x0, x1, x2, x3, x4] t) : w.cell? ⟨b, 0, none⟩ = some x0 ∧ w.cell? ⟨b, 1, none⟩ = some x1 ∧ w.cell? ⟨b, 2, none⟩ = some x2 ∧ w.cell? ⟨b, 3, none⟩ = some x3 ∧ w.cell? ⟨b, 4, none⟩ = some x4 ∧ w.frozen? ⟨b, 3, none⟩ = false ∧ w.frozen? ⟨b, 4, none⟩ = false := ⟨h.cell 0, h.cell 1, h.cell 2, h.cell 3, h.cell 4, h.frozen 3, h.frozen 4⟩
theorem keepB_set {Bs Bp : Nat} {X : World} {p : Addr} {v : Value} (h1 : Bs ≠ p.block) (h2 : Bp ≠ p.block) : KeepB Bs Bp X (X.setCell p v) := ⟨(KeepsOthers.setCell X p v).1, fun _ _ q => q.other h1 v, fun _ _ q => q.other h2 v⟩
theorem At.five_other {w : World} {b q : Nat} {cs : Array Value} {t : TypeId} (h : At w b cs t) (hq : b ≠ q) (o : Nat) (y0 y1 y2 y3 y4 : Value) : At (((((w.setCell ⟨q, o, none⟩ y0).setCell ⟨q, o + 1, none⟩ y1).setCell ⟨q, o + 2, none⟩ y2).setCell ⟨q, o + 3, none⟩ y3).setCell ⟨q, o + 4, none⟩ y4) b cs t :=
  ((((h.other (p := ⟨q, o, none⟩) hq _).other (p := ⟨q, o + 1, none⟩) hq _).other (p := ⟨q, o + 2, none⟩) hq _).other (p := ⟨q, o + 3, none⟩) hq _).other (p := ⟨q, o + 4, none⟩) hq _
theorem Own.five_other {B q : Nat} {w : World} {so : Option Addr} {r : Nat} {Z : Nat → Nat} (h : Own B w so r Z) (hq : ∀ g, so = some ⟨g, 0, none⟩ → g ≠ q) (o : Nat) (y0 y1 y2 y3 y4 : Value) : Own B (((((w.setCell ⟨q, o, none⟩ y0).setCell ⟨q, o + 1, none⟩ y1).setCell ⟨q, o + 2, none⟩ y2).setCell ⟨q, o + 3, none⟩ y3).setCell ⟨q, o + 4, none⟩ y4) so r Z := by
  rcases h with h | ⟨g, h1, h2, h3⟩
  · exact .inl h
  · exact .inr ⟨g, h1, h2, h3.five_other (hq g h1) o _ _ _ _ _⟩
section
variable {w : World} {s : ByteArray} {K b B : Nat} {o1 o2 : Option Addr}
theorem own_own {B0 : Nat} {X Z : World} {so : Option Addr} {r : Nat} {Y : Nat → Nat} {row : Option Nat} (h : Own B0 X so r Y) (hg : X.grownBy Z row) (hr : ∀ r, row = some r → ∃ o : Obj, X.heap[r]? = some o ∧ o.isCells = false) : Own B0 Z so r Y := by
  rcases h with h | ⟨g, h1, h2, h3⟩
  · exact .inl h
  · exact .inr ⟨g, h1, h2, h3.own hg hr⟩
theorem ptI_own (hB : w.heap.size ≤ B) (hw : 1 < w.heap.size) : OwnFrom B (PtI w s K o1 o2 b) := fun t X Z row hs hg hr => by
  obtain ⟨⟨h1, h2, h3, h4, h5, h6, h7, h8, h9⟩, hb⟩ := hs
  have hr' := fun r e => (hr r e).2
  have hbz := ownFrom_below (β := List Nat) (Nat.le_refl w.heap.size) hB [] X Z row hb hg hr
  refine ⟨⟨h1.own hg hr', h2.own hg hr', h3.own hg hr', h4.own hg hr', h5.own hg hr', own_own h6 hg hr', own_own h7 hg hr', Nat.le_trans h8 hg.size, fun j hj => ?_⟩, hbz⟩
  have e1 := hb.cell (p := ⟨1, j, none⟩) hw
  have e2 := hbz.cell (p := ⟨1, j, none⟩) hw
  rw [e2, ← e1]
  exact h9 j hj
theorem ptA_own (x : Nat) (a' : Act) : OwnFrom B (fun (_ : Unit) W => PtA s K o1 o2 b x a' W) := fun _ X Y row hs hg hr => by
  obtain ⟨gx, A, L, h1, h2, h3, h4, h5, h6⟩ := hs
  exact ⟨gx, A, L, h1, h2, h3, h4, h5.own hg (fun r e => (hr r e).2), h6⟩
theorem ptI_kept {r : Nat} {X Z : World} (h : PtI w s K o1 o2 b r X) (hb : Below X.heap.size X Z) : PtI w s K o1 o2 b r Z := by
  obtain ⟨⟨h1, h2, h3, h4, h5, h6, h7, h8, h9⟩, hB⟩ := h
  exact ⟨⟨h1.keptAll hb, h2.keptAll hb, h3.keptAll hb, h4.keptAll hb, h5.keptAll hb, h6.kept hb, h7.kept hb, Nat.le_trans h8 hb.size, h9.below hb (by omega)⟩, hB.trans (hb.mono hB.size)⟩
end

set_option maxRecDepth 100000 in
set_option maxHeartbeats 8000000 in
theorem parts_in (s : ByteArray) (hs : s.size ≤ 140737488355328) (w : World) (hT : Tab w) (hM : TabM w) (hw0 : 1 < w.heap.size) :
    CallsIn Fence.wide 3 Tryz.prog 17 #[.string s] w fun e w' => ∃ g, w.heap.size ≤ g ∧ e = .returned (.slice (some ⟨g, 0, none⟩) (need s.size) (need s.size)) ∧ At w' g (rowCells (need s.size * 5) (ptZ s)) 43 ∧ Below w.heap.size w w' := by
  have hnf : ∀ (f : Fn) (a b : Array Value) (w : World), Sem.run Tryz.prog (binOp BinOp.eql 58 (.func f a b) .nilFunc) w = .ok (.bool false) w := fun _ _ _ _ => by rfl
  obtain ⟨K, hK⟩ : ∃ K, Hid (need s.size = K) := ⟨_, rfl⟩
  have hsd := hid (fun (w1 : World) (hb : Below w.heap.size w w1) => sides_calls s (by omega) K hK w1 (hT.below hb (by omega)) (by have := hb.size; omega))
  have hKb : Hid (blocksOf s = K) := hK
  have hKs : (s.size + 63) / 64 = K := hK.out
  have hK44 : K ≤ 2199023255552 := by omega
  have hKs' := hid hKs
  have hmake : ∀ u : World, (Instr.makeSlice 39 (.int .i64 (K : Int)) (.int .i64 (K : Int))).run Tryz.prog u = .ok (.slice (some ⟨u.heap.size, 0, none⟩) K K) (u.alloc (.cells (rowCells (K * 5) (fun _ => 0)) 43)) := make_parts K hK44
  clear hKs
  rw [hK.out]
  clear hT
  refine callsIn_of_wp_marks Tryz.func17 rfl trivial ?_ rfl
  simp only [Tryz.ntmps17, List.size_toArray, List.length_cons, List.length_nil, Nat.reduceAdd, Nat.reduceSub, Array.replicate_succ, Array.replicate_zero, List.push_toArray, List.append_toArray, List.nil_append, List.cons_append]
  refine wpIn_wide.2 ?_
  go_wp2_with fail
  refine Calls.mono (hsd.out _ (by repeat (first | with_reducible exact Below.refl _ _ | with_reducible refine Below.setCell ?_ (by first | (simp; done) | (simp; omega)) _ | with_reducible refine below_drewN ?_ _ | with_reducible refine Below.alloc ?_ (by first | (simp; done) | (simp; omega)) _ | with_reducible refine Below.drew ?_))) ?_
  rintro e w1 ⟨o1, o2, rfl, ho1, ho2, hB1⟩
  clear hsd
  have hM' := hid hM
  clear hM
  go_wp2_with fail
  obtain ⟨b, hbe⟩ : ∃ b, w1.heap.size = b := ⟨_, rfl⟩
  obtain ⟨X1, hX1⟩ : ∃ X1, X1 = w1.alloc (.cells #[.slice o1 K K] 54) := ⟨_, rfl⟩
  obtain ⟨X2, hX2⟩ : ∃ X2, X2 = X1.alloc (.cells #[.slice o2 K K] 54) := ⟨_, rfl⟩
  obtain ⟨X3, hX3⟩ : ∃ X3, X3 = X2.alloc (.cells (rowCells (K * 5) fun _ => 0) 43) := ⟨_, rfl⟩
  obtain ⟨X4, hX4⟩ : ∃ X4, X4 = X3.alloc (.cells #[.slice (some ⟨w1.heap.size + 1 + 1, 0, none⟩) K K] 39) := ⟨_, rfl⟩
  obtain ⟨X5, hX5⟩ : ∃ X5, X5 = X4.alloc (.cells #[.int .u64 0] 41) := ⟨_, rfl⟩
  rw [← hX1, ← hX2, ← hX3, ← hX4, ← hX5]
  rw [hbe] at hX4 ⊢
  have z1 : X1.heap.size = b + 1 := by rw [hX1, World.size_alloc, hbe]
  have z2 : X2.heap.size = b + 1 + 1 := by rw [hX2, World.size_alloc, z1]
  have z3 : X3.heap.size = b + 1 + 1 + 1 := by rw [hX3, World.size_alloc, z2]
  have z4 : X4.heap.size = b + 1 + 1 + 1 + 1 := by rw [hX4, World.size_alloc, z3]
  have z5 : X5.heap.size = b + 1 + 1 + 1 + 1 + 1 := by rw [hX5, World.size_alloc, z4]
  refine (blocks_calls s 0 _).mono ?_
  rintro e W0 ⟨rfl, hW0⟩
  rw [z5]
  have q4 : Below w1.heap.size w1 X5 := by rw [hX5, hX4, hX3, hX2, hX1]; repeat (first | with_reducible exact Below.refl _ _ | with_reducible refine Below.setCell ?_ (by first | (simp; done) | (simp; omega)) _ | with_reducible refine below_drewN ?_ _ | with_reducible refine Below.alloc ?_ (by first | (simp; done) | (simp; omega)) _ | with_reducible refine Below.drew ?_)
  have q5 : Below X5.heap.size X5 W0 := by rw [hW0]; repeat (first | with_reducible exact Below.refl _ _ | with_reducible refine Below.setCell ?_ (by first | (simp; done) | (simp; omega)) _ | with_reducible refine below_drewN ?_ _ | with_reducible refine Below.alloc ?_ (by first | (simp; done) | (simp; omega)) _ | with_reducible refine Below.drew ?_)
  have a0 : At X5 b #[.slice o1 K K] 54 := by
    rw [hX5, hX4, hX3, hX2, hX1, ← hbe]; exact ((((At.new w1 _ _).alloc _).alloc _).alloc _).alloc _
  have a1 : At X5 (b + 1) #[.slice o2 K K] 54 := by
    rw [hX5, hX4, hX3, hX2, ← z1]; exact (((At.new X1 _ _).alloc _).alloc _).alloc _
  have a2 : At X5 (b + 1 + 1) (rowCells (K * 5) fun _ => 0) 43 := by
    rw [hX5, hX4, hX3, ← z2]; exact ((At.new X2 _ _).alloc _).alloc _
  have a3 : At X5 (b + 1 + 1 + 1) #[.slice (some ⟨b + 1 + 1, 0, none⟩) K K] 39 := by
    rw [hX5, hX4, ← z3]; exact (At.new X3 _ _).alloc _
  have a4 : At X5 (b + 1 + 1 + 1 + 1) #[.int .u64 0] 41 := by
    rw [hX5, ← z4]; exact At.new X4 _ _
  have a5 : At W0 (b + 1 + 1 + 1 + 1 + 1) #[.string s] 9 := by
    rw [hW0, ← z5]; exact (At.new X5 _ _).alloc _
  have a6 : At W0 (b + 1 + 1 + 1 + 1 + 1 + 1) #[.int .u8 ((0 : Nat) : Int)] 5 := by
    have h := At.new (X5.alloc (.cells #[.string s] 9)) #[.int .u8 ((0 : Nat) : Int)] 5
    rw [hW0, ← z5]; simpa using h
  have z0 : W0.heap.size = b + 7 := by rw [hW0]; simp only [World.size_alloc, z5]
  have hB0 : Below w.heap.size w W0 := (hB1.trans (q4.mono hB1.size)).trans (q5.mono (by have := hB1.size; omega))
  have hbw : w.heap.size ≤ b := by rw [← hbe]; exact hB1.size
  have hI0 : PtI w s K o1 o2 b 0 W0 := by
    refine ⟨⟨a0.keptAll q5, a1.keptAll q5, ?_, a3.keptAll q5, a4.keptAll q5, (ho1.kept q4).kept q5, (ho2.kept q4).kept q5, by omega, hM'.out.below hB0 (by omega)⟩, hB0⟩
    rw [show rowCells (K * 5) (ptUp s 0) = rowCells (K * 5) (fun _ => 0) from rowCells_congr (fun j _ => by unfold ptUp; rw [if_neg (by omega)])]
    exact a2.keptAll q5
  have hob1 := hid (show ∀ g, o1 = some ⟨g, 0, none⟩ → g < b from fun g e => hbe ▸ own_lt ho1 g e)
  have hob2 := hid (show ∀ g, o2 = some ⟨g, 0, none⟩ → g < b from fun g e => hbe ▸ own_lt ho2 g e)
  clear a0 a1 a2 a3 a4 z1 z2 z3 z4 z5 q4 q5 hW0 hX1 hX2 hX3 hX4 hX5 hmake ho1 ho2 hbe hB1
  clear X1 X2 X3 X4 X5
  go_wp2_with fail
  refine (wpIn_wide (n := 3)).1 ?_
  refine range_tell (n := 3) (by decide) (gf := 45) (lb := #[.pointer (some ⟨b + 1 + 1 + 1 + 1 + 1, 0, none⟩), .pointer (some ⟨b + 1 + 1 + 1 + 1 + 1 + 1, 0, none⟩)]) rfl (enters_of Tryz.func45 (by kernel_rfl) rfl)
    (blocks_tell (3 - 1) (b + 1 + 1 + 1 + 1 + 1) (b + 1 + 1 + 1 + 1 + 1 + 1) s (by omega) 0 W0 a5 a6) (Below.refl _ _) (fun _ => rfl) KeepB.trans (fun W l r r' h1 h2 => keepB_b (w := W0) W l _ _ h1 h2 rfl rfl)
    (PtI w s K o1 o2 b) (fun _ _ _ => False) (ptI_own hB0.size hw0) (fun _ _ _ _ _ h _ _ => h) hI0 (PtA s K o1 o2 b) (fun x a' => ptA_own x a') ?assign ?body ?done ?stop
  case assign =>
    intro l x W KK hx hI hKK
    obtain ⟨A, hA⟩ : ∃ A : Nat, Hid (A = 64 * x) := ⟨_, rfl⟩
    obtain ⟨L, hLt, hLl⟩ := arr64_list (cutF s (A : Int) 0)
    have hL1 := arr64_one _ hLt
    have hiL' : (Tryz.prog.info? 60).map (·.size) = some L.toArray.size := by rw [List.size_toArray, hLl]; exact info64
    have he : encB s 0 x = #[.int .i64 (A : Int), .agg L.toArray] := by rw [hLt, encB, show min x (blocksOf s) = x by omega, hA.out]
    rw [he]
    obtain ⟨hth, W2, hW2, hA2, hB2⟩ := laid64 W L hLl
    have hK2 := fun a' => hKK a' W2 ((keeps_below hB2).from _) (KeepB.of_below hB2) (ptI_kept hI hB2)
    have hgt : b + 7 ≤ W.heap.size := hI.1.2.2.2.2.2.2.2.1
    have hLH : Hid (L.toArray = arr64 (cutF s (A : Int) 0)) := hLt
    clear hKK hI hLt he
    gi_wp2_with (first | (refine wpListIn_store_want 60 _ _ (W.heap.size) 0 L.toArray hth hiL' (all_oneCell_toArray hL1) rfl rfl rfl (by rfl) ?_))
    exact ⟨W.heap.size, A, L, hA, hLH, hLl, hgt, hA2, rfl⟩
  case body =>
    rintro l j a' W hll ⟨rec, hrec⟩ hlt ⟨⟨h1, h2, h3, h4, h5, h6, h7, hzW, hMW⟩, hB⟩ ⟨gx, A, L, hA, hL, hLl, hgx, hAt, rfl⟩
    rw [hKb.out] at hlt
    have hAlt : A < s.size := by have := hA.out; have := hKs'.out; omega
    have hiL : (Tryz.prog.info? 60).map (·.size) = some L.length := by rw [hLl.out]; exact info64
    have hidx : (A : Int) / 64 = (j : Int) := by have := hA.out; omega
    have hjKi : (j : Int) < (K : Int) := by omega
    have hwJ : IntKind.i64.wrap (j : Int) = (j : Int) := by rw [IntKind.wrap_i64]; omega
    obtain ⟨g1, rfl, hg1, hr1⟩ : ∃ g, o1 = some ⟨g, 0, none⟩ ∧ w.heap.size ≤ g ∧ At W g (rowCells K (rowOf (opnS s) s.size)) 41 := by
      rcases h6 with ⟨_, h⟩ | h
      · omega
      · exact h
    obtain ⟨g2, rfl, hg2, hr2⟩ : ∃ g, o2 = some ⟨g, 0, none⟩ ∧ w.heap.size ≤ g ∧ At W g (rowCells K (rowOf (outS s) s.size)) 41 := by
      rcases h7 with ⟨_, h⟩ | h
      · omega
      · exact h
    obtain ⟨O, hO⟩ : ∃ O, Hid (rowOf (outS s) s.size j = O) := ⟨_, rfl⟩
    have hOl : O < 18446744073709551616 := hO.out ▸ rowOf_lt _ _ _
    obtain ⟨N, hN⟩ : ∃ N, Hid (rowOf (opnS s) s.size j = N) := ⟨_, rfl⟩
    have hNl : N < 18446744073709551616 := hN.out ▸ rowOf_lt _ _ _
    obtain ⟨P0, hP0⟩ : ∃ P, Hid (ptV s j 0 = P) := ⟨_, rfl⟩
    obtain ⟨P1, hP1⟩ : ∃ P, Hid (ptV s j 1 = P) := ⟨_, rfl⟩
    obtain ⟨P2, hP2⟩ : ∃ P, Hid (ptV s j 2 = P) := ⟨_, rfl⟩
    obtain ⟨P4, hP4⟩ : ∃ P, Hid (ptV s j 4 = P) := ⟨_, rfl⟩
    have hP3 : Hid (ptV s j 3 = N) := hN
    have hP2l : P2 < 18446744073709551616 := hP2.out ▸ ptV_lt s j 2
    obtain ⟨C, hC⟩ : ∃ C, Hid (cyS s j = C) := ⟨_, rfl⟩
    obtain ⟨C', hC'⟩ : ∃ C, Hid (cyS s (j + 1) = C) := ⟨_, rfl⟩
    have hCl : C < 18446744073709551616 := Nat.lt_of_le_of_lt (hC.out ▸ cyS_le s j) (by decide)
    obtain ⟨D, hD⟩ : ∃ D, Hid (P2 * 2 % 18446744073709551616 = D) := ⟨_, rfl⟩
    have hDl : D < 18446744073709551616 := by have := hD.out; omega
    obtain ⟨E, hE⟩ : ∃ E, Hid (D ||| C = E) := ⟨_, rfl⟩
    have hEl : E < 18446744073709551616 := by have := ahead_lt s j; rw [hP2.out, hC.out, hD.out, hE.out] at this; exact this
    have q1 : IntKind.u64.wrap ((P2 : Int) * 2) = (D : Int) := by rw [IntKind.wrap_u64, ← hD.out]; omega
    have q2 : bits BinOp.or IntKind.u64 (D : Int) (C : Int) = (E : Int) := by rw [u64_or_nat D C hDl hCl, hE.out]
    have q3 : bits BinOp.andNot IntKind.u64 (P2 : Int) (E : Int) = (P4 : Int) := by
      rw [u64_andNot_nat P2 E hP2l hEl]
      have := first_row s j
      rw [hP2.out, hC.out, hD.out, hE.out, hP4.out] at this
      rw [this]
    have q4 : (P2 : Int) / 9223372036854775808 = (C' : Int) := by have := cy_next s j; rw [hP2.out, hC'.out] at this; omega
    have hEq := hid (fun (W' : World) (hb : Below W.heap.size W W') => show Calls Tryz.prog 30 #[.agg L.toArray, .int .u64 (O : Int)] W' fun e w' => e = .returned (.agg #[.int .u64 (P0 : Int), .int .u64 (P1 : Int), .int .u64 (P2 : Int), .int .u64 0, .int .u64 0]) ∧ Below W'.heap.size W' w' by
      rw [hL.out]
      exact split_calls (cutF s (A : Int) 0) (fun i => cutF_lt s _ 0 (by decide) i) O P0 P1 P2 hOl (by show _ = _; rw [← hO.out, hA.out, cut_str, hP0.out]) (by show _ = _; rw [← hO.out, hA.out, cut_blk, hP1.out]) (by show _ = _; rw [← hO.out, hA.out, cut_word, hP2.out]) W' (hMW.below hb (by omega)) (by have := hb.size; omega))
    have hrg := hAt.range (L := L) rfl
    have hkeep := hid (fun (W' : World) (hb : Below W.heap.size W W') => show W'.cell? ⟨b + 1, 0, none⟩ = some (.slice (some ⟨g2, 0, none⟩) K K) ∧ W'.cell? ⟨g2, j, none⟩ = some (.int .u64 (O : Int)) ∧ W'.rangeAt gx 0 L from
      ⟨(h2.keptAll hb).cell 0, by have := (hr2.keptAll hb).cell j; rw [rowCells_get _ hlt, hO.out] at this; exact this, (hAt.keptAll hb).range rfl⟩)
    have hS0 := hkeep.out W.drew (Below.refl _ _).drew
    have hj5 : ∀ f, f < 5 → j * 5 + f < K * 5 := fun f hf => by omega
    have hfac := hid (fun (W' : World) (hb : Below W.heap.size W W') => show W'.cell? ⟨b, 0, none⟩ = some (.slice (some ⟨g1, 0, none⟩) K K) ∧ W'.cell? ⟨g1, j, none⟩ = some (.int .u64 (N : Int)) ∧ W'.cell? ⟨b + 1 + 1 + 1 + 1, 0, none⟩ = some (.int .u64 (C : Int)) ∧ W'.frozen? ⟨b + 1 + 1 + 1 + 1, 0, none⟩ = false ∧ W'.cell? ⟨b + 1 + 1 + 1, 0, none⟩ = some (.slice (some ⟨b + 1 + 1, 0, none⟩) K K) ∧
        (∃ u, W'.cell? ⟨b + 1 + 1, j * 5, none⟩ = some u) ∧ (∃ u, W'.cell? ⟨b + 1 + 1, j * 5 + 1, none⟩ = some u) ∧ (∃ u, W'.cell? ⟨b + 1 + 1, j * 5 + 2, none⟩ = some u) ∧ (∃ u, W'.cell? ⟨b + 1 + 1, j * 5 + 3, none⟩ = some u) ∧ (∃ u, W'.cell? ⟨b + 1 + 1, j * 5 + 4, none⟩ = some u) ∧
        (∀ i, W'.frozen? ⟨b + 1 + 1, i, none⟩ = false) ∧ b + 7 ≤ W'.heap.size ∧ g1 < W'.heap.size ∧ True by
      refine ⟨(h1.keptAll hb).cell 0, ?_, ?_, (h5.keptAll hb).frozen 0, (h4.keptAll hb).cell 0, ?_, ?_, ?_, ?_, ?_, fun i => (h3.keptAll hb).frozen i, Nat.le_trans hzW hb.size, (hr1.keptAll hb).lt, trivial⟩
      · have := (hr1.keptAll hb).cell j
        rw [rowCells_get _ hlt, hN.out] at this
        exact this
      · have := (h5.keptAll hb).cell 0
        rw [hC.out] at this
        exact this
      · exact ⟨_, by rw [(h3.keptAll hb).cell (j * 5), rowCells_get _ (show j * 5 < K * 5 by omega)]⟩
      · exact ⟨_, by rw [(h3.keptAll hb).cell (j * 5 + 1), rowCells_get _ (hj5 1 (by omega))]⟩
      · exact ⟨_, by rw [(h3.keptAll hb).cell (j * 5 + 2), rowCells_get _ (hj5 2 (by omega))]⟩
      · exact ⟨_, by rw [(h3.keptAll hb).cell (j * 5 + 3), rowCells_get _ (hj5 3 (by omega))]⟩
      · exact ⟨_, by rw [(h3.keptAll hb).cell (j * 5 + 4), rowCells_get _ (hj5 4 (by omega))]⟩)
    have hgW : w.heap.size ≤ W.heap.size := hB.size
    have hg1b := hob1.out g1 rfl
    have hg2b := hob2.out g2 rfl
    have hfin := hid (fun (X : World) (gp : Nat) (hb : Below W.heap.size W X) (hgp : W.heap.size ≤ gp) => show KeepsFrom W0.heap.size W (((((((((X.setCell ⟨gp, 3, none⟩ (.int .u64 (N : Int))).setCell ⟨gp, 4, none⟩ (.int .u64 (P4 : Int))).setCell ⟨b + 1 + 1 + 1 + 1, 0, none⟩ (.int .u64 (C' : Int))).setCell ⟨b + 1 + 1, j * 5, none⟩ (.int .u64 (P0 : Int))).setCell ⟨b + 1 + 1, j * 5 + 1, none⟩ (.int .u64 (P1 : Int))).setCell ⟨b + 1 + 1, j * 5 + 2, none⟩ (.int .u64 (P2 : Int))).setCell ⟨b + 1 + 1, j * 5 + 3, none⟩ (.int .u64 (N : Int))).setCell ⟨b + 1 + 1, j * 5 + 4, none⟩ (.int .u64 (P4 : Int)))) ∧
        KeepB (b + 1 + 1 + 1 + 1 + 1) (b + 1 + 1 + 1 + 1 + 1 + 1) W (((((((((X.setCell ⟨gp, 3, none⟩ (.int .u64 (N : Int))).setCell ⟨gp, 4, none⟩ (.int .u64 (P4 : Int))).setCell ⟨b + 1 + 1 + 1 + 1, 0, none⟩ (.int .u64 (C' : Int))).setCell ⟨b + 1 + 1, j * 5, none⟩ (.int .u64 (P0 : Int))).setCell ⟨b + 1 + 1, j * 5 + 1, none⟩ (.int .u64 (P1 : Int))).setCell ⟨b + 1 + 1, j * 5 + 2, none⟩ (.int .u64 (P2 : Int))).setCell ⟨b + 1 + 1, j * 5 + 3, none⟩ (.int .u64 (N : Int))).setCell ⟨b + 1 + 1, j * 5 + 4, none⟩ (.int .u64 (P4 : Int)))) ∧
        PtI w s K (some ⟨g1, 0, none⟩) (some ⟨g2, 0, none⟩) b (j + 1) (((((((((X.setCell ⟨gp, 3, none⟩ (.int .u64 (N : Int))).setCell ⟨gp, 4, none⟩ (.int .u64 (P4 : Int))).setCell ⟨b + 1 + 1 + 1 + 1, 0, none⟩ (.int .u64 (C' : Int))).setCell ⟨b + 1 + 1, j * 5, none⟩ (.int .u64 (P0 : Int))).setCell ⟨b + 1 + 1, j * 5 + 1, none⟩ (.int .u64 (P1 : Int))).setCell ⟨b + 1 + 1, j * 5 + 2, none⟩ (.int .u64 (P2 : Int))).setCell ⟨b + 1 + 1, j * 5 + 3, none⟩ (.int .u64 (N : Int))).setCell ⟨b + 1 + 1, j * 5 + 4, none⟩ (.int .u64 (P4 : Int)))) by
      have hb2 : Below W.heap.size W ((X.setCell ⟨gp, 3, none⟩ (.int .u64 (N : Int))).setCell ⟨gp, 4, none⟩ (.int .u64 (P4 : Int))) := (hb.setCell (p := ⟨gp, 3, none⟩) hgp _).setCell (p := ⟨gp, 4, none⟩) hgp _
      generalize (X.setCell ⟨gp, 3, none⟩ (.int .u64 (N : Int))).setCell ⟨gp, 4, none⟩ (.int .u64 (P4 : Int)) = Y at hb2 ⊢
      have hB3 : Below w.heap.size w Y := hB.trans (hb2.mono hgW)
      refine ⟨(((((((keeps_below hb2).trans (KeepsOthers.setCell _ _ _)).trans (KeepsOthers.setCell _ _ _)).trans (KeepsOthers.setCell _ _ _)).trans (KeepsOthers.setCell _ _ _)).trans (KeepsOthers.setCell _ _ _)).trans (KeepsOthers.setCell _ _ _)).from _,
        ((((((KeepB.of_below hb2).trans (keepB_set (p := ⟨b + 1 + 1 + 1 + 1, 0, none⟩) (by show b + 1 + 1 + 1 + 1 + 1 ≠ b + 1 + 1 + 1 + 1; omega) (by show b + 1 + 1 + 1 + 1 + 1 + 1 ≠ b + 1 + 1 + 1 + 1; omega))).trans (keepB_set (p := ⟨b + 1 + 1, j * 5, none⟩) (by show b + 1 + 1 + 1 + 1 + 1 ≠ b + 1 + 1; omega) (by show b + 1 + 1 + 1 + 1 + 1 + 1 ≠ b + 1 + 1; omega))).trans (keepB_set (p := ⟨b + 1 + 1, j * 5 + 1, none⟩) (by show b + 1 + 1 + 1 + 1 + 1 ≠ b + 1 + 1; omega) (by show b + 1 + 1 + 1 + 1 + 1 + 1 ≠ b + 1 + 1; omega))).trans (keepB_set (p := ⟨b + 1 + 1, j * 5 + 2, none⟩) (by show b + 1 + 1 + 1 + 1 + 1 ≠ b + 1 + 1; omega) (by show b + 1 + 1 + 1 + 1 + 1 + 1 ≠ b + 1 + 1; omega))).trans (keepB_set (p := ⟨b + 1 + 1, j * 5 + 3, none⟩) (by show b + 1 + 1 + 1 + 1 + 1 ≠ b + 1 + 1; omega) (by show b + 1 + 1 + 1 + 1 + 1 + 1 ≠ b + 1 + 1; omega))).trans (keepB_set (p := ⟨b + 1 + 1, j * 5 + 4, none⟩) (by show b + 1 + 1 + 1 + 1 + 1 ≠ b + 1 + 1; omega) (by show b + 1 + 1 + 1 + 1 + 1 + 1 ≠ b + 1 + 1; omega)),
        ⟨?_, ?_, ?_, ?_, ?_, ?_, ?_, ?_, ?_⟩, ?_⟩
      · exact ((h1.keptAll hb2).other (p := ⟨b + 1 + 1 + 1 + 1, 0, none⟩) (by show b ≠ b + 1 + 1 + 1 + 1; omega) _).five_other (by omega) _ _ _ _ _ _
      · exact ((h2.keptAll hb2).other (p := ⟨b + 1 + 1 + 1 + 1, 0, none⟩) (by show b + 1 ≠ b + 1 + 1 + 1 + 1; omega) _).five_other (by omega) _ _ _ _ _ _
      · have h := (((((((h3.keptAll hb2).other (p := ⟨b + 1 + 1 + 1 + 1, 0, none⟩) (by show b + 1 + 1 ≠ b + 1 + 1 + 1 + 1; omega) (.int .u64 (C' : Int))).set (j * 5) (.int .u64 (P0 : Int))).set (j * 5 + 1) (.int .u64 (P1 : Int))).set (j * 5 + 2) (.int .u64 (P2 : Int))).set (j * 5 + 3) (.int .u64 (N : Int))).set (j * 5 + 4) (.int .u64 (P4 : Int)))
        rw [rowCells_set, rowCells_set, rowCells_set, rowCells_set, rowCells_set] at h
        rw [show rowCells (K * 5) (ptUp s (j + 1)) = rowCells (K * 5) (fun i => if i = j * 5 + 4 then P4 else if i = j * 5 + 3 then N else if i = j * 5 + 2 then P2 else if i = j * 5 + 1 then P1 else if i = j * 5 then P0 else ptUp s j i) from
          rowCells_congr (fun i _ => by rw [← hP0.out, ← hP1.out, ← hP2.out, ← hP3.out, ← hP4.out]; exact (ptUp_set s j i).symm)]
        exact h
      · exact ((h4.keptAll hb2).other (p := ⟨b + 1 + 1 + 1 + 1, 0, none⟩) (by show b + 1 + 1 + 1 ≠ b + 1 + 1 + 1 + 1; omega) _).five_other (by omega) _ _ _ _ _ _
      · have h := (h5.keptAll hb2).set 0 (.int .u64 (C' : Int))
        rw [hC'.out]
        exact At.five_other (by simpa using h) (by omega) _ _ _ _ _ _
      · exact .inr ⟨g1, rfl, hg1, ((hr1.keptAll hb2).other (p := ⟨b + 1 + 1 + 1 + 1, 0, none⟩) (by show g1 ≠ b + 1 + 1 + 1 + 1; omega) _).five_other (by omega) _ _ _ _ _ _⟩
      · exact .inr ⟨g2, rfl, hg2, ((hr2.keptAll hb2).other (p := ⟨b + 1 + 1 + 1 + 1, 0, none⟩) (by show g2 ≠ b + 1 + 1 + 1 + 1; omega) _).five_other (by omega) _ _ _ _ _ _⟩
      · exact Nat.le_trans hzW (((((((keeps_below hb2).trans (KeepsOthers.setCell _ _ _)).trans (KeepsOthers.setCell _ _ _)).trans (KeepsOthers.setCell _ _ _)).trans (KeepsOthers.setCell _ _ _)).trans (KeepsOthers.setCell _ _ _)).trans (KeepsOthers.setCell _ _ _)).1
      · refine TabM.below (n₀ := w.heap.size) (hMW.below (n₀ := w.heap.size) (hb2.mono hgW) hw0) ?_ hw0
        exact ((((((Below.refl _ Y).setCell (p := ⟨b + 1 + 1 + 1 + 1, 0, none⟩) (by show w.heap.size ≤ b + 1 + 1 + 1 + 1; omega) _).setCell (p := ⟨b + 1 + 1, j * 5, none⟩) (by show w.heap.size ≤ b + 1 + 1; omega) _).setCell (p := ⟨b + 1 + 1, j * 5 + 1, none⟩) (by show w.heap.size ≤ b + 1 + 1; omega) _).setCell (p := ⟨b + 1 + 1, j * 5 + 2, none⟩) (by show w.heap.size ≤ b + 1 + 1; omega) _).setCell (p := ⟨b + 1 + 1, j * 5 + 3, none⟩) (by show w.heap.size ≤ b + 1 + 1; omega) _).setCell (p := ⟨b + 1 + 1, j * 5 + 4, none⟩) (by show w.heap.size ≤ b + 1 + 1; omega) _
      · exact ((((((hB3).setCell (p := ⟨b + 1 + 1 + 1 + 1, 0, none⟩) (by show w.heap.size ≤ b + 1 + 1 + 1 + 1; omega) _).setCell (p := ⟨b + 1 + 1, j * 5, none⟩) (by show w.heap.size ≤ b + 1 + 1; omega) _).setCell (p := ⟨b + 1 + 1, j * 5 + 1, none⟩) (by show w.heap.size ≤ b + 1 + 1; omega) _).setCell (p := ⟨b + 1 + 1, j * 5 + 2, none⟩) (by show w.heap.size ≤ b + 1 + 1; omega) _).setCell (p := ⟨b + 1 + 1, j * 5 + 3, none⟩) (by show w.heap.size ≤ b + 1 + 1; omega) _).setCell (p := ⟨b + 1 + 1, j * 5 + 4, none⟩) (by show w.heap.size ≤ b + 1 + 1; omega) _)
    clear h1 h2 h3 h4 h5 h6 h7 hr1 hr2 hA hL hLl hAt hO hN hP0 hP1 hP2 hP3 hP4 hC hC' hD hE hrg hMW hB hAlt hj5 hOl hNl hP2l hCl hDl hEl
    gi_wp2_with fail
    refine wpIn_region_round (S := fun W' => W'.cell? ⟨b + 1, 0, none⟩ = some (.slice (some ⟨g2, 0, none⟩) K K) ∧ W'.cell? ⟨g2, j, none⟩ = some (.int .u64 (O : Int)) ∧ W'.rangeAt gx 0 L) (by kernel_rfl) (by kernel_rfl) (fun _ _ h => h) hS0 (fun hHeld => ?_)
    (refine wpAnyH_take (i := 0) (v := .agg L.toArray) rfl (by kernel_rfl) (by kernel_rfl) (by kernel_rfl) (fun _ _ _ h => h) (yieldsIf_load_mid (by rfl) 60 _ rfl (gx) 0 rfl L _ (fun wq hq => hq.2.2) Tryz.underlying60 rfl hiL) (by assumption) ?_; simp only [Act.put, List.getElem_toArray, List.getElem_cons_zero, List.setIfInBounds_toArray, List.set_cons_zero, List.set_cons_succ])
    (refine' wpAnyH_take (i := 1) rfl (by kernel_rfl) (by kernel_rfl) (by kernel_rfl) (fun _ _ _ h => h) (Or.inl ⟨by rfl, ?_⟩) (by assumption) ?_; rotate_left; (· (intro wq hq; (try dsimp only at hq); go_simp; first | done | with_reducible rfl)); simp only [Act.put, List.getElem_toArray, List.getElem_cons_zero, List.getElem_cons_succ, List.setIfInBounds_toArray, List.set_cons_zero, List.set_cons_succ])
    (refine' wpAnyH_take (i := 2) rfl (by kernel_rfl) (by kernel_rfl) (by kernel_rfl) (fun _ _ _ h => h) (Or.inl ⟨by rfl, ?_⟩) (by assumption) ?_; rotate_left; (· (intro wq hq; (try dsimp only at hq); go_simp; first | done | with_reducible rfl)); simp only [Act.put, List.getElem_toArray, List.getElem_cons_zero, List.getElem_cons_succ, List.setIfInBounds_toArray, List.set_cons_zero, List.set_cons_succ])
    (refine' wpAnyH_take (i := 3) rfl (by kernel_rfl) (by kernel_rfl) (by kernel_rfl) (fun _ _ _ h => h) (Or.inl ⟨by rfl, ?_⟩) (by assumption) ?_; rotate_left; (· (intro wq hq; (try dsimp only at hq); go_simp; first | done | with_reducible rfl)); simp only [Act.put, List.getElem_toArray, List.getElem_cons_zero, List.getElem_cons_succ, List.setIfInBounds_toArray, List.set_cons_zero, List.set_cons_succ])
    (refine' wpAnyH_take (i := 4) rfl (by kernel_rfl) (by kernel_rfl) (by kernel_rfl) (fun _ _ _ h => h) (Or.inl ⟨by rfl, ?_⟩) (by assumption) ?_; rotate_left; (· (intro wq hq; (try dsimp only at hq); go_simp; first | done | with_reducible rfl)); simp only [Act.put, List.getElem_toArray, List.getElem_cons_zero, List.getElem_cons_succ, List.setIfInBounds_toArray, List.set_cons_zero, List.set_cons_succ])
    (refine' wpAnyH_take (i := 5) rfl (by kernel_rfl) (by kernel_rfl) (by kernel_rfl) (fun _ _ _ h => h) (Or.inl ⟨by rfl, ?_⟩) (by assumption) ?_; rotate_left; (· (intro wq hq; (try dsimp only at hq); go_simp; first | done | with_reducible rfl)); simp only [Act.put, List.getElem_toArray, List.getElem_cons_zero, List.getElem_cons_succ, List.setIfInBounds_toArray, List.set_cons_zero, List.set_cons_succ])
    refine wpAnyH_ready (rs := [6, 7]) (by kernel_rfl) (by simp) ?_
    refine AllReadyH.cons rfl (fun K hK => ?_) ?_
    · rw [if_pos (by rfl)]
      go_simp
      refine (hEq.out _ (Below.refl _ _).drew).mono ?_
      rintro e wq ⟨rfl, hbq⟩
      have hb1 : Below W.heap.size W wq := (Below.refl _ W).drew.trans hbq
      have hszq := hb1.size
      refine hK.out _ _ (hkeep.out _ hb1) (fun hHa => ?_)
      clear hK K
      refine wpAnyH_ready (rs := [7]) (by kernel_rfl) (by simp) ?_
      refine AllReadyH.cons rfl (fun K hK => ?_) ?_
      · go_simp
        refine hK.out _ _ (hkeep.out _ (hb1.alloc hszq _)) (fun hHb => ?_)
        clear hK K
        refine wpAnyH_ready (rs := [8]) (by kernel_rfl) (by simp) ?_
        refine AllReadyH.cons rfl (fun K hK => ?_) ?_
        · go_simp
          have hXb := hb1.alloc (o := (.cells #[.int .u64 (P0 : Int), .int .u64 (P1 : Int), .int .u64 (P2 : Int), .int .u64 0, .int .u64 0] 43)) hszq
          have hXp := At.new wq #[.int .u64 (P0 : Int), .int .u64 (P1 : Int), .int .u64 (P2 : Int), .int .u64 0, .int .u64 0] 43
          have hgp : W.heap.size ≤ wq.heap.size := hszq
          obtain ⟨f1, f2, f3, f4, f5, ⟨u0, f6⟩, ⟨u1, f7⟩, ⟨u2, f8⟩, ⟨u3, f9⟩, ⟨u4, f10⟩, f11, f12, f13, -⟩ := hfac.out _ hXb
          have f11a := f11 (j * 5)
          have f11b := f11 (j * 5 + 1)
          have f11c := f11 (j * 5 + 2)
          have f11d := f11 (j * 5 + 3)
          have f11e := f11 (j * 5 + 4)
          clear f11
          obtain ⟨c0, c1, c2, c3, c4, m3, m4⟩ := five_facts hXp
          have hgl := hXp.lt
          have hfe := hid (hfin.out _ _ hXb hgp)
          refine hK.out _ _ (hkeep.out _ hXb) (fun hH => ?_)
          clear hK K
          refine wpAnyH_done (by kernel_rfl) ?_ _
          have hgpb : b + 7 ≤ wq.heap.size := Nat.le_trans hzW hgp
          clear hXp hXb hEq hfin hfac hkeep hb1 hszq hgp hbq
          clear hH hHa hHb hHeld hS0
          rename_i Kz hKz
          refine hKz _ _ ?_
          clear hKz Kz
          generalize wq.alloc (.cells #[.int .u64 (P0 : Int), .int .u64 (P1 : Int), .int .u64 (P2 : Int), .int .u64 0, .int .u64 0] 43) = X at *
          gi_wp2
          exact hfe.out
        · exact AllReadyH.nil
      · exact AllReadyH.nil
    · refine AllReadyH.cons rfl (fun K hK => ?_) ?_
      · go_simp
        have hba : Below W.heap.size W (W.drew.alloc (.cells #[.int .u64 0, .int .u64 0, .int .u64 0, .int .u64 0, .int .u64 0] 43)) := (Below.refl _ W).drew.alloc (Nat.le_refl _) _
        refine hK.out _ _ (hkeep.out _ hba) (fun hHa => ?_)
        clear hK K
        refine wpAnyH_ready (rs := [6]) (by kernel_rfl) (by simp) ?_
        refine AllReadyH.cons rfl (fun K hK => ?_) ?_
        · rw [if_pos (by rfl)]
          go_simp
          refine (hEq.out _ hba).mono ?_
          rintro e wq ⟨rfl, hbq⟩
          have hb1 : Below W.heap.size W wq := hba.trans (hbq.mono hba.size)
          have hp0 : At wq W.heap.size #[.int .u64 0, .int .u64 0, .int .u64 0, .int .u64 0, .int .u64 0] 43 := (At.new W.drew #[.int .u64 0, .int .u64 0, .int .u64 0, .int .u64 0, .int .u64 0] 43).keptAll hbq
          refine hK.out _ _ (hkeep.out _ hb1) (fun hHb => ?_)
          clear hK K
          refine wpAnyH_ready (rs := [8]) (by kernel_rfl) (by simp) ?_
          refine AllReadyH.cons rfl (fun K hK => ?_) ?_
          · have k0 := hp0.cell 0
            have k1 := hp0.cell 1
            have k2 := hp0.cell 2
            have k3 := hp0.cell 3
            have k4 := hp0.cell 4
            have n0 := hp0.frozen 0
            have n1 := hp0.frozen 1
            have n2 := hp0.frozen 2
            have n3 := hp0.frozen 3
            have n4 := hp0.frozen 4
            simp only [List.getElem?_toArray, List.getElem?_cons_zero, List.getElem?_cons_succ] at k0 k1 k2 k3 k4
            go_simp
            have hXb : Below W.heap.size W (((((wq.setCell ⟨W.heap.size, 0, none⟩ (.int .u64 (P0 : Int))).setCell ⟨W.heap.size, 1, none⟩ (.int .u64 (P1 : Int))).setCell ⟨W.heap.size, 2, none⟩ (.int .u64 (P2 : Int))).setCell ⟨W.heap.size, 3, none⟩ (.int .u64 0)).setCell ⟨W.heap.size, 4, none⟩ (.int .u64 0)) := ((((hb1.setCell (p := ⟨W.heap.size, 0, none⟩) (Nat.le_refl _) _).setCell (p := ⟨W.heap.size, 1, none⟩) (Nat.le_refl _) _).setCell (p := ⟨W.heap.size, 2, none⟩) (Nat.le_refl _) _).setCell (p := ⟨W.heap.size, 3, none⟩) (Nat.le_refl _) _).setCell (p := ⟨W.heap.size, 4, none⟩) (Nat.le_refl _) _
            have hXp : At _ W.heap.size _ _ := hp0.five (y0 := .int .u64 (P0 : Int)) (y1 := .int .u64 (P1 : Int)) (y2 := .int .u64 (P2 : Int)) (y3 := .int .u64 0) (y4 := .int .u64 0)
            have hgp : W.heap.size ≤ W.heap.size := Nat.le_refl _
            obtain ⟨X, hX⟩ : ∃ X, X = (((((wq.setCell ⟨W.heap.size, 0, none⟩ (.int .u64 (P0 : Int))).setCell ⟨W.heap.size, 1, none⟩ (.int .u64 (P1 : Int))).setCell ⟨W.heap.size, 2, none⟩ (.int .u64 (P2 : Int))).setCell ⟨W.heap.size, 3, none⟩ (.int .u64 0)).setCell ⟨W.heap.size, 4, none⟩ (.int .u64 0)) := ⟨_, rfl⟩
            rw [← hX] at hXb hXp ⊢
            clear hX k0 k1 k2 k3 k4 n0 n1 n2 n3 n4 hp0 hba
            obtain ⟨f1, f2, f3, f4, f5, ⟨u0, f6⟩, ⟨u1, f7⟩, ⟨u2, f8⟩, ⟨u3, f9⟩, ⟨u4, f10⟩, f11, f12, f13, -⟩ := hfac.out _ hXb
            have f11a := f11 (j * 5)
            have f11b := f11 (j * 5 + 1)
            have f11c := f11 (j * 5 + 2)
            have f11d := f11 (j * 5 + 3)
            have f11e := f11 (j * 5 + 4)
            clear f11
            obtain ⟨c0, c1, c2, c3, c4, m3, m4⟩ := five_facts hXp
            have hgl := hXp.lt
            have hfe := hid (hfin.out _ _ hXb hgp)
            refine hK.out _ _ (hkeep.out _ hXb) (fun hH => ?_)
            clear hK K
            refine wpAnyH_done (by kernel_rfl) ?_ _
            have hgpb : b + 7 ≤ W.heap.size := Nat.le_trans hzW hgp
            clear hXp hXb hEq hfin hfac hkeep hb1 hgp hbq
            clear hH hHa hHb hHeld hS0
            rename_i Kz hKz
            refine hKz _ _ ?_
            clear hKz Kz
            gi_wp2
            exact hfe.out
          · exact AllReadyH.nil
        · exact AllReadyH.nil
      · exact AllReadyH.nil
  case done =>
    rintro D W hD ⟨⟨-, -, h3, h4, -, -, -, hzW, -⟩, hB⟩ hKD
    rw [hKb.out] at h3
    rw [show rowCells (K * 5) (ptUp s K) = rowCells (K * 5) (ptZ s) from rowCells_congr fun i hi => by unfold ptUp ptZ; rw [if_pos (by omega)]] at h3
    have k4 := h4.cell 0
    simp only [List.getElem?_toArray, List.getElem?_cons_zero] at k4
    rename_i Kz hKz
    have h3' := hid h3
    clear h4 hI0 hnf h3
    refine hKz _ _ ?_
    go_wp2
    refine ⟨by simp, .inl ⟨_, _, rfl, run_takeDeferred hKD, ?_⟩⟩
    refine ⟨.slice (some ⟨b + 1 + 1, 0, none⟩) K K, ?_, b + 1 + 1, by omega, rfl, h3'.out.own (grownBy_putObj' W D (.deferred none)) (fun r e => by cases e; exact ⟨_, hKD, rfl⟩), hB.trans (belowK_b (w := w) (Nat.le_refl _) W D _ _ (by omega) hKD rfl rfl)⟩
    simp [results, Tryz.f17, go_sem]
  case stop =>
    rintro D c pre W _ _ h _
    exact h.elim
theorem parts_calls (s : ByteArray) (hs : s.size ≤ 140737488355328) (w : World) (hT : Tab w) (hM : TabM w) (hw0 : 1 < w.heap.size) :
    Calls Tryz.prog 17 #[.string s] w fun e w' => ∃ g, w.heap.size ≤ g ∧ e = .returned (.slice (some ⟨g, 0, none⟩) (need s.size) (need s.size)) ∧ At w' g (rowCells (need s.size * 5) (ptZ s)) 43 ∧ Below w.heap.size w w' := callsIn_wide.1 (parts_in s hs w hT hM hw0)
end Go.Proofs.YtlckhiflhnlgpabGreatDoor
