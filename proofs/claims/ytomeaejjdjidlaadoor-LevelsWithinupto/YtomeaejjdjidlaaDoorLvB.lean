/-
  LvBuild, LvBuild2.
-/
import Derived.Test.YtomeaejjdjidlaaDoorLvA
import Derived.Deep.DeepCutAuto
import Derived.Deep.RegionHeld
/-
  What levels.Build answers.
-/
namespace Go.Proofs.YtomeaejjdjidlaaDoor
open Go.RowKit Go.Shelf

theorem sizeLvs : (Tryd.prog.info? 47).map (·.size) = some 2 := by kernel_rfl
theorem load_lvs {w : World} {b : Nat} {x y : Value} (h : At w b #[x, y] 47) : (loadVar 47 ⟨b, 0, none⟩).run Tryd.prog w = .ok (.agg #[x, y]) w :=
  run_loadVar_row (P := Tryd.prog) w b 47 47 #[x, y] (0, 0) _ h Tryd.underlying47 rfl sizeLvs
theorem ret_lvs2 {fn : Func} {p u : Tmp} {R : Ending → World → Prop} {a : Act} {w : World} {b : Nat} {x y : Value} (hres : fn.results = #[.cell p 47, .tmp u]) (hp : a.tmps.getD p undef = .pointer (some ⟨b, 0, none⟩))
    (h : At w b #[x, y] 47) (hd : a.defers = []) (hR : R (.returned (.tuple #[.agg #[x, y], a.tmps.getD u undef])) w) : bodyPost Tryd.prog fn R .ret a w := by
  refine bodyPost_ret (v := .tuple #[.agg #[x, y], a.tmps.getD u undef]) ?_ hd hR
  rw [results_cell_tmp hres, hp]
  simp [asAddr, load_lvs h]
theorem At.twoL {w : World} {b : Nat} {x y x' y' : Value} {t : TypeId} (h : At w b #[x, y] t) : At ((w.setCell ⟨b, 0, none⟩ x').setCell ⟨b, 1, none⟩ y') b #[x', y'] t := by
  have := (h.set 0 x').set 1 y'
  simpa using this
theorem At.factsL {w : World} {b : Nat} {x y : Value} {t : TypeId} (h : At w b #[x, y] t) : w.cell? ⟨b, 0, none⟩ = some x ∧ w.cell? ⟨b, 1, none⟩ = some y ∧ w.frozen? ⟨b, 0, none⟩ = false ∧ w.frozen? ⟨b, 1, none⟩ = false := ⟨h.cell 0, h.cell 1, h.frozen 0, h.frozen 1⟩

/-! Rows of a list: kept, and one of them turned. -/
def putR (Y : Nat → Nat) (i j : Nat) : Nat := if j = i / 64 then Y (i / 64) ||| 2 ^ (i % 64) else Y j
section
variable {w w' : World} {A m n g : Nat} {F : Nat → Nat → Nat}
theorem LvAt.kept (h : LvAt w A m n F) (hb : Below w.heap.size w w') : LvAt w' A m n F := ⟨h.1.keptAll hb, fun k hk => (h.2 k hk).keptAll hb⟩
theorem LvAt.other (h : LvAt w A m n F) (hb : But g w w') (hg : g < A ∨ A + m < g) : LvAt w' A m n F := ⟨hb.at h.1 (by omega), fun k hk => hb.at (h.2 k hk) (by omega)⟩
theorem LvAt.put {k : Nat} {Y : Nat → Nat} (h : LvAt w A m n F) (hk : k < m) (hb : But (A + 1 + k) w w') (ha : At w' (A + 1 + k) (rowCells (need n) Y) 22) {G : Nat → Nat → Nat} (hG : ∀ j, j < m → ∀ i, G j i = if j = k then Y i else F j i) : LvAt w' A m n G := by
  refine ⟨hb.at h.1 (by omega), fun j hj => ?_⟩
  by_cases hjk : j = k
  · subst hjk
    rw [rowCells_congr (Y' := Y) (fun i _ => by rw [hG j hj, if_pos rfl])]
    exact ha
  · rw [rowCells_congr (Y' := F j) (fun i _ => by rw [hG j hj, if_neg hjk])]
    exact hb.at (h.2 j hj) (by omega)
theorem LvAt.congr {G : Nat → Nat → Nat} (h : LvAt w A m n F) (hG : ∀ j, j < m → ∀ i, G j i = F j i) : LvAt w A m n G := ⟨h.1, fun k hk => by rw [rowCells_congr (Y' := F k) (fun i _ => hG k hk i)]; exact h.2 k hk⟩
theorem LvAt.lt (h : LvAt w A m n F) : A < w.heap.size ∧ ∀ k, k < m → A + 1 + k < w.heap.size := ⟨h.1.lt, fun k hk => (h.2 k hk).lt⟩
theorem LvAt.cells (h : LvAt w A m n F) {k : Nat} (hk : k < m) : w.cell? ⟨A, k * 2, none⟩ = some (.int .i64 (n : Int)) ∧ w.cell? ⟨A, k * 2 + 1, none⟩ = some (.slice (some ⟨A + 1 + k, 0, none⟩) (need n) (need n)) := by
  have c0 := h.1.cell (k * 2)
  have c1 := h.1.cell (k * 2 + 1)
  rw [lvC_get (by omega), if_pos (show k * 2 / 2 < m by omega), if_pos (show k * 2 % 2 = 0 by omega)] at c0
  rw [lvC_get (by omega), if_pos (show (k * 2 + 1) / 2 < m by omega), if_neg (show ¬ (k * 2 + 1) % 2 = 0 by omega), show (k * 2 + 1) / 2 = k by omega] at c1
  exact ⟨c0, c1⟩
end
theorem row_put {G G' : Nat → Bool} {n p : Nat} (hp : p < n) (h : ∀ i, i < n → G' i = (G i || decide (i = p))) (j : Nat) : rowOf G' n j = putR (rowOf G n) p j := by
  unfold putR
  have hx : (if j = p / 64 then rowOf G n (p / 64) ||| 2 ^ (p % 64) else rowOf G n j) < 18446744073709551616 := by
    split
    · exact Nat.or_lt_two_pow (n := 64) (rowOf_lt _ _ _) (Nat.pow_lt_pow_right (by decide) (by omega))
    · exact rowOf_lt _ _ _
  refine (rowOf_eq hx (fun r hr => ?_)).symm
  have hb : ∀ j', (rowOf G n j').testBit r = (decide (64 * j' + r < n) && G (64 * j' + r)) := fun j' => by
    rw [rowOf, sumBits_bit, decide_eq_true hr]; rfl
  by_cases hl : 64 * j + r < n
  · rw [decide_eq_true hl, Bool.true_and, h _ hl]
    by_cases hj : j = p / 64
    · rw [if_pos hj, Nat.testBit_or, hb, Nat.testBit_two_pow, ← hj, decide_eq_true hl, Bool.true_and]
      congr 1
      rw [decide_eq_decide]
      omega
    · rw [if_neg hj, hb, decide_eq_true hl, Bool.true_and, decide_eq_false (by omega), Bool.or_false]
  · rw [decide_eq_false hl, Bool.false_and]
    by_cases hj : j = p / 64
    · rw [if_pos hj, Nat.testBit_or, hb, Nat.testBit_two_pow, ← hj, decide_eq_false hl, Bool.false_and, Bool.false_or, decide_eq_false (by omega)]
    · rw [if_neg hj, hb, decide_eq_false hl, Bool.false_and]
/-- The row of the level k + 1, as far as the places below x. -/
def rwS (c : Nat) (s : ByteArray) (x k : Nat) : Nat → Nat := rowOf (fun i => decide (i < x) && lvS c s (k + 1) i) s.size
theorem rwS_lt (c : Nat) (s : ByteArray) (x k j : Nat) : rwS c s x k j < 18446744073709551616 := rowOf_lt _ _ _
theorem rwS_zero (c : Nat) (s : ByteArray) (k j : Nat) : rwS c s 0 k j = 0 := by
  unfold rwS
  refine (rowOf_eq (by decide) fun r hr => ?_).symm
  rw [decide_eq_false (by omega : ¬ 64 * j + r < 0)]
  simp
theorem rwS_full (c : Nat) (s : ByteArray) (k j : Nat) : rwS c s s.size k j = rowOf (lvS c s (k + 1)) s.size j := rowOf_congr (fun i hi => by rw [decide_eq_true hi, Bool.true_and]) j
theorem rwS_off {c : Nat} {s : ByteArray} {x k : Nat} (h : lvS c s (k + 1) x = false) (j : Nat) : rwS c s (x + 1) k j = rwS c s x k j := by
  unfold rwS
  refine rowOf_congr (fun i hi => ?_) j
  by_cases hx : i = x
  · rw [hx, h]; simp
  · congr 1
    rw [decide_eq_decide]
    omega
theorem rwS_on {c : Nat} {s : ByteArray} {x k : Nat} (hx : x < s.size) (h : lvS c s (k + 1) x = true) (j : Nat) : rwS c s (x + 1) k j = putR (rwS c s x k) x j := by
  unfold rwS
  refine row_put hx (fun i hi => ?_) j
  by_cases he : i = x
  · rw [he, h]; simp
  · rw [decide_eq_false he, Bool.or_false]
    congr 1
    rw [decide_eq_decide]
    omega

/-- What is done with a place: a bit of one row, or nothing. -/
def B1 (s : ByteArray) (m i d A B : Nat) (F G : Nat → Nat → Nat) (w w' : World) : Prop :=
  (∃ k, d = k + 1 ∧ k < m ∧ byteAt s i = 58 ∧ At w' (A + 1 + k) (rowCells (need s.size) (putR (F k) i)) 22 ∧ But (A + 1 + k) w w') ∨
       (∃ k, d = k + 1 ∧ k < m ∧ byteAt s i = 44 ∧ At w' (B + 1 + k) (rowCells (need s.size) (putR (G k) i)) 22 ∧ But (B + 1 + k) w w') ∨
       (((d = 0 ∨ m < d) ∨ (byteAt s i ≠ 58 ∧ byteAt s i ≠ 44)) ∧ w' = w)

set_option maxRecDepth 10000 in
set_option maxHeartbeats 2000000 in
theorem build1_calls (s : ByteArray) (hs : s.size ≤ 1099511627776) (m i d : Nat) (hi : i < s.size) (hd : d ≤ 1099511627776) (bm bs bl A B : Nat) (F G : Nat → Nat → Nat) (hF : ∀ k j, F k j < 18446744073709551616) (hG : ∀ k j, G k j < 18446744073709551616) (w : World)
    (h1 : At w bm #[.int .i64 (m : Int)] 3) (h2 : At w bs #[.string s] 9) (h3 : At w bl #[.slice (some ⟨A, 0, none⟩) m m, .slice (some ⟨B, 0, none⟩) m m] 47) (hA : LvAt w A m s.size F) (hB : LvAt w B m s.size G) :
    Calls Tryd.prog 44 #[.int .i64 (i : Int), .int .i64 (d : Int), .pointer (some ⟨bm, 0, none⟩), .pointer (some ⟨bs, 0, none⟩), .pointer (some ⟨bl, 0, none⟩)] w fun e w' => e = .returned (.bool true) ∧
      B1 s m i d A B F G w w' := by
  have c1 := h1.cell 0
  have c2 := h2.cell 0
  obtain ⟨c3, c4, -, -⟩ := h3.factsL
  simp only [List.getElem?_toArray, List.getElem?_cons_zero] at c1 c2
  have hxx := byteAt_num s i hi
  obtain ⟨x, hx⟩ : ∃ x, Hid (byteAt s i = x) := ⟨_, rfl⟩
  have hx256 : x < 256 := by rw [← hx.out]; unfold byteAt; exact UInt8.toNat_lt _
  rw [hx.out] at hxx
  have hii : (i : Int) < (s.size : Int) := by omega
  obtain ⟨K, hK⟩ : ∃ K, Hid (need s.size = K) := ⟨_, rfl⟩
  have hKi : Hid (i / 64 < K) := by show _ < _; rw [← hK.out]; unfold need; omega
  have hKl : Hid (K ≤ 17592186044416) := by show _ ≤ _; rw [← hK.out]; unfold need; omega
  have hA' := hid hA
  have hB' := hid hB
  clear h1 h2 h3 hA hB
  go_enter Tryd.func44, Tryd.ntmps44
  by_cases hd0 : d = 0
  · subst hd0
    go_wp2
    go_ret
    exact ⟨rfl, .inr (.inr ⟨.inl (.inl rfl), rfl⟩)⟩
  · obtain ⟨k, rfl⟩ : ∃ k, d = k + 1 := ⟨d - 1, by omega⟩
    clear hd0
    by_cases hkm : k < m
    · have hki : (k : Int) < (m : Int) := by omega
      have n1 : decide ((m : Int) < (k : Int) + 1) = false := by simp; omega
      by_cases h58 : x = 58
      · subst h58
        obtain ⟨a0, a1⟩ := hA'.out.cells hkm
        rw [hK.out] at a1
        have hsc := hid (set_calls (s.size : Int) (A + 1 + k) K i (F k) hKi.out hKl.out (hF _ _) w (by rw [← hK.out]; exact hA'.out.2 k hkm))
        go_wp2_with fail
        refine Calls.mono hsc.out ?_
        rintro e w1 ⟨rfl, ha1, hb1⟩
        have ha1' := hid ha1
        have hb1' := hid hb1
        clear ha1 hb1
        go_wp2
        go_ret
        exact ⟨rfl, .inl ⟨k, rfl, hkm, hx.out, by rw [hK.out]; exact ha1'.out, hb1'.out⟩⟩
      · have n2 : ((x : Int) == 58) = false := by simp; omega
        by_cases h44 : x = 44
        · subst h44
          obtain ⟨a0, a1⟩ := hB'.out.cells hkm
          rw [hK.out] at a1
          have hsc := hid (set_calls (s.size : Int) (B + 1 + k) K i (G k) hKi.out hKl.out (hG _ _) w (by rw [← hK.out]; exact hB'.out.2 k hkm))
          go_wp2_with fail
          refine Calls.mono hsc.out ?_
          rintro e w1 ⟨rfl, ha1, hb1⟩
          have ha1' := hid ha1
          have hb1' := hid hb1
          clear ha1 hb1
          go_wp2
          go_ret
          exact ⟨rfl, .inr (.inl ⟨k, rfl, hkm, hx.out, by rw [hK.out]; exact ha1'.out, hb1'.out⟩)⟩
        · have n3 : ((x : Int) == 44) = false := by simp; omega
          go_wp2
          go_ret
          exact ⟨rfl, .inr (.inr ⟨.inr ⟨by rw [hx.out]; exact h58, by rw [hx.out]; exact h44⟩, rfl⟩)⟩
    · have hki : (m : Int) < (k : Int) + 1 := by omega
      go_wp2
      go_ret
      exact ⟨rfl, .inr (.inr ⟨.inl (.inr (by omega)), rfl⟩)⟩
end Go.Proofs.YtomeaejjdjidlaaDoor

/-
  What levels.Build answers, whole.
-/
namespace Go.Proofs.YtomeaejjdjidlaaDoor
open Go.RowKit Go.Shelf

/-- Behind the making of the rows. -/
def BuS (w : World) (s : ByteArray) (m bl A B : Nat) (W : World) : Prop :=
  (At W w.heap.size #[.string s] 9 ∧ At W (w.heap.size + 1) #[.int .i64 (m : Int)] 3 ∧ At W (w.heap.size + 2) #[.slice none 0 0, .slice none 0 0] 47 ∧
    At W bl #[.slice (some ⟨A, 0, none⟩) m m, .slice (some ⟨B, 0, none⟩) m m] 47) ∧
  (LvAt W A m s.size (fun _ _ => 0) ∧ LvAt W B m s.size (fun _ _ => 0)) ∧
  (w.heap.size + 2 < A ∧ A + m < B ∧ w.heap.size + 2 < bl ∧ (bl < A ∨ A + m < bl) ∧ (bl < B ∨ B + m < bl)) ∧ Below w.heap.size w W
/-- Between two places. -/
def BuJ (w : World) (s : ByteArray) (m bl A B hw : Nat) (w1 : World) (x : Nat) (W : World) : Prop :=
  (At W w.heap.size #[.string s] 9 ∧ At W (w.heap.size + 1) #[.int .i64 (m : Int)] 3 ∧ At W (w.heap.size + 2) #[.slice none 0 0, .slice none 0 0] 47 ∧
    At W bl #[.slice (some ⟨A, 0, none⟩) m m, .slice (some ⟨B, 0, none⟩) m m] 47) ∧
  (LvAt W A m s.size (rwS 58 s x) ∧ LvAt W B m s.size (rwS 44 s x)) ∧
  (w.heap.size + 2 < A ∧ A + m < B ∧ w.heap.size + 2 < bl ∧ (bl < A ∨ A + m < bl) ∧ (bl < B ∨ B + m < bl) ∧ B + m < hw ∧ hw ≤ w1.heap.size ∧ w1.heap.size ≤ W.heap.size) ∧ (∀ b, hw ≤ b → b < w1.heap.size → W.heap[b]? = w1.heap[b]?) ∧ Below w.heap.size w W
/-- What Build has made. -/
def BuiltL (w : World) (s : ByteArray) (m A B : Nat) (W : World) : Prop :=
  w.heap.size ≤ A ∧ A + m < B ∧ LvAt W A m s.size (fun k => rowOf (lvS 58 s (k + 1)) s.size) ∧ LvAt W B m s.size (fun k => rowOf (lvS 44 s (k + 1)) s.size) ∧ Below w.heap.size w W
section
variable {w W w1 : World} {s : ByteArray} {m bl A B hw : Nat}
theorem BuS.start (h : BuS w s m bl A B W) (hm : 0 < m) (hb : Below W.heap.size W w1) : BuJ w s m bl A B W.heap.size w1 0 w1 := by
  obtain ⟨⟨h1, h2, h3, h4⟩, ⟨h5, h6⟩, ⟨h7, h8, h9, h10, h11⟩, h12⟩ := h
  have hBl := h6.lt.2 (m - 1) (by omega)
  have hz := hb.size
  exact ⟨⟨h1.keptAll hb, h2.keptAll hb, h3.keptAll hb, h4.keptAll hb⟩, ⟨(h5.kept hb).congr (fun j _ i => rwS_zero 58 s j i), (h6.kept hb).congr (fun j _ i => rwS_zero 44 s j i)⟩, ⟨h7, h8, h9, h10, h11, by omega, hz, Nat.le_refl _⟩, fun _ _ _ => rfl, h12.trans (hb.mono h12.size)⟩
theorem BuJ.skip {x : Nat} (h : BuJ w s m bl A B hw w1 x W) (hx : begS s x = false) : BuJ w s m bl A B hw w1 (x + 1) W := by
  obtain ⟨h1, ⟨h5, h6⟩, h2⟩ := h
  exact ⟨h1, ⟨h5.congr (fun j _ i => rwS_off (nbeg_lv 58 (j + 1) (.inl rfl) hx) i), h6.congr (fun j _ i => rwS_off (nbeg_lv 44 (j + 1) (.inr rfl) hx) i)⟩, h2⟩
theorem BuJ.cell {x : Nat} (h : BuJ w s m bl A B hw w1 x W) {p : Addr} (h1 : hw ≤ p.block) (h2 : p.block < w1.heap.size) : W.cell? p = w1.cell? p := by
  unfold World.cell?
  rw [h.2.2.2.1 _ h1 h2]
theorem lv_byte {c k i : Nat} (hc : c = 58 ∨ c = 44) (hb : begS s i = true) (h : byteAt s i ≠ c) : lvS c s k i = false := by
  rw [beg_lv c k hc hb, beq_eq_false_iff_ne.2 h, Bool.false_and]
theorem lv_deep {c k i : Nat} (hc : c = 58 ∨ c = 44) (hb : begS s i = true) (h : depS s i ≠ k) : lvS c s k i = false := by
  rw [beg_lv c k hc hb, decide_eq_false h, Bool.and_false]
theorem lv_is {c k i : Nat} (hc : c = 58 ∨ c = 44) (hb : begS s i = true) (h : byteAt s i = c) (hd : depS s i = k) : lvS c s k i = true := by
  rw [beg_lv c k hc hb, decide_eq_true hd, beq_iff_eq.2 h]; rfl
theorem BuJ.step {i : Nat} {W' : World} (h : BuJ w s m bl A B hw w1 i W) (hi : i < s.size) (hb : begS s i = true) (h1 : B1 s m i (depS s i) A B (rwS 58 s i) (rwS 44 s i) W W') : BuJ w s m bl A B hw w1 (i + 1) W' := by
  obtain ⟨⟨a1, a2, a3, a4⟩, ⟨h5, h6⟩, ⟨h7, h8, h9, h10, h11, h12, h13, h14⟩, h15, h16⟩ := h
  have hAl := h5.lt
  have hBl := h6.lt
  rcases h1 with ⟨k, hd, hk, hx, ha, hB⟩ | ⟨k, hd, hk, hx, ha, hB⟩ | ⟨hno, rfl⟩
  · refine ⟨⟨hB.at a1 (by omega), hB.at a2 (by omega), hB.at a3 (by omega), hB.at a4 (by omega)⟩, ⟨h5.put hk hB ha (fun j _ i' => ?_), (h6.other hB (by omega)).congr (fun j _ i' => rwS_off (lv_byte (.inr rfl) hb (by omega)) i')⟩, ⟨h7, h8, h9, h10, h11, h12, h13, Nat.le_trans h14 hB.1.size⟩, fun b q1 q2 => (hB.2 b (by omega) (by omega)).trans (h15 b q1 q2), hB.below h16 h16.size (by omega)⟩
    by_cases hjk : j = k
    · rw [if_pos hjk, hjk]
      exact rwS_on hi (lv_is (.inl rfl) hb hx hd) i'
    · rw [if_neg hjk]
      exact rwS_off (lv_deep (.inl rfl) hb (by omega)) i'
  · refine ⟨⟨hB.at a1 (by omega), hB.at a2 (by omega), hB.at a3 (by omega), hB.at a4 (by omega)⟩, ⟨(h5.other hB (by omega)).congr (fun j _ i' => rwS_off (lv_byte (.inl rfl) hb (by omega)) i'), h6.put hk hB ha (fun j _ i' => ?_)⟩, ⟨h7, h8, h9, h10, h11, h12, h13, Nat.le_trans h14 hB.1.size⟩, fun b q1 q2 => (hB.2 b (by omega) (by omega)).trans (h15 b q1 q2), hB.below h16 h16.size (by omega)⟩
    by_cases hjk : j = k
    · rw [if_pos hjk, hjk]
      exact rwS_on hi (lv_is (.inr rfl) hb hx hd) i'
    · rw [if_neg hjk]
      exact rwS_off (lv_deep (.inr rfl) hb (by omega)) i'
  · refine ⟨⟨a1, a2, a3, a4⟩, ⟨h5.congr (fun j hj i' => rwS_off ?_ i'), h6.congr (fun j hj i' => rwS_off ?_ i')⟩, ⟨h7, h8, h9, h10, h11, h12, h13, h14⟩, h15, h16⟩
    · rcases hno with hno | hno
      · exact lv_deep (.inl rfl) hb (by omega)
      · exact lv_byte (.inl rfl) hb hno.1
    · rcases hno with hno | hno
      · exact lv_deep (.inr rfl) hb (by omega)
      · exact lv_byte (.inr rfl) hb hno.2
end

theorem lvs_new (w : World) (s : ByteArray) (a : Int) : At (((w.alloc (.cells #[.string s] 9)).alloc (.cells #[.int .i64 a] 3)).alloc (.cells #[.slice none 0 0, .slice none 0 0] 47)) (w.heap.size + 1 + 1) #[.slice none 0 0, .slice none 0 0] 47 := by
  have h := At.new ((w.alloc (.cells #[.string s] 9)).alloc (.cells #[.int .i64 a] 3)) #[.slice none 0 0, .slice none 0 0] 47
  rw [World.size_alloc, World.size_alloc] at h
  exact h
/-- The three boxes lie ahead of all. -/
def Bx3 (w : World) (s : ByteArray) (m : Nat) (W : World) : Prop :=
  (At W w.heap.size #[.string s] 9 ∧ At W (w.heap.size + 1) #[.int .i64 (m : Int)] 3 ∧ At W (w.heap.size + 2) #[.slice none 0 0, .slice none 0 0] 47) ∧ Below w.heap.size w W
theorem Bx3.kept {w W W' : World} {s : ByteArray} {m : Nat} (h : Bx3 w s m W) (hb : Below W.heap.size W W') : Bx3 w s m W' := ⟨⟨h.1.1.keptAll hb, h.1.2.1.keptAll hb, h.1.2.2.keptAll hb⟩, h.2.trans (hb.mono h.2.size)⟩
theorem Bx3.cells {w W : World} {s : ByteArray} {m : Nat} (h : Bx3 w s m W) : W.cell? ⟨w.heap.size, 0, none⟩ = some (.string s) ∧ W.cell? ⟨w.heap.size + 1, 0, none⟩ = some (.int .i64 (m : Int)) := ⟨h.1.1.cell 0, h.1.2.1.cell 0⟩
theorem buS_mk {w W : World} {s : ByteArray} {m bl A B : Nat} {x y : Value} (h : Bx3 w s m W) (hl : At W bl #[x, y] 47) (hA : LvAt W A m s.size (fun _ _ => 0)) (hB : LvAt W B m s.size (fun _ _ => 0))
    (ho : w.heap.size + 2 < A ∧ A + m < B ∧ w.heap.size + 2 < bl ∧ (bl < A ∨ A + m < bl) ∧ (bl < B ∨ B + m < bl)) :
    BuS w s m bl A B ((W.setCell ⟨bl, 0, none⟩ (.slice (some ⟨A, 0, none⟩) m m)).setCell ⟨bl, 1, none⟩ (.slice (some ⟨B, 0, none⟩) m m)) := by
  obtain ⟨o1, o2, o3, o4, o5⟩ := ho
  have hoth : ∀ {b : Nat} {cs : Array Value} {t : TypeId}, At W b cs t → b ≠ bl → At ((W.setCell ⟨bl, 0, none⟩ (.slice (some ⟨A, 0, none⟩) m m)).setCell ⟨bl, 1, none⟩ (.slice (some ⟨B, 0, none⟩) m m)) b cs t := fun hx hne => (hx.other (p := ⟨bl, 0, none⟩) hne _).other (p := ⟨bl, 1, none⟩) hne _
  exact ⟨⟨hoth h.1.1 (by omega), hoth h.1.2.1 (by omega), hoth h.1.2.2 (by omega), hl.twoL⟩, ⟨⟨hoth hA.1 (by omega), fun k hk => hoth (hA.2 k hk) (by omega)⟩, hoth hB.1 (by omega), fun k hk => hoth (hB.2 k hk) (by omega)⟩, ⟨o1, o2, o3, o4, o5⟩, (h.2.setCell (p := ⟨bl, 0, none⟩) (by show w.heap.size ≤ bl; omega) _).setCell (p := ⟨bl, 1, none⟩) (by show w.heap.size ≤ bl; omega) _⟩

set_option maxRecDepth 10000 in
set_option maxHeartbeats 1000000 in
theorem build_no (s : ByteArray) (a : Int) (ha : a < 1 ∨ 64 < a) (w : World) :
    Calls Tryd.prog 26 #[.string s, .int .i64 a] w fun e w' => e = .returned (.tuple #[.agg #[.slice none 0 0, .slice none 0 0], .int .i64 2]) ∧ Below w.heap.size w w' := by
  go_enter Tryd.func26, Tryd.ntmps26
  rcases ha with ha | ha
  · go_wp2
    refine ret_lvs2 rfl rfl (lvs_new w s a) rfl ⟨rfl, by repeat (first | with_reducible exact Below.refl _ _ | with_reducible refine Below.setCell ?_ (by first | (simp; done) | (simp; omega)) _ | with_reducible refine below_drewN ?_ _ | with_reducible refine Below.alloc ?_ (by first | (simp; done) | (simp; omega)) _ | with_reducible refine Below.drew ?_)⟩
  · have n1 : decide (a < 1) = false := by simp; omega
    go_wp2
    refine ret_lvs2 rfl rfl (lvs_new w s a) rfl ⟨rfl, by repeat (first | with_reducible exact Below.refl _ _ | with_reducible refine Below.setCell ?_ (by first | (simp; done) | (simp; omega)) _ | with_reducible refine below_drewN ?_ _ | with_reducible refine Below.alloc ?_ (by first | (simp; done) | (simp; omega)) _ | with_reducible refine Below.drew ?_)⟩

theorem enter_build (args : Array Value) (w : World) : (callFunc 44 args).run Tryd.prog w = .ok (.enter 44 args) w := by kernel_rfl
set_option maxRecDepth 10000 in
set_option maxHeartbeats 4000000 in
theorem build_calls (s : ByteArray) (hs : s.size ≤ 1099511627776) (m : Nat) (hm0 : 0 < m) (hm : m ≤ 64) (w : World) (hT : Tab w) (hM : TabM w) (h0 : 1 < w.heap.size) :
    Calls Tryd.prog 26 #[.string s, .int .i64 (m : Int)] w fun e w' => ∃ A B, e = .returned (.tuple #[.agg #[.slice (some ⟨A, 0, none⟩) m m, .slice (some ⟨B, 0, none⟩) m m], .int .i64 0]) ∧ BuiltL w s m A B w' := by
  have hrw := hid (fun u => rows_calls m s.size hm hs u)
  have n1 : decide ((m : Int) < 1) = false := by simp; omega
  have n2 : decide ((64 : Int) < (m : Int)) = false := by simp; omega
  have hsl : Hid (s.size ≤ 1099511627776) := hs
  have hsi : (s.size : Int) ≤ 1099511627776 := by omega
  have hT' := hid hT
  have hM' := hid hM
  have h0' := hid h0
  clear hT hM h0 hs
  go_enter Tryd.func26, Tryd.ntmps26
  go_upto_region 3 with fail
  go_cut [6] from 14 to 22 (fun p wx => ∃ bl A B, p = .pointer (some ⟨bl, 0, none⟩) ∧ Hid (BuS w s m bl A B wx))
  case first =>
    have hX0 : Bx3 w s m (((w.alloc (.cells #[.string s] 9)).alloc (.cells #[.int .i64 (m : Int)] 3)).alloc (.cells #[.slice none 0 0, .slice none 0 0] 47)).drew := by
      refine ⟨⟨((At.new w _ _).alloc _).alloc _, ?_, lvs_new w s m⟩, ?_⟩
      · have h := At.new (w.alloc (.cells #[.string s] 9)) #[.int .i64 (m : Int)] 3
        rw [World.size_alloc] at h
        exact h.alloc _
      · repeat (first | with_reducible exact Below.refl _ _ | with_reducible refine Below.setCell ?_ (by first | (simp; done) | (simp; omega)) _ | with_reducible refine below_drewN ?_ _ | with_reducible refine Below.alloc ?_ (by first | (simp; done) | (simp; omega)) _ | with_reducible refine Below.drew ?_)
    refine wp_region_held_drew (S := fun w' => w'.cell? ⟨w.heap.size, 0, none⟩ = some (.string s) ∧ w'.cell? ⟨w.heap.size + 1, 0, none⟩ = some (.int .i64 (m : Int))) (by kernel_rfl) hX0.cells (fun hHeld => ?_)
    clear hHeld
    obtain ⟨v0, hv0⟩ : ∃ v, World.drew (((w.alloc (.cells #[.string s] 9)).alloc (.cells #[.int .i64 (m : Int)] 3)).alloc (.cells #[.slice none 0 0, .slice none 0 0] 47)) = v := ⟨_, rfl⟩
    rw [hv0] at hX0 ⊢
    have hx0 := hid hX0
    have hheld := hX0.cells
    clear hv0 hX0
    (refine' wpAnyH_take (i := 0) rfl (by kernel_rfl) (by kernel_rfl) (by kernel_rfl) (fun _ _ _ h => h) (Or.inl ⟨by rfl, ?_⟩) (by assumption) ?_; rotate_left; (· (intro wq hq; (try dsimp only at hq); go_simp; first | done | with_reducible rfl)); simp only [Act.put, List.getElem_toArray, List.getElem_cons_zero, List.setIfInBounds_toArray, List.set_cons_zero, List.set_cons_succ])
    (refine' wpAnyH_take (i := 1) rfl (by kernel_rfl) (by kernel_rfl) (by kernel_rfl) (fun _ _ _ h => h) (Or.inl ⟨by rfl, ?_⟩) (by assumption) ?_; rotate_left; (· (intro wq hq; (try dsimp only at hq); go_simp; first | done | with_reducible rfl)); simp only [Act.put, List.getElem_toArray, List.getElem_cons_zero, List.getElem_cons_succ, List.setIfInBounds_toArray, List.set_cons_zero, List.set_cons_succ])
    (refine' wpAnyH_take (i := 2) rfl (by kernel_rfl) (by kernel_rfl) (by kernel_rfl) (fun _ _ _ h => h) (Or.inl ⟨by rfl, ?_⟩) (by assumption) ?_; rotate_left; (· (intro wq hq; (try dsimp only at hq); go_simp; first | done | with_reducible rfl)); simp only [Act.put, List.getElem_toArray, List.getElem_cons_zero, List.getElem_cons_succ, List.setIfInBounds_toArray, List.set_cons_zero, List.set_cons_succ])
    (refine' wpAnyH_take (i := 4) rfl (by kernel_rfl) (by kernel_rfl) (by kernel_rfl) (fun _ _ _ h => h) (Or.inl ⟨by rfl, ?_⟩) (by assumption) ?_; rotate_left; (· (intro wq hq; (try dsimp only at hq); go_simp; first | done | with_reducible rfl)); simp only [Act.put, List.getElem_toArray, List.getElem_cons_zero, List.getElem_cons_succ, List.setIfInBounds_toArray, List.set_cons_zero, List.set_cons_succ])
    (refine' wpAnyH_take (i := 5) rfl (by kernel_rfl) (by kernel_rfl) (by kernel_rfl) (fun _ _ _ h => h) (Or.inl ⟨by rfl, ?_⟩) (by assumption) ?_; rotate_left; (· (intro wq hq; (try dsimp only at hq); go_simp; first | done | with_reducible rfl)); simp only [Act.put, List.getElem_toArray, List.getElem_cons_zero, List.getElem_cons_succ, List.setIfInBounds_toArray, List.set_cons_zero, List.set_cons_succ])
    (refine' wpAnyH_take (i := 6) rfl (by kernel_rfl) (by kernel_rfl) (by kernel_rfl) (fun _ _ _ h => h) (Or.inl ⟨by rfl, ?_⟩) (by assumption) ?_; rotate_left; (· (intro wq hq; (try dsimp only at hq); go_simp; first | done | with_reducible rfl)); simp only [Act.put, List.getElem_toArray, List.getElem_cons_zero, List.getElem_cons_succ, List.setIfInBounds_toArray, List.set_cons_zero, List.set_cons_succ])
    refine wpAnyH_ready (rs := [3, 9]) (by kernel_rfl) (by simp) ?_
    refine AllReadyH.cons rfl (fun K hK => ?_) ?_
    · rw [if_pos (by rfl)]
      go_simp
      refine (hrw.out _).mono ?_
      rintro e v1 ⟨rfl, lA, yA, q1⟩
      have hA := hid lA
      have zA := hid yA
      clear lA yA
      have hx1 := hid (hx0.out.kept q1)
      refine hK.out _ _ hx1.out.cells (fun _ => ?_)
      clear hK K
      refine wpAnyH_ready (rs := [7, 9]) (by kernel_rfl) (by simp) ?_
      refine AllReadyH.cons rfl (fun K hK => ?_) ?_
      · rw [if_pos (by rfl)]
        go_simp
        refine (hrw.out _).mono ?_
        rintro e v2 ⟨rfl, lB, yB, q2⟩
        have hB := hid lB
        have zB := hid yB
        clear lB yB
        replace hA := hid (hA.out.kept q2)
        have hx2 := hid (hx1.out.kept q2)
        refine hK.out _ _ hx2.out.cells (fun _ => ?_)
        clear hK K
        (refine' wpAnyH_take (i := 8) rfl (by kernel_rfl) (by kernel_rfl) (by kernel_rfl) (fun _ _ _ h => h) (Or.inl ⟨by rfl, ?_⟩) (by assumption) ?_; rotate_left; (· (intro wq hq; (try dsimp only at hq); go_simp; first | done | with_reducible rfl)); simp only [Act.put, List.getElem_toArray, List.getElem_cons_zero, List.getElem_cons_succ, List.setIfInBounds_toArray, List.set_cons_zero, List.set_cons_succ])
        refine wpAnyH_ready (rs := [9]) (by kernel_rfl) (by simp) ?_
        refine AllReadyH.cons rfl (fun K hK => ?_) ?_
        · go_simp
          obtain ⟨v3, e3⟩ : ∃ v, World.alloc v2 (.cells #[.slice none 0 0, .slice none 0 0] 47) = v := ⟨_, rfl⟩
          have q3 : Below v2.heap.size v2 v3 := by rw [← e3]; exact (Below.refl _ _).alloc (Nat.le_refl _) _
          have hp := hid (show At v3 v2.heap.size #[.slice none 0 0, .slice none 0 0] 47 by rw [← e3]; exact At.new v2 _ _)
          have zp : Hid (v3.heap.size = v2.heap.size + 1) := by show _ = _; rw [← e3, World.size_alloc]
          rw [e3]
          replace hA := hid (hA.out.kept q3)
          replace hB := hid (hB.out.kept q3)
          clear e3
          have hx3 := hid (hx2.out.kept q3)
          refine hK.out _ _ hx3.out.cells (fun _ => ?_)
          clear hK K
          have hord := hid (show w.heap.size + 2 < v0.heap.size ∧ v0.heap.size + m < v1.heap.size ∧ w.heap.size + 2 < v2.heap.size ∧ (v2.heap.size < v0.heap.size ∨ v0.heap.size + m < v2.heap.size) ∧ (v2.heap.size < v1.heap.size ∨ v1.heap.size + m < v2.heap.size) from by have := hx0.out.1.2.2.lt; have := zA.out; have := zB.out; have := zp.out; omega)
          clear zA zB zp
          obtain ⟨q0, q1, r0, r1⟩ := hp.out.factsL
          have hfin := hid (buS_mk hx3.out hp.out hA.out hB.out hord.out)
          refine wpAnyH_ready (rs := [10]) (by kernel_rfl) (by simp) ?_
          refine AllReadyH.cons rfl (fun K hK => ?_) ?_
          · go_simp
            refine hK.out _ _ ⟨hfin.out.1.1.cell 0, hfin.out.1.2.1.cell 0⟩ (fun _ => ?_)
            clear hK K
            refine wpAnyH_done (by kernel_rfl) ?_ _
            go_wp2
            go_meet
            case rel => exact ⟨_, _, _, rfl, hfin⟩
          · exact AllReadyH.nil
        exact AllReadyH.nil
      refine AllReadyH.cons rfl (fun K hK => ?_) ?_
      · go_simp
        obtain ⟨v2, e2⟩ : ∃ v, World.alloc v1 (.cells #[.slice none 0 0, .slice none 0 0] 47) = v := ⟨_, rfl⟩
        have q2 : Below v1.heap.size v1 v2 := by rw [← e2]; exact (Below.refl _ _).alloc (Nat.le_refl _) _
        have hp := hid (show At v2 v1.heap.size #[.slice none 0 0, .slice none 0 0] 47 by rw [← e2]; exact At.new v1 _ _)
        have zp : Hid (v2.heap.size = v1.heap.size + 1) := by show _ = _; rw [← e2, World.size_alloc]
        rw [e2]
        replace hA := hid (hA.out.kept q2)
        clear e2
        have hx2 := hid (hx1.out.kept q2)
        refine hK.out _ _ hx2.out.cells (fun _ => ?_)
        clear hK K
        refine wpAnyH_ready (rs := [7]) (by kernel_rfl) (by simp) ?_
        refine AllReadyH.cons rfl (fun K hK => ?_) ?_
        · rw [if_pos (by rfl)]
          go_simp
          refine (hrw.out _).mono ?_
          rintro e v3 ⟨rfl, lB, yB, q3⟩
          have hB := hid lB
          have zB := hid yB
          clear lB yB
          replace hp := hid (hp.out.keptAll q3)
          replace hA := hid (hA.out.kept q3)
          have hx3 := hid (hx2.out.kept q3)
          refine hK.out _ _ hx3.out.cells (fun _ => ?_)
          clear hK K
          have hord := hid (show w.heap.size + 2 < v0.heap.size ∧ v0.heap.size + m < v2.heap.size ∧ w.heap.size + 2 < v1.heap.size ∧ (v1.heap.size < v0.heap.size ∨ v0.heap.size + m < v1.heap.size) ∧ (v1.heap.size < v2.heap.size ∨ v2.heap.size + m < v1.heap.size) from by have := hx0.out.1.2.2.lt; have := zA.out; have := zB.out; have := zp.out; omega)
          clear zA zB zp
          (refine' wpAnyH_take (i := 8) rfl (by kernel_rfl) (by kernel_rfl) (by kernel_rfl) (fun _ _ _ h => h) (Or.inl ⟨by rfl, ?_⟩) (by assumption) ?_; rotate_left; (· (intro wq hq; (try dsimp only at hq); go_simp; first | done | with_reducible rfl)); simp only [Act.put, List.getElem_toArray, List.getElem_cons_zero, List.getElem_cons_succ, List.setIfInBounds_toArray, List.set_cons_zero, List.set_cons_succ])
          obtain ⟨q0, q1, r0, r1⟩ := hp.out.factsL
          have hfin := hid (buS_mk hx3.out hp.out hA.out hB.out hord.out)
          refine wpAnyH_ready (rs := [10]) (by kernel_rfl) (by simp) ?_
          refine AllReadyH.cons rfl (fun K hK => ?_) ?_
          · go_simp
            refine hK.out _ _ ⟨hfin.out.1.1.cell 0, hfin.out.1.2.1.cell 0⟩ (fun _ => ?_)
            clear hK K
            refine wpAnyH_done (by kernel_rfl) ?_ _
            go_wp2
            go_meet
            case rel => exact ⟨_, _, _, rfl, hfin⟩
          · exact AllReadyH.nil
        exact AllReadyH.nil
      exact AllReadyH.nil
    refine AllReadyH.cons rfl (fun K hK => ?_) ?_
    · go_simp
      obtain ⟨v1, e1⟩ : ∃ v, World.alloc v0 (.cells #[.slice none 0 0, .slice none 0 0] 47) = v := ⟨_, rfl⟩
      have q1 : Below v0.heap.size v0 v1 := by rw [← e1]; exact (Below.refl _ _).alloc (Nat.le_refl _) _
      have hp := hid (show At v1 v0.heap.size #[.slice none 0 0, .slice none 0 0] 47 by rw [← e1]; exact At.new v0 _ _)
      have zp : Hid (v1.heap.size = v0.heap.size + 1) := by show _ = _; rw [← e1, World.size_alloc]
      rw [e1]
      clear e1
      have hx1 := hid (hx0.out.kept q1)
      refine hK.out _ _ hx1.out.cells (fun _ => ?_)
      clear hK K
      refine wpAnyH_ready (rs := [3]) (by kernel_rfl) (by simp) ?_
      refine AllReadyH.cons rfl (fun K hK => ?_) ?_
      · rw [if_pos (by rfl)]
        go_simp
        refine (hrw.out _).mono ?_
        rintro e v2 ⟨rfl, lA, yA, q2⟩
        have hA := hid lA
        have zA := hid yA
        clear lA yA
        replace hp := hid (hp.out.keptAll q2)
        have hx2 := hid (hx1.out.kept q2)
        refine hK.out _ _ hx2.out.cells (fun _ => ?_)
        clear hK K
        refine wpAnyH_ready (rs := [7]) (by kernel_rfl) (by simp) ?_
        refine AllReadyH.cons rfl (fun K hK => ?_) ?_
        · rw [if_pos (by rfl)]
          go_simp
          refine (hrw.out _).mono ?_
          rintro e v3 ⟨rfl, lB, yB, q3⟩
          have hB := hid lB
          have zB := hid yB
          clear lB yB
          replace hp := hid (hp.out.keptAll q3)
          replace hA := hid (hA.out.kept q3)
          have hx3 := hid (hx2.out.kept q3)
          refine hK.out _ _ hx3.out.cells (fun _ => ?_)
          clear hK K
          have hord := hid (show w.heap.size + 2 < v1.heap.size ∧ v1.heap.size + m < v2.heap.size ∧ w.heap.size + 2 < v0.heap.size ∧ (v0.heap.size < v1.heap.size ∨ v1.heap.size + m < v0.heap.size) ∧ (v0.heap.size < v2.heap.size ∨ v2.heap.size + m < v0.heap.size) from by have := hx0.out.1.2.2.lt; have := zA.out; have := zB.out; have := zp.out; omega)
          clear zA zB zp
          (refine' wpAnyH_take (i := 8) rfl (by kernel_rfl) (by kernel_rfl) (by kernel_rfl) (fun _ _ _ h => h) (Or.inl ⟨by rfl, ?_⟩) (by assumption) ?_; rotate_left; (· (intro wq hq; (try dsimp only at hq); go_simp; first | done | with_reducible rfl)); simp only [Act.put, List.getElem_toArray, List.getElem_cons_zero, List.getElem_cons_succ, List.setIfInBounds_toArray, List.set_cons_zero, List.set_cons_succ])
          obtain ⟨q0, q1, r0, r1⟩ := hp.out.factsL
          have hfin := hid (buS_mk hx3.out hp.out hA.out hB.out hord.out)
          refine wpAnyH_ready (rs := [10]) (by kernel_rfl) (by simp) ?_
          refine AllReadyH.cons rfl (fun K hK => ?_) ?_
          · go_simp
            refine hK.out _ _ ⟨hfin.out.1.1.cell 0, hfin.out.1.2.1.cell 0⟩ (fun _ => ?_)
            clear hK K
            refine wpAnyH_done (by kernel_rfl) ?_ _
            go_wp2
            go_meet
            case rel => exact ⟨_, _, _, rfl, hfin⟩
          · exact AllReadyH.nil
        exact AllReadyH.nil
      exact AllReadyH.nil
    exact AllReadyH.nil
  case rest =>
    obtain ⟨bl, A, B, rfl, hS⟩ := hcut
    clear hrw
    have hmf : ∀ (fn : Fn) (first cap : Array Value) (w : World), (Instr.makeFunc fn first cap).run Tryd.prog w = .ok (.func fn first cap) w := fun _ _ _ _ => rfl
    have c0 := hS.out.1.1.cell 0
    simp only [List.getElem?_toArray, List.getElem?_cons_zero] at c0
    go_wp2_with fail
    have hb0 := hS.out.2.2.2
    have hdl := hid (depS_le s)
    refine Calls.mono (walk_calls s hsl.out 44 _ (BuJ w s m bl A B wc.heap.size) (fun _ _ _ => False) wc (hT'.out.below hb0 (by have := h0'.out; omega)) (hM'.out.below hb0 h0'.out) (by have := h0'.out; have := hb0.size; omega) enter_build (fun w1 hb => hS.out.start hm0 hb) (fun w1 i wx hi hj => hj.skip hi) (fun w1 i wx p hj h1 h2 => hj.cell h1 h2)
      (fun w1 i wx d hb hi hbg hd hj => by
        subst hd
        refine Calls.mono (build1_calls s hsl.out m i (depS s i) hi (by have := hdl.out i; have := hsl.out; omega) _ _ _ A B (rwS 58 s i) (rwS 44 s i) (fun k j => rwS_lt _ _ _ _ _) (fun k j => rwS_lt _ _ _ _ _) wx hj.1.2.1 hj.1.1 hj.1.2.2.2 hj.2.1.1 hj.2.1.2) ?_
        rintro e w2 ⟨rfl, h1⟩
        exact .inl ⟨rfl, hj.step hi hbg h1⟩)) ?_
    rintro e w2 ⟨w1, hb1, ⟨rfl, hJ⟩ | ⟨i, -, -, hf⟩⟩
    · obtain ⟨q0, q1, r0, r1⟩ := hJ.1.2.2.2.factsL
      obtain ⟨s0, s1, f0, f1⟩ := hJ.1.2.2.1.factsL
      have hJ' := hid hJ
      clear hJ hb1 hS hb0
      go_wp2
      obtain ⟨⟨a1, a2, a3, a4⟩, ⟨h5, h6⟩, ⟨h7, h8, h9, h10, h11, h12, h13, h14⟩, h15, h16⟩ := hJ'.out
      refine ret_lvs2 rfl rfl a3.twoL rfl ⟨A, B, rfl, by omega, h8, ?_, ?_, ?_⟩
      · refine LvAt.congr ⟨?_, fun k hk => ?_⟩ (fun k _ i => (rwS_full 58 s k i).symm)
        · exact (h5.1.other (p := ⟨w.heap.size + 2, 0, none⟩) (by show A ≠ w.heap.size + 2; omega) _).other (p := ⟨w.heap.size + 2, 1, none⟩) (by show A ≠ w.heap.size + 2; omega) _
        · exact ((h5.2 k hk).other (p := ⟨w.heap.size + 2, 0, none⟩) (by show A + 1 + k ≠ w.heap.size + 2; omega) _).other (p := ⟨w.heap.size + 2, 1, none⟩) (by show A + 1 + k ≠ w.heap.size + 2; omega) _
      · refine LvAt.congr ⟨?_, fun k hk => ?_⟩ (fun k _ i => (rwS_full 44 s k i).symm)
        · exact (h6.1.other (p := ⟨w.heap.size + 2, 0, none⟩) (by show B ≠ w.heap.size + 2; omega) _).other (p := ⟨w.heap.size + 2, 1, none⟩) (by show B ≠ w.heap.size + 2; omega) _
        · exact ((h6.2 k hk).other (p := ⟨w.heap.size + 2, 0, none⟩) (by show B + 1 + k ≠ w.heap.size + 2; omega) _).other (p := ⟨w.heap.size + 2, 1, none⟩) (by show B + 1 + k ≠ w.heap.size + 2; omega) _
      · exact (h16.setCell (p := ⟨w.heap.size + 2, 0, none⟩) (by show w.heap.size ≤ w.heap.size + 2; omega) _).setCell (p := ⟨w.heap.size + 2, 1, none⟩) (by show w.heap.size ≤ w.heap.size + 2; omega) _
    · exact hf.elim
end Go.Proofs.YtomeaejjdjidlaaDoor
