/-
  The walk of quarrylaw07.QuotesBehind.
-/
import Derived.Test.YtmjmcdoanolelaaDoorQuoAwake
import Derived.Test.YtmjmcdoanolelaaDoorRowVar
import Derived.SizedLaws
namespace Go.Proofs.YtmjmcdoanolelaaDoor
open Go.RowKit Go.Shelf

theorem size_join7 (s t : ByteArray) : (s ++ t).size = s.size + t.size := ByteArray.size_append
theorem slash_join7 (s t : ByteArray) (i : Nat) : slash (s ++ t) i = if i < s.size then slash s i else slash t (i - s.size) := by
  unfold slash
  rw [ByteArray.data_append, Array.getElem?_append]
  show decide (((if i < s.size then s.data[i]? else t.data[i - s.size]?).getD 0).toNat = 92) = _
  split <;> rfl
theorem quo_join (s t : ByteArray) (i : Nat) : quoB (s ++ t) i = if i < s.size then quoB s i else quoB t (i - s.size) := by
  unfold quoB
  rw [ByteArray.data_append, Array.getElem?_append]
  show decide (((if i < s.size then s.data[i]? else t.data[i - s.size]?).getD 0).toNat = 34) = _
  split <;> rfl
theorem esc_first7 (s t : ByteArray) (c : Bool) (i : Nat) (hi : i ≤ s.size) : escG (slash (s ++ t)) c i = escG (slash s) c i :=
  escG_congr c fun j hj => by rw [slash_join7, if_pos (by omega)]
theorem esc_second7 (s t : ByteArray) (c : Bool) (i : Nat) : escG (slash (s ++ t)) c (s.size + i) = escG (slash t) (behindS s c) i := by
  rw [escG_add, esc_first7 s t c s.size (Nat.le_refl _)]
  exact escG_congr _ fun j _ => by rw [slash_join7, if_neg (by omega), Nat.add_sub_cancel_left]
theorem mark_first (s t : ByteArray) (i : Nat) (hi : i < s.size) : markS (s ++ t) i = markS s i := by
  unfold markS escS
  rw [quo_join, if_pos hi, esc_first7 s t false i (by omega)]
theorem odd_first (s t : ByteArray) (i : Nat) (hi : i ≤ s.size) : oddG (markS (s ++ t)) i = oddG (markS s) i := oddG_congr fun j hj => mark_first s t j (by omega)
theorem in_first (s t : ByteArray) (i : Nat) (hi : i < s.size) : inS (s ++ t) i = inS s i := odd_first s t (i + 1) hi
theorem mark_second (s t : ByteArray) (hb : behindS s false = false) (i : Nat) : markS (s ++ t) (s.size + i) = markS t i := by
  unfold markS escS
  rw [quo_join, if_neg (by omega), Nat.add_sub_cancel_left, esc_second7, hb]
theorem mark_escaped (s t : ByteArray) (hb : behindS s false = true) : markS (s ++ t) s.size = false := by
  unfold markS escS
  have := esc_second7 s t false 0
  rw [Nat.add_zero] at this
  rw [this, hb]
  simp [escG]
theorem odd_second (s t : ByteArray) (hb : behindS s false = false) (i : Nat) : oddG (markS (s ++ t)) (s.size + i) = (oddG (markS t) i != openS s) := by
  rw [oddG_add, odd_first s t s.size (Nat.le_refl _), oddG_congr (H := markS t) (fun j _ => mark_second s t hb j)]
  show (openS s ^^ oddG (markS t) i) = _
  cases openS s <;> cases oddG (markS t) i <;> rfl
theorem in_second (s t : ByteArray) (hb : behindS s false = false) (i : Nat) : inS (s ++ t) (s.size + i) = (inS t i != openS s) := odd_second s t hb (i + 1)
theorem open_join (s t : ByteArray) (hb : behindS s false = false) : openS (s ++ t) = (openS s != openS t) := by
  unfold openS
  rw [size_join7, odd_second s t hb]
  show (oddG (markS t) t.size != openS s) = _
  cases oddG (markS t) t.size <;> cases h : oddG (markS s) s.size <;> simp [openS, h]

/-- The six rows. -/
def BeC (w : World) (s t u : ByteArray) (b5 b6 b7 b8 b9 b10 g5 g6 g7 g8 g9 g10 : Nat) (W : World) : Prop := RV W b5 g5 s.size (markS s) ∧ RV W b6 g6 t.size (markS t) ∧ RV W b7 g7 u.size (markS u) ∧ RV W b8 g8 s.size (inS s) ∧ RV W b9 g9 t.size (inS t) ∧ RV W b10 g10 u.size (inS u) ∧ Below w.heap.size w W
section
variable {w W Z : World} {s t u : ByteArray} {b5 b6 b7 b8 b9 b10 g5 g6 g7 g8 g9 g10 : Nat}
theorem BeC.kept (h : BeC w s t u b5 b6 b7 b8 b9 b10 g5 g6 g7 g8 g9 g10 W) (hb : Below W.heap.size W Z) : BeC w s t u b5 b6 b7 b8 b9 b10 g5 g6 g7 g8 g9 g10 Z :=
  ⟨h.1.kept hb, h.2.1.kept hb, h.2.2.1.kept hb, h.2.2.2.1.kept hb, h.2.2.2.2.1.kept hb, h.2.2.2.2.2.1.kept hb, h.2.2.2.2.2.2.trans (hb.mono h.2.2.2.2.2.2.size)⟩
theorem BeC.drew (h : BeC w s t u b5 b6 b7 b8 b9 b10 g5 g6 g7 g8 g9 g10 W) : BeC w s t u b5 b6 b7 b8 b9 b10 g5 g6 g7 g8 g9 g10 W.drew := h.kept (Below.refl _ _).drew
theorem BeC.r0 (h : BeC w s t u b5 b6 b7 b8 b9 b10 g5 g6 g7 g8 g9 g10 W) : RV W b5 g5 s.size (markS s) := h.1
theorem BeC.r1 (h : BeC w s t u b5 b6 b7 b8 b9 b10 g5 g6 g7 g8 g9 g10 W) : RV W b6 g6 t.size (markS t) := h.2.1
theorem BeC.r2 (h : BeC w s t u b5 b6 b7 b8 b9 b10 g5 g6 g7 g8 g9 g10 W) : RV W b7 g7 u.size (markS u) := h.2.2.1
theorem BeC.r3 (h : BeC w s t u b5 b6 b7 b8 b9 b10 g5 g6 g7 g8 g9 g10 W) : RV W b8 g8 s.size (inS s) := h.2.2.2.1
theorem BeC.r4 (h : BeC w s t u b5 b6 b7 b8 b9 b10 g5 g6 g7 g8 g9 g10 W) : RV W b9 g9 t.size (inS t) := h.2.2.2.2.1
theorem BeC.r5 (h : BeC w s t u b5 b6 b7 b8 b9 b10 g5 g6 g7 g8 g9 g10 W) : RV W b10 g10 u.size (inS u) := h.2.2.2.2.2.1
theorem BeC.b (h : BeC w s t u b5 b6 b7 b8 b9 b10 g5 g6 g7 g8 g9 g10 W) : Below w.heap.size w W := h.2.2.2.2.2.2
end

set_option maxRecDepth 10000 in
set_option maxHeartbeats 8000000 in
theorem quotesBehind_walk (s : ByteArray) (hs : s.size ≤ reachBytes) (t : ByteArray) (ht : t.size ≤ reachBytes) (w : World) (hT : Tab w) (h0 : 0 < w.heap.size) :
    Calls Tryd.prog 7 #[.string s, .string t] w fun e w' => e = .returned (.bool true) ∧ Below w.heap.size w w' := by
  have hs1 : s.size ≤ 140737488351232 := hs
  have ht1 : t.size ≤ 140737488351232 := ht
  have hsi : (s.size : Int) ≤ 140737488351232 := by omega
  have hti : (t.size : Int) ≤ 140737488351232 := by omega
  have hT' := hid hT
  have h0' := hid h0
  clear hs ht hT h0
  obtain ⟨u, hu⟩ : ∃ u, Hid (s ++ t = u) := ⟨_, rfl⟩
  have huz : Hid (u.size = s.size + t.size) := by show _ = _; rw [← hu.out]; exact size_join7 s t
  have hul : u.size ≤ 281474976702464 := by rw [huz.out]; omega
  have hcat : s ++ t = u := hu.out
  go_enter Tryd.func7, Tryd.ntmps7
  go_wp2_with fail
  refine Calls.mono (awake7_calls w hT'.out h0'.out) ?_
  rintro e w1 ⟨rfl, hb1⟩
  have hB1 := hid hb1
  clear hb1
  go_wp2_with fail
  refine Calls.mono (marksQ_calls s (by omega) w1 (hT'.out.below hB1.out h0'.out) (Nat.lt_of_lt_of_le h0'.out hB1.out.size)) ?_
  rintro e w2 ⟨g5, -, rfl, hA5, hb2⟩
  have hB2 := hid (hB1.out.trans (hb2.mono hB1.out.size))
  clear hb2 hB1
  go_wp2_with fail
  refine Calls.mono (marksQ_calls t (by omega) w2 (hT'.out.below hB2.out h0'.out) (Nat.lt_of_lt_of_le h0'.out hB2.out.size)) ?_
  rintro e w3 ⟨g6, -, rfl, hA6, hb3⟩
  replace hA5 := hA5.keptAll hb3
  have hB3 := hid (hB2.out.trans (hb3.mono hB2.out.size))
  clear hb3 hB2
  go_wp2_with fail
  refine Calls.mono (marksQ_calls u (by omega) w3 (hT'.out.below hB3.out h0'.out) (Nat.lt_of_lt_of_le h0'.out hB3.out.size)) ?_
  rintro e w4 ⟨g7, -, rfl, hA7, hb4⟩
  replace hA5 := hA5.keptAll hb4
  replace hA6 := hA6.keptAll hb4
  have hB4 := hid (hB3.out.trans (hb4.mono hB3.out.size))
  clear hb4 hB3
  have r5 := ((RV.of w4 g5 s.size (markS s) hA5).alloc (.cells #[.int .i64 (t.size : Int), .slice (some ⟨g6, 0, none⟩) (need t.size) (need t.size)] 25)).alloc (.cells #[.int .i64 (u.size : Int), .slice (some ⟨g7, 0, none⟩) (need u.size) (need u.size)] 25)
  have r6 := (RV.of (w4.alloc (.cells #[.int .i64 (s.size : Int), .slice (some ⟨g5, 0, none⟩) (need s.size) (need s.size)] 25)) g6 t.size (markS t) (hA6.alloc _)).alloc (.cells #[.int .i64 (u.size : Int), .slice (some ⟨g7, 0, none⟩) (need u.size) (need u.size)] 25)
  have r7 := RV.of ((w4.alloc (.cells #[.int .i64 (s.size : Int), .slice (some ⟨g5, 0, none⟩) (need s.size) (need s.size)] 25)).alloc (.cells #[.int .i64 (t.size : Int), .slice (some ⟨g6, 0, none⟩) (need t.size) (need t.size)] 25)) g7 u.size (markS u) ((hA7.alloc _).alloc _)
  have hB5 := hid (((hB4.out.alloc hB4.out.size (.cells #[.int .i64 (s.size : Int), .slice (some ⟨g5, 0, none⟩) (need s.size) (need s.size)] 25)).alloc (by simp; have := hB4.out.size; omega) (.cells #[.int .i64 (t.size : Int), .slice (some ⟨g6, 0, none⟩) (need t.size) (need t.size)] 25)).alloc (by simp; have := hB4.out.size; omega) (.cells #[.int .i64 (u.size : Int), .slice (some ⟨g7, 0, none⟩) (need u.size) (need u.size)] 25))
  simp only [World.size_alloc] at r6 r7
  clear hA5 hA6 hA7 hB4
  go_wp2_with fail
  obtain ⟨X5, hX5⟩ : ∃ X5, (((w4.alloc (.cells #[.int .i64 (s.size : Int), .slice (some ⟨g5, 0, none⟩) (need s.size) (need s.size)] 25)).alloc (.cells #[.int .i64 (t.size : Int), .slice (some ⟨g6, 0, none⟩) (need t.size) (need t.size)] 25)).alloc (.cells #[.int .i64 (u.size : Int), .slice (some ⟨g7, 0, none⟩) (need u.size) (need u.size)] 25)) = X5 := ⟨_, rfl⟩
  rw [hX5] at r5 r6 r7 hB5 ⊢
  obtain ⟨b5, hb5⟩ : ∃ b5, w4.heap.size = b5 := ⟨_, rfl⟩
  obtain ⟨b6, hb6⟩ : ∃ b6, w4.heap.size + 1 = b6 := ⟨_, rfl⟩
  obtain ⟨b7, hb7⟩ : ∃ b7, w4.heap.size + 1 + 1 = b7 := ⟨_, rfl⟩
  rw [hb7, hb6, hb5]
  rw [hb7] at r7
  rw [hb6] at r6
  rw [hb5] at r5
  clear hX5 hb5 hb6 hb7
  refine Calls.mono (insideQ_calls s (by omega) X5 (hT'.out.below hB5.out h0'.out) (Nat.lt_of_lt_of_le h0'.out hB5.out.size)) ?_
  rintro e w6 ⟨g8, -, rfl, hA8, hb6⟩
  replace r5 := r5.kept hb6
  replace r6 := r6.kept hb6
  replace r7 := r7.kept hb6
  have hB6 := hid (hB5.out.trans (hb6.mono hB5.out.size))
  clear hb6 hB5
  go_wp2_with fail
  refine Calls.mono (insideQ_calls t (by omega) w6 (hT'.out.below hB6.out h0'.out) (Nat.lt_of_lt_of_le h0'.out hB6.out.size)) ?_
  rintro e w7 ⟨g9, -, rfl, hA9, hb7⟩
  replace r5 := r5.kept hb7
  replace r6 := r6.kept hb7
  replace r7 := r7.kept hb7
  replace hA8 := hA8.keptAll hb7
  have hB7 := hid (hB6.out.trans (hb7.mono hB6.out.size))
  clear hb7 hB6
  go_wp2_with fail
  refine Calls.mono (insideQ_calls u (by omega) w7 (hT'.out.below hB7.out h0'.out) (Nat.lt_of_lt_of_le h0'.out hB7.out.size)) ?_
  rintro e w8 ⟨g10, -, rfl, hA10, hb8⟩
  replace r5 := r5.kept hb8
  replace r6 := r6.kept hb8
  replace r7 := r7.kept hb8
  replace hA8 := hA8.keptAll hb8
  replace hA9 := hA9.keptAll hb8
  have hB8 := hid (hB7.out.trans (hb8.mono hB7.out.size))
  clear hb8 hB7
  have r8 := ((RV.of w8 g8 s.size (inS s) hA8).alloc (.cells #[.int .i64 (t.size : Int), .slice (some ⟨g9, 0, none⟩) (need t.size) (need t.size)] 25)).alloc (.cells #[.int .i64 (u.size : Int), .slice (some ⟨g10, 0, none⟩) (need u.size) (need u.size)] 25)
  have r9 := (RV.of (w8.alloc (.cells #[.int .i64 (s.size : Int), .slice (some ⟨g8, 0, none⟩) (need s.size) (need s.size)] 25)) g9 t.size (inS t) (hA9.alloc _)).alloc (.cells #[.int .i64 (u.size : Int), .slice (some ⟨g10, 0, none⟩) (need u.size) (need u.size)] 25)
  have r10 := RV.of ((w8.alloc (.cells #[.int .i64 (s.size : Int), .slice (some ⟨g8, 0, none⟩) (need s.size) (need s.size)] 25)).alloc (.cells #[.int .i64 (t.size : Int), .slice (some ⟨g9, 0, none⟩) (need t.size) (need t.size)] 25)) g10 u.size (inS u) ((hA10.alloc _).alloc _)
  have hB9 := ((hB8.out.alloc hB8.out.size (.cells #[.int .i64 (s.size : Int), .slice (some ⟨g8, 0, none⟩) (need s.size) (need s.size)] 25)).alloc (by simp; have := hB8.out.size; omega) (.cells #[.int .i64 (t.size : Int), .slice (some ⟨g9, 0, none⟩) (need t.size) (need t.size)] 25)).alloc (by simp; have := hB8.out.size; omega) (.cells #[.int .i64 (u.size : Int), .slice (some ⟨g10, 0, none⟩) (need u.size) (need u.size)] 25)
  replace r5 := ((r5.alloc (.cells #[.int .i64 (s.size : Int), .slice (some ⟨g8, 0, none⟩) (need s.size) (need s.size)] 25)).alloc (.cells #[.int .i64 (t.size : Int), .slice (some ⟨g9, 0, none⟩) (need t.size) (need t.size)] 25)).alloc (.cells #[.int .i64 (u.size : Int), .slice (some ⟨g10, 0, none⟩) (need u.size) (need u.size)] 25)
  replace r6 := ((r6.alloc (.cells #[.int .i64 (s.size : Int), .slice (some ⟨g8, 0, none⟩) (need s.size) (need s.size)] 25)).alloc (.cells #[.int .i64 (t.size : Int), .slice (some ⟨g9, 0, none⟩) (need t.size) (need t.size)] 25)).alloc (.cells #[.int .i64 (u.size : Int), .slice (some ⟨g10, 0, none⟩) (need u.size) (need u.size)] 25)
  replace r7 := ((r7.alloc (.cells #[.int .i64 (s.size : Int), .slice (some ⟨g8, 0, none⟩) (need s.size) (need s.size)] 25)).alloc (.cells #[.int .i64 (t.size : Int), .slice (some ⟨g9, 0, none⟩) (need t.size) (need t.size)] 25)).alloc (.cells #[.int .i64 (u.size : Int), .slice (some ⟨g10, 0, none⟩) (need u.size) (need u.size)] 25)
  simp only [World.size_alloc] at r9 r10
  have hJ0 : BeC w s t u b5 b6 b7 w8.heap.size (w8.heap.size + 1) (w8.heap.size + 1 + 1) g5 g6 g7 g8 g9 g10 (((w8.alloc (.cells #[.int .i64 (s.size : Int), .slice (some ⟨g8, 0, none⟩) (need s.size) (need s.size)] 25)).alloc (.cells #[.int .i64 (t.size : Int), .slice (some ⟨g9, 0, none⟩) (need t.size) (need t.size)] 25)).alloc (.cells #[.int .i64 (u.size : Int), .slice (some ⟨g10, 0, none⟩) (need u.size) (need u.size)] 25)) := ⟨r5, r6, r7, r8, r9, r10, hB9⟩
  obtain ⟨k0, k1⟩ := r7.facts
  have hJ0' := hid hJ0
  have esz : (u.size : Int) = (s.size : Int) + (t.size : Int) := by have := huz.out; omega
  have esz' : ((u.size : Int) != (s.size : Int) + (t.size : Int)) = false := by rw [esz]; simp
  have esu : ((u.size : Int) != (u.size : Int)) = false := by simp
  clear hA8 hA9 hA10 hB8 r5 r6 r7 r8 r9 r10 hB9 hJ0 k1 esz
  go_wp2_with fail
  obtain ⟨b8, hb8⟩ : ∃ b8, w8.heap.size = b8 := ⟨_, rfl⟩
  obtain ⟨b9, hb9⟩ : ∃ b9, w8.heap.size + 1 = b9 := ⟨_, rfl⟩
  obtain ⟨b10, hb10⟩ : ∃ b10, w8.heap.size + 1 + 1 = b10 := ⟨_, rfl⟩
  rw [hb10, hb9, hb8] at hJ0'
  rw [hb10, hb9, hb8]
  clear hb8 hb9 hb10 k0
  go_loopw [11] (fun ii wr => ∃ i : Nat, i ≤ s.size ∧ ii = .int .i64 (i : Int) ∧ BeC w s t u b5 b6 b7 b8 b9 b10 g5 g6 g7 g8 g9 g10 wr) (fun ii _ => s.size - (intOf ii).toNat)
  case atStart => exact ⟨0, Nat.zero_le _, rfl, hJ0'.out⟩
  case round =>
    obtain ⟨i, hi, rfl, hJ⟩ := hrel
    clear hJ0'
    have hJ' := hid hJ
    clear hJ
    by_cases hlt : i < s.size
    · have hlu : i < u.size := by rw [huz.out]; omega
      obtain ⟨M, hM⟩ : ∃ M, Hid (markS s i = M) := ⟨_, rfl⟩
      obtain ⟨Y, hY⟩ : ∃ Y, Hid (inS s i = Y) := ⟨_, rfl⟩
      have hMu : Hid (markS u i = M) := by show _ = _; rw [← hu.out, mark_first s t i hlt]; exact hM.out
      have hYu : Hid (inS u i = Y) := by show _ = _; rw [← hu.out, in_first s t i hlt]; exact hY.out
      have c1 := hid (fun (v : World) (h : BeC w s t u b5 b6 b7 b8 b9 b10 g5 g6 g7 g8 g9 g10 v) => get6 (G := markS u) (by omega) i hlu M hMu (some ⟨g7, 0, none⟩) (need u.size) v h.r2.wds)
      have c2 := hid (fun (v : World) (h : BeC w s t u b5 b6 b7 b8 b9 b10 g5 g6 g7 g8 g9 g10 v) => get6 (G := markS s) (by omega) i hlt M hM (some ⟨g5, 0, none⟩) (need s.size) v h.r0.wds)
      have c3 := hid (fun (v : World) (h : BeC w s t u b5 b6 b7 b8 b9 b10 g5 g6 g7 g8 g9 g10 v) => get6 (G := inS u) (by omega) i hlu Y hYu (some ⟨g10, 0, none⟩) (need u.size) v h.r5.wds)
      have c4 := hid (fun (v : World) (h : BeC w s t u b5 b6 b7 b8 b9 b10 g5 g6 g7 g8 g9 g10 v) => get6 (G := inS s) (by omega) i hlt Y hY (some ⟨g8, 0, none⟩) (need s.size) v h.r3.wds)
      have eM : (M != M) = false := by simp
      have eY : (Y != Y) = false := by simp
      clear hM hY hMu hYu
      go_wp2_with fail
      refine wp_region_quiet (C := (fun w' => BeC w s t u b5 b6 b7 b8 b9 b10 g5 g6 g7 g8 g9 g10 w')) (by kernel_rfl) (by kernel_rfl) (BeC.drew hJ'.out) ?_
      dsimp only
      repeat (first
        | (refine wpQuiet_skip (by rfl) ?_; simp only [Act.put, List.setIfInBounds_toArray, List.set_cons_zero, List.set_cons_succ])
        | (refine wpQuiet_load 25 _ (b7) (0) [.int .i64 (u.size : Int), .slice (some ⟨g7, 0, none⟩) (need u.size) (need u.size)] _ (fun wq hq => (BeC.r2 hq).range) Tryd.underlying25 sizeBits rfl rfl rfl (by rfl) ?_; simp only [Act.put, List.setIfInBounds_toArray, List.set_cons_zero, List.set_cons_succ])
        | (refine wpQuiet_load 25 _ (b5) (0) [.int .i64 (s.size : Int), .slice (some ⟨g5, 0, none⟩) (need s.size) (need s.size)] _ (fun wq hq => (BeC.r0 hq).range) Tryd.underlying25 sizeBits rfl rfl rfl (by rfl) ?_; simp only [Act.put, List.setIfInBounds_toArray, List.set_cons_zero, List.set_cons_succ])
        | (refine wpQuiet_load 25 _ (b10) (0) [.int .i64 (u.size : Int), .slice (some ⟨g10, 0, none⟩) (need u.size) (need u.size)] _ (fun wq hq => (BeC.r5 hq).range) Tryd.underlying25 sizeBits rfl rfl rfl (by rfl) ?_; simp only [Act.put, List.setIfInBounds_toArray, List.set_cons_zero, List.set_cons_succ])
        | (refine wpQuiet_load 25 _ (b8) (0) [.int .i64 (s.size : Int), .slice (some ⟨g8, 0, none⟩) (need s.size) (need s.size)] _ (fun wq hq => (BeC.r3 hq).range) Tryd.underlying25 sizeBits rfl rfl rfl (by rfl) ?_; simp only [Act.put, List.setIfInBounds_toArray, List.set_cons_zero, List.set_cons_succ])
        | (refine' wpQuiet_take (by rfl) ?_ ?_
           rotate_left
           · (intro wq hq; (try dsimp only at hq); go_simp
              first
                | done
                | with_reducible rfl
                | (go_at_call 24; have hzz := c1.out _ hq; with_reducible refine hzz.mono ?_; clear hzz; rintro e wz ⟨rfl, hb⟩; exact ⟨rfl, BeC.kept hq hb⟩)
                | (go_at_call 24; have hzz := c2.out _ hq; with_reducible refine hzz.mono ?_; clear hzz; rintro e wz ⟨rfl, hb⟩; exact ⟨rfl, BeC.kept hq hb⟩)
                | (go_at_call 24; have hzz := c3.out _ hq; with_reducible refine hzz.mono ?_; clear hzz; rintro e wz ⟨rfl, hb⟩; exact ⟨rfl, BeC.kept hq hb⟩)
                | (go_at_call 24; have hzz := c4.out _ hq; with_reducible refine hzz.mono ?_; clear hzz; rintro e wz ⟨rfl, hb⟩; exact ⟨rfl, BeC.kept hq hb⟩)
             )
           simp only [Act.put, List.setIfInBounds_toArray, List.set_cons_zero, List.set_cons_succ]))
      refine wpQuiet_nil ?_
      intro wz hz
      have hz' := hid hz
      clear hz hJ' c1 c2 c3 c4
      go_wp2
      go_roundw
      case rel => exact ⟨i + 1, by omega, by simp, hz'.out⟩
      case measure => simp [intOf]; omega
    · obtain rfl : i = s.size := by omega
      clear hi hlt
      obtain ⟨k0, hk0⟩ : ∃ k0, Hid (behindS s false = k0) := ⟨_, rfl⟩
      go_wp2_with fail
      refine Calls.mono (behind_calls s false k0 (by omega) hk0 _) ?_
      rintro e1 wr' ⟨rfl, rfl⟩
      cases k0 with
      | true =>
        by_cases ht0 : t.size = 0
        · have ht0i : (t.size : Int) = 0 := by omega
          go_wp2
          go_ret
          exact ⟨rfl, hJ'.out.b⟩
        · have hlu : s.size < u.size := by rw [huz.out]; omega
          have hMu : Hid (markS u s.size = false) := by show _ = _; rw [← hu.out]; exact mark_escaped s t hk0.out
          have c1 := hid (fun (v : World) (h : BeC w s t u b5 b6 b7 b8 b9 b10 g5 g6 g7 g8 g9 g10 v) => get6 (G := markS u) (by omega) s.size hlu false hMu (some ⟨g7, 0, none⟩) (need u.size) v h.r2.wds)
          have ht0i : ((t.size : Int) == 0) = false := by rw [beq_eq_false_iff_ne]; omega
          obtain ⟨k0, k1⟩ := hJ'.out.r2.facts
          clear hMu
          go_wp2_with fail
          refine Calls.mono (c1.out _ hJ'.out) ?_
          rintro e wy ⟨rfl, hby⟩
          have hy' := hid (hJ'.out.kept hby)
          clear hby hJ' c1 k0 k1
          go_wp2
          go_ret
          exact ⟨rfl, hy'.out.b⟩
      | false =>
        obtain ⟨O, hO⟩ : ∃ O, Hid (openS s = O) := ⟨_, rfl⟩
        go_wp2_with fail
        refine Calls.mono (openQ_calls s (by omega) O hO _ (hT'.out.below hJ'.out.b h0'.out) (Nat.lt_of_lt_of_le h0'.out hJ'.out.b.size)) ?_
        rintro e wy ⟨rfl, hby⟩
        have hy' := hid (hJ'.out.kept hby)
        clear hby hJ'
        go_wp2_with fail
        go_loopw [13] (fun ii wr => ∃ i : Nat, i ≤ t.size ∧ ii = .int .i64 (i : Int) ∧ BeC w s t u b5 b6 b7 b8 b9 b10 g5 g6 g7 g8 g9 g10 wr) (fun ii _ => t.size - (intOf ii).toNat)
        case atStart => exact ⟨0, Nat.zero_le _, rfl, hy'.out⟩
        case round =>
          obtain ⟨i, hi, rfl, hJ⟩ := hrel
          clear hy'
          have hJ' := hid hJ
          clear hJ
          by_cases hlt : i < t.size
          · obtain ⟨P, hP⟩ : ∃ P, Hid (s.size + i = P) := ⟨_, rfl⟩
            have hlu : P < u.size := by rw [huz.out, ← hP.out]; omega
            have hsum : (s.size : Int) + (i : Int) = (P : Int) := by have := hP.out; omega
            have hPi : (P : Int) ≤ 281474976702464 := by omega
            have hwP : IntKind.i64.wrap (P : Int) = (P : Int) := by rw [IntKind.wrap_i64]; omega
            obtain ⟨M, hM⟩ : ∃ M, Hid (markS t i = M) := ⟨_, rfl⟩
            obtain ⟨Y, hY⟩ : ∃ Y, Hid (inS t i = Y) := ⟨_, rfl⟩
            have hMu : Hid (markS u P = M) := by show _ = _; rw [← hu.out, ← hP.out, mark_second s t hk0.out i]; exact hM.out
            have hYu : Hid (inS u P = (Y != O)) := by show _ = _; rw [← hu.out, ← hP.out, in_second s t hk0.out i, hY.out, hO.out]
            have c1 := hid (fun (v : World) (h : BeC w s t u b5 b6 b7 b8 b9 b10 g5 g6 g7 g8 g9 g10 v) => get6 (G := markS u) (by omega) P hlu M hMu (some ⟨g7, 0, none⟩) (need u.size) v h.r2.wds)
            have c2 := hid (fun (v : World) (h : BeC w s t u b5 b6 b7 b8 b9 b10 g5 g6 g7 g8 g9 g10 v) => get6 (G := markS t) (by omega) i hlt M hM (some ⟨g6, 0, none⟩) (need t.size) v h.r1.wds)
            have c3 := hid (fun (v : World) (h : BeC w s t u b5 b6 b7 b8 b9 b10 g5 g6 g7 g8 g9 g10 v) => get6 (G := inS u) (by omega) P hlu (Y != O) hYu (some ⟨g10, 0, none⟩) (need u.size) v h.r5.wds)
            have c4 := hid (fun (v : World) (h : BeC w s t u b5 b6 b7 b8 b9 b10 g5 g6 g7 g8 g9 g10 v) => get6 (G := inS t) (by omega) i hlt Y hY (some ⟨g9, 0, none⟩) (need t.size) v h.r4.wds)
            have eM : (M != M) = false := by simp
            obtain ⟨V, hV⟩ : ∃ V, (Y != O) = V := ⟨_, rfl⟩
            rw [hV] at c3
            have hV' : (!(Y == O)) = V := hV
            have eY : (V != V) = false := by simp
            clear hM hY hMu hYu hP
            go_wp2_with fail
            refine wp_region_quiet (C := (fun w' => BeC w s t u b5 b6 b7 b8 b9 b10 g5 g6 g7 g8 g9 g10 w')) (by kernel_rfl) (by kernel_rfl) (BeC.drew hJ'.out) ?_
            dsimp only
            repeat (first
              | (refine wpQuiet_skip (by rfl) ?_; simp only [Act.put, List.setIfInBounds_toArray, List.set_cons_zero, List.set_cons_succ])
              | (refine wpQuiet_load 25 _ (b7) (0) [.int .i64 (u.size : Int), .slice (some ⟨g7, 0, none⟩) (need u.size) (need u.size)] _ (fun wq hq => (BeC.r2 hq).range) Tryd.underlying25 sizeBits rfl rfl rfl (by rfl) ?_; simp only [Act.put, List.setIfInBounds_toArray, List.set_cons_zero, List.set_cons_succ])
              | (refine wpQuiet_load 25 _ (b6) (0) [.int .i64 (t.size : Int), .slice (some ⟨g6, 0, none⟩) (need t.size) (need t.size)] _ (fun wq hq => (BeC.r1 hq).range) Tryd.underlying25 sizeBits rfl rfl rfl (by rfl) ?_; simp only [Act.put, List.setIfInBounds_toArray, List.set_cons_zero, List.set_cons_succ])
              | (refine wpQuiet_load 25 _ (b10) (0) [.int .i64 (u.size : Int), .slice (some ⟨g10, 0, none⟩) (need u.size) (need u.size)] _ (fun wq hq => (BeC.r5 hq).range) Tryd.underlying25 sizeBits rfl rfl rfl (by rfl) ?_; simp only [Act.put, List.setIfInBounds_toArray, List.set_cons_zero, List.set_cons_succ])
              | (refine wpQuiet_load 25 _ (b9) (0) [.int .i64 (t.size : Int), .slice (some ⟨g9, 0, none⟩) (need t.size) (need t.size)] _ (fun wq hq => (BeC.r4 hq).range) Tryd.underlying25 sizeBits rfl rfl rfl (by rfl) ?_; simp only [Act.put, List.setIfInBounds_toArray, List.set_cons_zero, List.set_cons_succ])
              | (refine' wpQuiet_take (by rfl) ?_ ?_
                 rotate_left
                 · (intro wq hq; (try dsimp only at hq); go_simp
                    first
                      | done
                      | with_reducible rfl
                      | (go_at_call 24; have hzz := c1.out _ hq; with_reducible refine hzz.mono ?_; clear hzz; rintro e wz ⟨rfl, hb⟩; exact ⟨rfl, BeC.kept hq hb⟩)
                      | (go_at_call 24; have hzz := c2.out _ hq; with_reducible refine hzz.mono ?_; clear hzz; rintro e wz ⟨rfl, hb⟩; exact ⟨rfl, BeC.kept hq hb⟩)
                      | (go_at_call 24; have hzz := c3.out _ hq; with_reducible refine hzz.mono ?_; clear hzz; rintro e wz ⟨rfl, hb⟩; exact ⟨rfl, BeC.kept hq hb⟩)
                      | (go_at_call 24; have hzz := c4.out _ hq; with_reducible refine hzz.mono ?_; clear hzz; rintro e wz ⟨rfl, hb⟩; exact ⟨rfl, BeC.kept hq hb⟩)
                   )
                 simp only [Act.put, List.setIfInBounds_toArray, List.set_cons_zero, List.set_cons_succ]))
            refine wpQuiet_nil ?_
            intro wz hz
            have hz' := hid hz
            clear hz hJ' c1 c2 c3 c4
            go_wp2
            go_roundw
            case rel => exact ⟨i + 1, by omega, by simp, hz'.out⟩
            case measure => simp [intOf]; omega
          · obtain rfl : i = t.size := by omega
            obtain ⟨T, hTo⟩ : ∃ T, Hid (openS t = T) := ⟨_, rfl⟩
            obtain ⟨U, hU⟩ : ∃ U, Hid (openS u = U) := ⟨_, rfl⟩
            have hUe : (O != T) = U := by rw [← hU.out, ← hu.out, open_join s t hk0.out, hO.out, hTo.out]
            have eU : (U == U) = true := by simp
            have hUe' : (!(O == T)) = U := hUe
            go_wp2_with fail
            refine Calls.mono (openQ_calls u (by omega) U hU _ (hT'.out.below hJ'.out.b h0'.out) (Nat.lt_of_lt_of_le h0'.out hJ'.out.b.size)) ?_
            rintro e wa ⟨rfl, hba⟩
            have ha' := hid (hJ'.out.kept hba)
            clear hba hJ' hU
            go_wp2_with fail
            refine Calls.mono (openQ_calls t (by omega) T hTo _ (hT'.out.below ha'.out.b h0'.out) (Nat.lt_of_lt_of_le h0'.out ha'.out.b.size)) ?_
            rintro e wb ⟨rfl, hbb⟩
            have hb' := hid (ha'.out.kept hbb)
            clear hbb ha' hTo
            go_wp2
            go_ret
            exact ⟨rfl, hb'.out.b⟩
end Go.Proofs.YtmjmcdoanolelaaDoor
