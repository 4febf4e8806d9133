/-
  What quarrylaw05.told answers of the characters of a text and their lists: true.
-/
import Derived.Test.YtkkmaakgacnfoaaRunesSeq
namespace Go.Proofs.Ytkkmaakgacnfoaa
open Go.RowKit Go.Shelf

attribute [local go_sem] Oper.semAt_some

/-- The two lists hold the places and the characters. -/
def ListsAt (w : World) (ao bo : Option Addr) (T : List (Nat × Nat)) : Prop := ∀ (j P C : Nat), T[j]? = some (P, C) → ∃ g h, ao = some ⟨g, 0, none⟩ ∧ bo = some ⟨h, 0, none⟩ ∧ g < w.heap.size ∧ h < w.heap.size ∧ w.cell? ⟨g, j, none⟩ = some (.int .i64 (P : Int)) ∧ w.cell? ⟨h, j, none⟩ = some (.int .i32 (C : Int))
theorem ListsAt.kept {w w' : World} {ao bo : Option Addr} {T : List (Nat × Nat)} (h : ListsAt w ao bo T) (hb : Below w.heap.size w w') : ListsAt w' ao bo T := fun j P C hj => by
  obtain ⟨g, h, h1, h2, h3, h4, h5, h6⟩ := h j P C hj
  exact ⟨g, h, h1, h2, Nat.lt_of_lt_of_le h3 hb.size, Nat.lt_of_lt_of_le h4 hb.size, (hb.cell (p := ⟨g, j, none⟩) h3).trans h5, (hb.cell (p := ⟨h, j, none⟩) h4).trans h6⟩
theorem undef_bool5 {b : Bool} (h : some undef = some (Value.bool b)) : False := by first | (cases h; done) | (simp [undef] at h)
/-- Between two rounds. -/
def ToldUI (w : World) (Bs N cap cap2 : Nat) (ao bo : Option Addr) (left deep : Int) (pre : List Nat) (W : World) : Prop := (At W (w.heap.size) #[.func (.func 25) #[] #[.pointer (some ⟨Bs, 0, none⟩)]] 36 ∧ At W (w.heap.size + 1) #[.slice ao N cap] 39 ∧ At W (w.heap.size + 1 + 1) #[.slice bo N cap2] 40 ∧ At W (w.heap.size + 1 + 1 + 1) #[.int .i64 left] 3 ∧ At W (w.heap.size + 1 + 1 + 1 + 1) #[.int .i64 deep] 3 ∧ At W (w.heap.size + 1 + 1 + 1 + 1 + 1) #[.bool false] 4 ∧ At W (w.heap.size + 1 + 1 + 1 + 1 + 1 + 1) #[.int .i64 ((pre.length : Nat) : Int)] 3) ∧ Below w.heap.size w W
/-- A round has left: with true, or at what is not told there. -/
def ToldUX (w : World) (N : Nat) (c : Code) (pre : List Nat) (W : World) : Prop := c = .ret ∧ ((¬ ∃ k, k ≤ N ∧ pre = List.range k) ∨ At W (w.heap.size + 1 + 1 + 1 + 1 + 1) #[.bool true] 4) ∧ (∃ v, At W (w.heap.size + 1 + 1 + 1 + 1 + 1) #[.bool v] 4) ∧ Below w.heap.size w W
section
variable {w : World} {Bs N cap cap2 : Nat} {ao bo : Option Addr} {left deep : Int} {B : Nat}
theorem toldUI_free (hB : w.heap.size + 1 + 1 + 1 + 1 + 1 + 1 < B) : FreeFrom B (ToldUI w Bs N cap cap2 ao bo left deep) := fun t X Y row ⟨⟨h0, h1, h2, h3, h4, h5, h6⟩, hb⟩ hg hr => by
  have hsz := h6.lt
  exact ⟨⟨h0.free (B := B) (by omega) hg hr, h1.free (B := B) (by omega) hg hr, h2.free (B := B) (by omega) hg hr, h3.free (B := B) (by omega) hg hr, h4.free (B := B) (by omega) hg hr, h5.free (B := B) (by omega) hg hr, h6.free (B := B) (by omega) hg hr⟩, below_free (B := B) hb (by omega) (by omega) hg hr⟩
theorem toldUX_free (hB : w.heap.size + 1 + 1 + 1 + 1 + 1 + 1 < B) (c : Code) : FreeFrom B (ToldUX w N c) := fun t X Y row ⟨h0, h1, ⟨v, h2⟩, hb⟩ hg hr => by
  have hsz := h2.lt
  refine ⟨h0, ?_, ⟨v, h2.free (B := B) (by omega) hg hr⟩, below_free (B := B) hb (by omega) (by omega) hg hr⟩
  rcases h1 with h1 | h1
  · exact .inl h1
  · exact .inr (h1.free (B := B) (by omega) hg hr)
end

set_option maxRecDepth 100000 in
set_option maxHeartbeats 8000000 in
theorem toldU_in (s : ByteArray) (hs : s.size < 9223372036854775807) (Bs N cap cap2 : Nat) (ao bo : Option Addr) (left deep : Int) (hdp : deep ≤ 9223372036854775807) (w : World) (hN : Hid ((telOf s).length = N)) (hNs : N ≤ 9223372036854775000)
    (has : At w Bs #[.string s] 9) (hL : ListsAt w ao bo (telOf s))
    (Hself : Hid (0 < deep → ∀ (left' : Int) (wx : World), Below w.heap.size w wx → Calls Try.prog 16 #[.func (.func 25) #[] #[.pointer (some ⟨Bs, 0, none⟩)], .slice ao N cap, .slice bo N cap2, .int .i64 left', .int .i64 (deep - 1)] wx fun e w' => e = .returned (.bool true) ∧ Below wx.heap.size wx w')) :
    CallsIn Fence.wide 3 Try.prog 16 #[.func (.func 25) #[] #[.pointer (some ⟨Bs, 0, none⟩)], .slice ao N cap, .slice bo N cap2, .int .i64 left, .int .i64 deep] w fun e w' => e = .returned (.bool true) ∧ Below w.heap.size w w' := by
  have hBs := has.lt
  have hL' := hid hL
  clear hL
  refine callsIn_of_wp_marks Try.func16 rfl trivial ?_ rfl
  simp only [Try.ntmps16, List.size_toArray, List.length_cons, List.length_nil, Nat.reduceAdd, Nat.reduceSub, Array.replicate_succ, Array.replicate_zero, List.push_toArray, List.append_toArray, List.nil_append, List.cons_append]
  gi_wp2
  have hI0 : ToldUI w Bs N cap cap2 ao bo left deep [] (((((((w.alloc (.cells #[.func (.func 25) #[] #[.pointer (some ⟨Bs, 0, none⟩)]] 36)).alloc (.cells #[.slice ao N cap] 39)).alloc (.cells #[.slice bo N cap2] 40)).alloc (.cells #[.int .i64 left] 3)).alloc (.cells #[.int .i64 deep] 3)).alloc (.cells #[.bool false] 4)).alloc (.cells #[.int .i64 0] 3)) := by
    refine ⟨⟨?_, ?_, ?_, ?_, ?_, ?_, ?_⟩, by repeat (first | with_reducible exact Below.refl _ _ | with_reducible refine Below.setCell ?_ (by first | (simp; done) | (simp; omega)) _ | with_reducible refine below_drewN ?_ _ | with_reducible refine Below.alloc ?_ (by first | (simp; done) | (simp; omega)) _ | with_reducible refine Below.drew ?_)⟩
    · have h := (((((((At.new w #[.func (.func 25) #[] #[.pointer (some ⟨Bs, 0, none⟩)]] 36).alloc (.cells #[.slice ao N cap] 39)).alloc (.cells #[.slice bo N cap2] 40)).alloc (.cells #[.int .i64 left] 3)).alloc (.cells #[.int .i64 deep] 3)).alloc (.cells #[.bool false] 4)).alloc (.cells #[.int .i64 0] 3))
      simpa using h
    · have h := ((((((At.new (w.alloc (.cells #[.func (.func 25) #[] #[.pointer (some ⟨Bs, 0, none⟩)]] 36)) #[.slice ao N cap] 39).alloc (.cells #[.slice bo N cap2] 40)).alloc (.cells #[.int .i64 left] 3)).alloc (.cells #[.int .i64 deep] 3)).alloc (.cells #[.bool false] 4)).alloc (.cells #[.int .i64 0] 3))
      simpa using h
    · have h := (((((At.new ((w.alloc (.cells #[.func (.func 25) #[] #[.pointer (some ⟨Bs, 0, none⟩)]] 36)).alloc (.cells #[.slice ao N cap] 39)) #[.slice bo N cap2] 40).alloc (.cells #[.int .i64 left] 3)).alloc (.cells #[.int .i64 deep] 3)).alloc (.cells #[.bool false] 4)).alloc (.cells #[.int .i64 0] 3))
      simpa using h
    · have h := ((((At.new (((w.alloc (.cells #[.func (.func 25) #[] #[.pointer (some ⟨Bs, 0, none⟩)]] 36)).alloc (.cells #[.slice ao N cap] 39)).alloc (.cells #[.slice bo N cap2] 40)) #[.int .i64 left] 3).alloc (.cells #[.int .i64 deep] 3)).alloc (.cells #[.bool false] 4)).alloc (.cells #[.int .i64 0] 3))
      simpa using h
    · have h := (((At.new ((((w.alloc (.cells #[.func (.func 25) #[] #[.pointer (some ⟨Bs, 0, none⟩)]] 36)).alloc (.cells #[.slice ao N cap] 39)).alloc (.cells #[.slice bo N cap2] 40)).alloc (.cells #[.int .i64 left] 3)) #[.int .i64 deep] 3).alloc (.cells #[.bool false] 4)).alloc (.cells #[.int .i64 0] 3))
      simpa using h
    · have h := ((At.new (((((w.alloc (.cells #[.func (.func 25) #[] #[.pointer (some ⟨Bs, 0, none⟩)]] 36)).alloc (.cells #[.slice ao N cap] 39)).alloc (.cells #[.slice bo N cap2] 40)).alloc (.cells #[.int .i64 left] 3)).alloc (.cells #[.int .i64 deep] 3)) #[.bool false] 4).alloc (.cells #[.int .i64 0] 3))
      simpa using h
    · have h := (At.new ((((((w.alloc (.cells #[.func (.func 25) #[] #[.pointer (some ⟨Bs, 0, none⟩)]] 36)).alloc (.cells #[.slice ao N cap] 39)).alloc (.cells #[.slice bo N cap2] 40)).alloc (.cells #[.int .i64 left] 3)).alloc (.cells #[.int .i64 deep] 3)).alloc (.cells #[.bool false] 4)) #[.int .i64 0] 3)
      simpa using h
  have hz0 : (((((((w.alloc (.cells #[.func (.func 25) #[] #[.pointer (some ⟨Bs, 0, none⟩)]] 36)).alloc (.cells #[.slice ao N cap] 39)).alloc (.cells #[.slice bo N cap2] 40)).alloc (.cells #[.int .i64 left] 3)).alloc (.cells #[.int .i64 deep] 3)).alloc (.cells #[.bool false] 4)).alloc (.cells #[.int .i64 0] 3)).heap.size = w.heap.size + 1 + 1 + 1 + 1 + 1 + 1 + 1 := by simp
  generalize (((((((w.alloc (.cells #[.func (.func 25) #[] #[.pointer (some ⟨Bs, 0, none⟩)]] 36)).alloc (.cells #[.slice ao N cap] 39)).alloc (.cells #[.slice bo N cap2] 40)).alloc (.cells #[.int .i64 left] 3)).alloc (.cells #[.int .i64 deep] 3)).alloc (.cells #[.bool false] 4)).alloc (.cells #[.int .i64 0] 3)) = w1 at *
  have hB0 := hI0.2
  have has1 := has.keptAll hB0
  refine range_free (n := 3) (by decide) (gf := 25) (lb := #[.pointer (some ⟨Bs, 0, none⟩)]) rfl (enters_of Try.func25 (by kernel_rfl) rfl)
    (runes_free (3 - 1) Bs w.heap.size (w1.heap.size + 1 + 1) s hs w1 (Nat.le_refl _) has1) (Below.refl _ _) (fun _ => rfl) Held.trans (fun W r r' h => Held.turn h (by omega) (by omega) (by omega))
    (ToldUI w Bs N cap cap2 ao bo left deep) (ToldUX w N) (toldUI_free (by omega)) (fun c => toldUX_free (by omega) c) hI0
    (fun x => { tmps := #[.func (.func 25) #[] #[.pointer (some ⟨Bs, 0, none⟩)], .slice ao N cap, .slice bo N cap2, .int .i64 left, .int .i64 deep, .pointer (some ⟨w.heap.size, 0, none⟩), .pointer (some ⟨w.heap.size + 1, 0, none⟩), .pointer (some ⟨w.heap.size + 1 + 1, 0, none⟩), .pointer (some ⟨w.heap.size + 1 + 1 + 1, 0, none⟩), .pointer (some ⟨w.heap.size + 1 + 1 + 1 + 1, 0, none⟩), .pointer (some ⟨w.heap.size + 1 + 1 + 1 + 1 + 1, 0, none⟩), .pointer (some ⟨w.heap.size + 1 + 1 + 1 + 1 + 1 + 1, 0, none⟩), .int .i64 (((telOf s).getD x (0, 0)).1 : Int), .int .i32 (((telOf s).getD x (0, 0)).2 : Int), .func (.func 25) #[] #[.pointer (some ⟨Bs, 0, none⟩)], .int .i64 (((telOf s).getD x (0, 0)).1 : Int), .int .i32 (((telOf s).getD x (0, 0)).2 : Int), undef, undef, undef, undef, undef, undef, undef, undef, undef, undef, undef, undef, undef, undef, undef, undef, undef, undef, undef, undef, undef, undef, undef, undef, undef, undef, undef, undef, undef, undef, undef, undef, undef, undef, undef, undef, undef, undef, undef, undef, undef, undef, undef, undef, undef, undef], defers := [] })
    ?assign ?body ?done ?stop
  case assign =>
    intro l x W K hK
    rw [encU]
    generalize ((telOf s).getD x (0, 0)).1 = p at *
    generalize ((telOf s).getD x (0, 0)).2 = c at *
    gi_wp2
    exact hK
  case body =>
    intro l pre x W hll ⟨⟨h0, h1, h2, h3, h4, h5, h6⟩, hB⟩ hlt
    obtain ⟨⟨P0, C0⟩, hT⟩ : ∃ y, (telOf s)[pre.length]? = some y := ⟨_, List.getElem?_eq_getElem hlt⟩
    obtain ⟨g, h, rfl, rfl, hg, hh, cg, ch⟩ := hL'.out _ _ _ hT
    have hlen : pre.length < N := hN.out ▸ hlt
    have hleni : (pre.length : Int) < (N : Int) := by omega
    have cg' := (hB.cell (p := ⟨g, pre.length, none⟩) hg).trans cg
    have ch' := (hB.cell (p := ⟨h, pre.length, none⟩) hh).trans ch
    have hne := hid (show (telOf s).getD x (0, 0) ≠ (P0, C0) → ¬ ∃ k, k ≤ N ∧ pre ++ [x] = List.range k from fun hk ⟨k, _, hr⟩ => by
      have hkl := congrArg List.length hr
      simp at hkl
      have : (List.range k)[pre.length]? = some x := by rw [← hr]; simp
      rw [List.getElem?_range (by omega)] at this
      have hx : pre.length = x := by simpa using this
      apply hk
      rw [← hx, List.getD_eq_getElem?_getD, hT]
      rfl)
    have hnl : (pre ++ [x]).length = pre.length + 1 := by simp
    have hnl' := hid hnl
    obtain ⟨⟨p, c⟩, hpc⟩ : ∃ y, (telOf s).getD x (0, 0) = y := ⟨_, rfl⟩
    rw [hpc] at hne
    simp only [hpc]
    clear hT cg ch hpc hlt
    by_cases he : p = P0 ∧ c = C0
    · obtain ⟨rfl, rfl⟩ := he
      have k1 := h1.cell 0
      have k2 := h2.cell 0
      have k6 := h6.cell 0
      have f6 := h6.frozen 0
      simp only [List.getElem?_toArray, List.getElem?_cons_zero] at k1 k2 k6
      clear hne
      by_cases h2n : pre.length = 1
      · rw [h2n] at h6 cg' ch' k6 hleni
        rw [h2n] at hnl
        obtain ⟨W3, hW3⟩ : ∃ W3, W.setCell ⟨w.heap.size + 1 + 1 + 1 + 1 + 1 + 1, 0, none⟩ (.int .i64 (2)) = W3 := ⟨_, rfl⟩
        have t0 := h0.other (p := ⟨w.heap.size + 1 + 1 + 1 + 1 + 1 + 1, 0, none⟩) (by show w.heap.size ≠ w.heap.size + 1 + 1 + 1 + 1 + 1 + 1; omega) (.int .i64 (2))
        have t1 := h1.other (p := ⟨w.heap.size + 1 + 1 + 1 + 1 + 1 + 1, 0, none⟩) (by show w.heap.size + 1 ≠ w.heap.size + 1 + 1 + 1 + 1 + 1 + 1; omega) (.int .i64 (2))
        have t2 := h2.other (p := ⟨w.heap.size + 1 + 1 + 1 + 1 + 1 + 1, 0, none⟩) (by show w.heap.size + 1 + 1 ≠ w.heap.size + 1 + 1 + 1 + 1 + 1 + 1; omega) (.int .i64 (2))
        have t3 := h3.other (p := ⟨w.heap.size + 1 + 1 + 1 + 1 + 1 + 1, 0, none⟩) (by show w.heap.size + 1 + 1 + 1 ≠ w.heap.size + 1 + 1 + 1 + 1 + 1 + 1; omega) (.int .i64 (2))
        have t4 := h4.other (p := ⟨w.heap.size + 1 + 1 + 1 + 1 + 1 + 1, 0, none⟩) (by show w.heap.size + 1 + 1 + 1 + 1 ≠ w.heap.size + 1 + 1 + 1 + 1 + 1 + 1; omega) (.int .i64 (2))
        have t5 := h5.other (p := ⟨w.heap.size + 1 + 1 + 1 + 1 + 1 + 1, 0, none⟩) (by show w.heap.size + 1 + 1 + 1 + 1 + 1 ≠ w.heap.size + 1 + 1 + 1 + 1 + 1 + 1; omega) (.int .i64 (2))
        have t6 := h6.set 0 (.int .i64 (2))
        have hBt := hB.setCell (p := ⟨w.heap.size + 1 + 1 + 1 + 1 + 1 + 1, 0, none⟩) (by show w.heap.size ≤ w.heap.size + 1 + 1 + 1 + 1 + 1 + 1; omega) (.int .i64 (2))
        have hKt := KeepsOthers.setCell W ⟨w.heap.size + 1 + 1 + 1 + 1 + 1 + 1, 0, none⟩ (.int .i64 (2))
        have hHt := Held.setCell (n0 := w.heap.size) (B := w1.heap.size + 1 + 1) (Bx := Bs) (b := w.heap.size + 1 + 1 + 1 + 1 + 1 + 1) W (.int .i64 (2)) (by omega) (by omega) (by omega)
        rw [hW3] at t0 t1 t2 t3 t4 t5 t6 hBt hKt hHt
        have c0 := t0.cell 0
        have c1 := t1.cell 0
        have c2 := t2.cell 0
        have c3 := t3.cell 0
        have c4 := t4.cell 0
        have c5 := t5.cell 0
        have c6 := t6.cell 0
        have cf := t5.frozen 0
        simp only [List.getElem?_toArray, List.getElem?_cons_zero] at c0 c1 c2 c3 c4 c5
        simp only [List.setIfInBounds_toArray, List.set_cons_zero, List.getElem?_toArray, List.getElem?_cons_zero] at c6
        gi_wp2_with fail
        · have hd : 0 < deep := by first | assumption | omega | (simp at *; omega)
          refine ⟨trivial, ?_⟩
          refine (CallsIn.inRound l (callsIn_wide.2 (Hself.out hd _ W3 hBt))).mono ?_
          rintro e w4 ⟨rfl, hb4⟩
          have u0 := t0.keptAll hb4
          have u1 := t1.keptAll hb4
          have u2 := t2.keptAll hb4
          have u3 := t3.keptAll hb4
          have u4 := t4.keptAll hb4
          have u5 := t5.keptAll hb4
          have u6 := t6.keptAll hb4
          have hBu := hBt.trans (hb4.mono hBt.size)
          have hKu := hKt.trans (keeps_below hb4)
          have hHu := hHt.trans (Held.below (n0 := w.heap.size) (B := w1.heap.size + 1 + 1) (Bx := Bs) hBt.size hb4)
          clear c0 c1 c2 c3 c4 c5 c6 cf t0 t1 t2 t3 t4 t5 t6 hb4 hW3
          have q0 := u0.cell 0
          have q1 := u1.cell 0
          have q2 := u2.cell 0
          have q3 := u3.cell 0
          have q4 := u4.cell 0
          have q5 := u5.cell 0
          have q6 := u6.cell 0
          have qf := u5.frozen 0
          simp only [List.getElem?_toArray, List.getElem?_cons_zero] at q0 q1 q2 q3 q4 q5
          simp only [List.setIfInBounds_toArray, List.set_cons_zero, List.getElem?_toArray, List.getElem?_cons_zero] at q6
          gi_wp2
          · refine ⟨(hKu.trans (KeepsOthers.setCell _ _ _)).from _, hHu.trans (Held.setCell (b := w.heap.size + 1 + 1 + 1 + 1 + 1) _ _ (by omega) (by omega) (by omega)), rfl, .inr (u5.set 0 (.bool true)), ⟨true, u5.set 0 (.bool true)⟩, hBu.setCell (p := ⟨w.heap.size + 1 + 1 + 1 + 1 + 1, 0, none⟩) (by show w.heap.size ≤ w.heap.size + 1 + 1 + 1 + 1 + 1; omega) _⟩
          · refine ⟨hKu.from _, hHu, ⟨u0, u1, u2, u3, u4, u5, ?_⟩, hBu⟩
            rw [hnl]
            exact u6
        · refine ⟨trivial, ?_⟩
          gi_wp2
          · refine ⟨(hKt.trans (KeepsOthers.setCell _ _ _)).from _, hHt.trans (Held.setCell (b := w.heap.size + 1 + 1 + 1 + 1 + 1) _ _ (by omega) (by omega) (by omega)), rfl, .inr (t5.set 0 (.bool true)), ⟨true, t5.set 0 (.bool true)⟩, hBt.setCell (p := ⟨w.heap.size + 1 + 1 + 1 + 1 + 1, 0, none⟩) (by show w.heap.size ≤ w.heap.size + 1 + 1 + 1 + 1 + 1; omega) _⟩
          · refine ⟨hKt.from _, hHt, ⟨t0, t1, t2, t3, t4, t5, ?_⟩, hBt⟩
            rw [hnl]
            exact t6
      · have h2i : ¬ ((pre.length : Int) + 1 = 2) := by omega
        obtain ⟨W3, hW3⟩ : ∃ W3, W.setCell ⟨w.heap.size + 1 + 1 + 1 + 1 + 1 + 1, 0, none⟩ (.int .i64 (((pre.length : Nat) : Int) + 1)) = W3 := ⟨_, rfl⟩
        have t0 := h0.other (p := ⟨w.heap.size + 1 + 1 + 1 + 1 + 1 + 1, 0, none⟩) (by show w.heap.size ≠ w.heap.size + 1 + 1 + 1 + 1 + 1 + 1; omega) (.int .i64 (((pre.length : Nat) : Int) + 1))
        have t1 := h1.other (p := ⟨w.heap.size + 1 + 1 + 1 + 1 + 1 + 1, 0, none⟩) (by show w.heap.size + 1 ≠ w.heap.size + 1 + 1 + 1 + 1 + 1 + 1; omega) (.int .i64 (((pre.length : Nat) : Int) + 1))
        have t2 := h2.other (p := ⟨w.heap.size + 1 + 1 + 1 + 1 + 1 + 1, 0, none⟩) (by show w.heap.size + 1 + 1 ≠ w.heap.size + 1 + 1 + 1 + 1 + 1 + 1; omega) (.int .i64 (((pre.length : Nat) : Int) + 1))
        have t3 := h3.other (p := ⟨w.heap.size + 1 + 1 + 1 + 1 + 1 + 1, 0, none⟩) (by show w.heap.size + 1 + 1 + 1 ≠ w.heap.size + 1 + 1 + 1 + 1 + 1 + 1; omega) (.int .i64 (((pre.length : Nat) : Int) + 1))
        have t4 := h4.other (p := ⟨w.heap.size + 1 + 1 + 1 + 1 + 1 + 1, 0, none⟩) (by show w.heap.size + 1 + 1 + 1 + 1 ≠ w.heap.size + 1 + 1 + 1 + 1 + 1 + 1; omega) (.int .i64 (((pre.length : Nat) : Int) + 1))
        have t5 := h5.other (p := ⟨w.heap.size + 1 + 1 + 1 + 1 + 1 + 1, 0, none⟩) (by show w.heap.size + 1 + 1 + 1 + 1 + 1 ≠ w.heap.size + 1 + 1 + 1 + 1 + 1 + 1; omega) (.int .i64 (((pre.length : Nat) : Int) + 1))
        have t6 := h6.set 0 (.int .i64 (((pre.length : Nat) : Int) + 1))
        have hBt := hB.setCell (p := ⟨w.heap.size + 1 + 1 + 1 + 1 + 1 + 1, 0, none⟩) (by show w.heap.size ≤ w.heap.size + 1 + 1 + 1 + 1 + 1 + 1; omega) (.int .i64 (((pre.length : Nat) : Int) + 1))
        have hKt := KeepsOthers.setCell W ⟨w.heap.size + 1 + 1 + 1 + 1 + 1 + 1, 0, none⟩ (.int .i64 (((pre.length : Nat) : Int) + 1))
        have hHt := Held.setCell (n0 := w.heap.size) (B := w1.heap.size + 1 + 1) (Bx := Bs) (b := w.heap.size + 1 + 1 + 1 + 1 + 1 + 1) W (.int .i64 (((pre.length : Nat) : Int) + 1)) (by omega) (by omega) (by omega)
        rw [hW3] at t0 t1 t2 t3 t4 t5 t6 hBt hKt hHt
        have c0 := t0.cell 0
        have c1 := t1.cell 0
        have c2 := t2.cell 0
        have c3 := t3.cell 0
        have c4 := t4.cell 0
        have c5 := t5.cell 0
        have c6 := t6.cell 0
        have cf := t5.frozen 0
        simp only [List.getElem?_toArray, List.getElem?_cons_zero] at c0 c1 c2 c3 c4 c5
        simp only [List.setIfInBounds_toArray, List.set_cons_zero, List.getElem?_toArray, List.getElem?_cons_zero] at c6
        gi_wp2_with fail
        refine ⟨trivial, ?_⟩
        gi_wp2
        · refine ⟨(hKt.trans (KeepsOthers.setCell _ _ _)).from _, hHt.trans (Held.setCell (b := w.heap.size + 1 + 1 + 1 + 1 + 1) _ _ (by omega) (by omega) (by omega)), rfl, .inr (t5.set 0 (.bool true)), ⟨true, t5.set 0 (.bool true)⟩, hBt.setCell (p := ⟨w.heap.size + 1 + 1 + 1 + 1 + 1, 0, none⟩) (by show w.heap.size ≤ w.heap.size + 1 + 1 + 1 + 1 + 1; omega) _⟩
        · refine ⟨hKt.from _, hHt, ⟨t0, t1, t2, t3, t4, t5, ?_⟩, hBt⟩
          rw [hnl]
          exact t6
    · have hout := hid (hne.out (fun k => he (by cases k; exact ⟨rfl, rfl⟩)))
      have k1 := h1.cell 0
      have k2 := h2.cell 0
      have k5 := h5.cell 0
      have f5 := h5.frozen 0
      have k6 := h6.cell 0
      simp only [List.getElem?_toArray, List.getElem?_cons_zero] at k1 k2 k5 k6
      clear hne hnl
      by_cases hp : p = P0
      · have hcn : c ≠ C0 := fun k => he ⟨hp, k⟩
        subst hp
        have hc' : ((c : Int) != (C0 : Int)) = true := by simp; omega
        clear he
        gi_wp2
        all_goals (try (exfalso; exact undef_bool5 (by assumption)))
        exact ⟨(KeepsOthers.setCell _ _ _).from _, Held.setCell (b := w.heap.size + 1 + 1 + 1 + 1 + 1) _ _ (by omega) (by omega) (by omega), rfl, .inl hout.out, ⟨false, h5.set 0 (.bool false)⟩, hB.setCell (p := ⟨w.heap.size + 1 + 1 + 1 + 1 + 1, 0, none⟩) (by show w.heap.size ≤ w.heap.size + 1 + 1 + 1 + 1 + 1; omega) _⟩
      · have hp' : ((p : Int) != (P0 : Int)) = true := by simp; omega
        clear he
        gi_wp2
        all_goals (try (exfalso; exact undef_bool5 (by assumption)))
        exact ⟨(KeepsOthers.setCell _ _ _).from _, Held.setCell (b := w.heap.size + 1 + 1 + 1 + 1 + 1) _ _ (by omega) (by omega) (by omega), rfl, .inl hout.out, ⟨false, h5.set 0 (.bool false)⟩, hB.setCell (p := ⟨w.heap.size + 1 + 1 + 1 + 1 + 1, 0, none⟩) (by show w.heap.size ≤ w.heap.size + 1 + 1 + 1 + 1 + 1; omega) _⟩
  case done =>
    rintro D xs W hD rfl ⟨⟨h0, h1, h2, h3, h4, h5, h6⟩, hb⟩ hK
    rw [List.length_range, hN.out] at h6
    have c1 := h1.cell 0
    have c5 := h5.cell 0
    have c6 := h6.cell 0
    have f5 := h5.frozen 0
    simp only [List.getElem?_toArray, List.getElem?_cons_zero] at c1 c5 c6
    have hB2 := hb.setCell (p := ⟨w.heap.size + 1 + 1 + 1 + 1 + 1, 0, none⟩) (by show w.heap.size ≤ w.heap.size + 1 + 1 + 1 + 1 + 1; omega) (.bool true)
    have hK' : (W.setCell ⟨w.heap.size + 1 + 1 + 1 + 1 + 1, 0, none⟩ (.bool true)).heap[D]? = some (.deferred (some [])) := (Below.heap_setCell W ⟨w.heap.size + 1 + 1 + 1 + 1 + 1, 0, none⟩ _ D (by show D ≠ w.heap.size + 1 + 1 + 1 + 1 + 1; omega)).trans hK
    gi_wp2
    refine ⟨by simp, .inl ⟨_, _, rfl, run_takeDeferred hK', ?_⟩⟩
    have hc5 := cell_kept (World.cell?_setCell_same' W ⟨w.heap.size + 1 + 1 + 1 + 1 + 1, 0, none⟩ (.bool true) (by rw [c5]; rfl)) (grownBy_putObj' _ D (.deferred none)) (fun r e => by cases e; exact ⟨_, hK', rfl⟩)
    refine ⟨.bool true, ?_, rfl, hB2.trans (belowK_b (w := w) (Nat.le_refl _) _ D _ _ (by omega) hK' rfl rfl)⟩
    simp [results, Try.f16, go_sem, hc5]
  case stop =>
    rintro D c pre W hD ⟨k, hk, rfl⟩ ⟨rfl, hX, -, hb⟩ hK
    rcases hX with hX | hX
    · exact absurd ⟨k, by rw [← hN.out]; exact hk, rfl⟩ hX
    · have c5 := hX.cell 0
      simp only [List.getElem?_toArray, List.getElem?_cons_zero] at c5
      gi_wp2
      refine ⟨by simp, .inl ⟨_, _, rfl, run_takeDeferred hK, ?_⟩⟩
      have hc5 := cell_kept c5 (grownBy_putObj' _ D (.deferred none)) (fun r e => by cases e; exact ⟨_, hK, rfl⟩)
      refine ⟨.bool true, ?_, rfl, hb.trans (belowK_b (w := w) (Nat.le_refl _) _ D _ _ (by omega) hK rfl rfl)⟩
      simp [results, Try.f16, go_sem, hc5]

theorem toldU_calls (s : ByteArray) (hs : s.size < 9223372036854775807) (Bs N cap cap2 : Nat) (ao bo : Option Addr) (hN : Hid ((telOf s).length = N)) (hNs : N ≤ 9223372036854775000) (d : Nat) (hd : d ≤ 1000) : ∀ (left : Int) (w : World), At w Bs #[.string s] 9 → ListsAt w ao bo (telOf s) →
    Calls Try.prog 16 #[.func (.func 25) #[] #[.pointer (some ⟨Bs, 0, none⟩)], .slice ao N cap, .slice bo N cap2, .int .i64 left, .int .i64 (d : Int)] w fun e w' => e = .returned (.bool true) ∧ Below w.heap.size w w' := by
  induction d with
  | zero => exact fun left w h1 h2 => callsIn_wide.1 (toldU_in s hs Bs N cap cap2 ao bo left _ (by simp) w hN hNs h1 h2 (hid (fun h => by simp at h)))
  | succ d ih =>
    intro left w h1 h2
    refine callsIn_wide.1 (toldU_in s hs Bs N cap cap2 ao bo left _ (by omega) w hN hNs h1 h2 (hid (fun _ left' wx hb => ?_)))
    have h := ih (by omega) left' wx (h1.keptAll hb) (h2.kept hb)
    rw [show ((d + 1 : Nat) : Int) - 1 = (d : Int) by omega]
    exact h
end Go.Proofs.Ytkkmaakgacnfoaa
