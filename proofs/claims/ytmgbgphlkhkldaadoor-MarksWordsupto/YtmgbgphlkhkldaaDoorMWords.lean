/-
  The walk of quarrylaw08.MarksWords.
-/
import Derived.Test.YtmgbgphlkhkldaaDoorRefWords
import Derived.Test.YtmgbgphlkhkldaaDoorMKinds
namespace Go.Proofs.YtmgbgphlkhkldaaDoor
open Go.RowKit Go.Shelf

theorem wrd_small : wrdS smB = [(10, 11), (12, 16)] := by decide +kernel
theorem len_small : (trT smB).length / 2 = 2 := by rw [← wrdS_len, wrd_small]; rfl
theorem ones_at {w : World} {g : Nat} (h : At w g #[.int .i64 10, .int .i64 11, .int .i64 12, .int .i64 16] 38) : SpansAt w (some ⟨g, 0, none⟩) (wrdS smB) := fun j P C hj => by
  rw [wrd_small] at hj
  refine ⟨g, rfl, h.lt, ?_, ?_⟩
  · rw [h.cell]
    match j, hj with
    | 0, hj => simp at hj; obtain ⟨rfl, rfl⟩ := hj; rfl
    | 1, hj => simp at hj; obtain ⟨rfl, rfl⟩ := hj; rfl
    | j + 2, hj => simp at hj
  · rw [h.cell]
    match j, hj with
    | 0, hj => simp at hj; obtain ⟨rfl, rfl⟩ := hj; rfl
    | 1, hj => simp at hj; obtain ⟨rfl, rfl⟩ := hj; rfl
    | j + 2, hj => simp at hj

set_option maxRecDepth 10000 in
set_option maxHeartbeats 4000000 in
theorem marksWords_walk (s : ByteArray) (hs : s.size ≤ 1048576) (left : Int) (hl : (Lit.int .i64 left).wf = true) (w : World) (hT : Tab w) (hM : TabM w) (h0 : 1 < w.heap.size) :
    Calls Tryd.prog 6 #[.string s, .int .i64 left] w fun e w' => e = .returned (.bool true) ∧ Below w.heap.size w w' := by
  have hnf : ∀ (f : Fn) (a b : Array Value) (w : World), Sem.run Tryd.prog (binOp BinOp.eql 35 (.func f a b) .nilFunc) w = .ok (.bool false) w := fun _ _ _ _ => by rfl
  have hTb := hid (fun (w1 : World) (hb : Below w.heap.size w w1) => (show Tab w1 from hT.below hb (by omega)))
  have hC := hid (words8_calls smB (by decide) w hT hM h0)
  have hS := hid (fun (w1 : World) (hb : Below w.heap.size w w1) => words8_calls s (by omega) w1 (hT.below hb (by omega)) (hM.below hb h0) (by have := hb.size; omega))
  have hl' := hid hl
  clear hT hM hl
  go_enter Tryd.func6, Tryd.ntmps6
  go_wp2_with fail
  refine Calls.mono hC.out ?_
  rintro e w1 ⟨Bl, g, cp, cur, rfl, hg, hP, hb1⟩
  have hP' := hid hP
  have hb1' := hid hb1
  have hsz1 := hb1.size
  clear hC hP hb1
  go_wp2_with fail
  obtain ⟨X, hX⟩ : ∃ X, X = w1.alloc (.cells #[.int .i64 10, .int .i64 11, .int .i64 12, .int .i64 16] 38) := ⟨_, rfl⟩
  have bX : Below w1.heap.size w1 X := by rw [hX]; repeat (first | with_reducible exact Below.refl _ _ | with_reducible refine Below.setCell ?_ (by first | (simp; done) | (simp; omega)) _ | with_reducible refine below_drewN ?_ _ | with_reducible refine Below.alloc ?_ (by first | (simp; done) | (simp; omega)) _ | with_reducible refine Below.drew ?_)
  have aX := hid (show At X w1.heap.size #[.int .i64 10, .int .i64 11, .int .i64 12, .int .i64 16] 38 by rw [hX]; exact At.new w1 _ _)
  have hBX : Below w.heap.size w X := hb1'.out.trans (bX.mono hsz1)
  have hPX := hid (hP'.out.kept bX)
  obtain ⟨b0, hb0⟩ : ∃ b0, Hid (w1.heap.size = b0) := ⟨_, rfl⟩
  rw [← hX]
  rw [hb0.out] at aX ⊢
  clear hX bX hP' hb1' hsz1 hb0
  refine Calls.mono (told8_calls smB (by decide) Bl g cp 2 2 cur (some ⟨b0, 0, none⟩) (by show _ = _; exact len_small) 1 (by decide) 0 (by decide) X hPX.out (hTb.out _ hBX) (by have := hBX.size; omega) (ones_at aX.out)) ?_
  rintro e w2 ⟨rfl, hb2⟩
  have hB2 := hBX.trans (hb2.mono hBX.size)
  have aX2 := hid (aX.out.keptAll hb2)
  have hP2 := hid (hPX.out.kept hb2)
  clear aX hPX hb2 hBX
  go_wp2_with fail
  refine Calls.mono (refWords_calls s hs w2) ?_
  rintro e w3 ⟨v3, rfl, hr3, hb3⟩
  obtain ⟨ao, cap, rfl, hL3⟩ := spans_list rfl (by rw [show spl (wrdS s) (wrdS s).length = (wrdS s).flatMap spc by unfold spl; rw [List.take_length]]; exact hr3)
  have hL3' := hid hL3
  have hB3 := hB2.trans (hb3.mono hB2.size)
  have aX3 := hid (aX2.out.keptAll hb3)
  have hP3 := hid (hP2.out.kept hb3)
  obtain ⟨N, hN⟩ : ∃ N, Hid ((trT s).length / 2 = N) := ⟨_, rfl⟩
  rw [wrdS_len, hN.out]
  clear aX2 hP2 hb3 hB2 hr3 hL3
  go_wp2_with fail
  refine Calls.mono (hS.out _ hB3) ?_
  rintro e w4 ⟨Bl4, g4, cp4, cur4, rfl, hg4, hP4, hb4⟩
  have hP4' := hid hP4
  have hB4 := hB3.trans (hb4.mono hB3.size)
  have aX4 := hid (aX3.out.keptAll hb4)
  have hQ4 := hid (hP3.out.kept hb4)
  have hL4 := hid (hL3'.out.kept rfl hb4)
  clear aX3 hP3 hL3' hb4 hB3 hP4 hS
  go_wp2_with fail
  refine Calls.mono (told8_calls s (by omega) Bl4 g4 cp4 N cap cur4 ao hN 1 (by decide) left hl'.out w4 hP4'.out (hTb.out _ hB4) (by have := hB4.size; omega) hL4.out) ?_
  rintro e w5 ⟨rfl, hb5⟩
  have hB5 := hB4.trans (hb5.mono hB4.size)
  have aX5 := hid (aX4.out.keptAll hb5)
  have hQ5 := hid (hQ4.out.kept hb5)
  have hP5 := hid (hP4'.out.kept hb5)
  have hL5 := hid (hL4.out.kept rfl hb5)
  clear aX4 hQ4 hP4' hL4 hb5 hB4
  go_wp2_with fail
  refine Calls.mono (told8_calls s (by omega) Bl4 g4 cp4 N cap cur4 ao hN 0 (by decide) 0 (by decide) w5 hP5.out (hTb.out _ hB5) (by have := hB5.size; omega) hL5.out) ?_
  rintro e w6 ⟨rfl, hb6⟩
  have hB6 := hB5.trans (hb6.mono hB5.size)
  have aX6 := hid (aX5.out.keptAll hb6)
  have hQ6 := hid (hQ5.out.kept hb6)
  have hP6 := hid (hP5.out.kept hb6)
  have hL6 := hid (hL5.out.kept rfl hb6)
  clear aX5 hQ5 hP5 hL5 hb6 hB5
  go_wp2_with fail
  refine Calls.mono (told8_calls smB (by decide) Bl g cp 2 2 cur (some ⟨b0, 0, none⟩) (by show _ = _; exact len_small) 0 (by decide) 1 (by decide) w6 hQ6.out (hTb.out _ hB6) (by have := hB6.size; omega) (ones_at aX6.out)) ?_
  rintro e w7 ⟨rfl, hb7⟩
  have hB7 := hB6.trans (hb7.mono hB6.size)
  have hP7 := hid (hP6.out.kept hb7)
  have hL7 := hid (hL6.out.kept rfl hb7)
  clear aX6 hQ6 hP6 hL6 hb7 hB6
  go_wp2_with fail
  refine Calls.mono (told8_calls s (by omega) Bl4 g4 cp4 N cap cur4 ao hN 2 (by decide) 3 (by decide) w7 hP7.out (hTb.out _ hB7) (by have := hB7.size; omega) hL7.out) ?_
  rintro e w8 ⟨rfl, hb8⟩
  have hB8 := hB7.trans (hb8.mono hB7.size)
  clear hP7 hL7 hb8 hB7
  go_wp2
  go_ret
  exact ⟨rfl, hB8⟩
end Go.Proofs.YtmgbgphlkhkldaaDoor
