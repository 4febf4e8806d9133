/-
  What pieces.Of, pieces.Formed and pieces.Join answer.
-/
import Derived.Test.YtdmmofdlokgfmaaDoorPieMath
import Derived.Test.YtdmmofdlokgfmaaDoorQuoB
import Derived.Lib.Strings
namespace Go.Proofs.YtdmmofdlokgfmaaDoor
open Go.RowKit Go.Shelf

/-- A text as a value. -/
def strV : Value → ByteArray | .string s => s | _ => ByteArray.empty
theorem tail_cut (s : ByteArray) (d : Nat) (h : d < s.size) : (s.extract d s.size).extract 1 (s.size - d) = s.extract (d + 1) s.size := by
  apply ByteArray.ext
  rw [ByteArray.data_extract, ByteArray.data_extract, ByteArray.data_extract, Array.extract_extract]
  congr 1
  · have : s.size = s.data.size := rfl
    omega
theorem whole_cut (s : ByteArray) : s.extract 0 s.size = s := by
  apply ByteArray.ext
  rw [ByteArray.data_extract]
  exact Array.extract_size
theorem cut_slash (s : ByteArray) (d : Nat) (h : d < s.size) (h0 : 0 < (s.extract d s.size).size) : slash s d = decide (((s.extract d s.size)[0]'h0).toNat = 92) := by
  rw [slash_at s d h]
  congr 2
  simp [ByteArray.getElem_extract]
theorem cut_quo (s : ByteArray) (d : Nat) (h : d < s.size) (h0 : 0 < (s.extract d s.size).size) : quoB s d = decide (((s.extract d s.size)[0]'h0).toNat = 34) := by
  rw [quoB_at s d h]
  congr 2
  simp [ByteArray.getElem_extract]

set_option maxRecDepth 10000 in
set_option maxHeartbeats 1000000 in
theorem trimB_calls (s : ByteArray) (L : Nat) (hL : Hid (Lead s L)) (T : ByteArray) (hT : Hid (s.extract L s.size = T)) (w : World) :
    Calls Tryd.prog 32 #[.string s, .int .u8 92] w fun e w' => e = .returned (.string T) ∧ w' = w := by
  go_enter Tryd.func32, Tryd.ntmps32
  go_wp2
  go_loop [0] (fun v => ∃ i : Nat, ∃ t, i ≤ L ∧ v = .string t ∧ Hid (s.extract i s.size = t)) (fun v => (strV v).size)
  case atStart => exact ⟨0, s, Nat.zero_le _, rfl, whole_cut s⟩
  case round =>
    obtain ⟨i, t, hi, rfl, ht⟩ := hrel
    have hz : Hid (t.size = s.size - i) := by show _ = _; rw [← ht.out, ByteArray.size_extract]; have := hL.out.1; omega
    by_cases h0 : i < s.size
    · have hp : 0 < t.size := by rw [hz.out]; omega
      have hpi : decide ((0 : Int) < (t.size : Int)) = true := by simp; omega
      have hc := cut_slash s i h0 (by rw [ht.out]; exact hp)
      simp only [ht.out] at hc
      obtain ⟨x, hx⟩ : ∃ x, t[0].toNat = x := ⟨_, rfl⟩
      rw [hx] at hc
      by_cases h92 : x = 92
      · subst h92
        have hiL : i < L := by
          rcases Nat.lt_or_ge i L with h | h
          · exact h
          · obtain rfl : i = L := by omega
            rw [hL.out.2.2] at hc
            simp at hc
        have hc' := hid hc
        clear hc
        go_wp2
        go_round
        case rel => exact ⟨i + 1, _, hiL, rfl, by show _ = _; rw [← tail_cut s i h0, ht.out, ← hz.out]⟩
        case measure => simp [strV]; omega
      · have hne : ((x : Int) == 92) = false := by simp; omega
        have hiL : i = L := by
          rcases Nat.lt_or_ge i L with h | h
          · rw [hL.out.2.1 i h, decide_eq_false h92] at hc; cases hc
          · omega
        have hc' := hid hc
        clear hc
        go_wp2
        go_ret
        exact ⟨by rw [← hT.out, ← hiL, ht.out]; rfl, rfl⟩
    · have hp : decide ((0 : Int) < (t.size : Int)) = false := decide_eq_false (by have := hz.out; omega)
      have ht0 : t.size = 0 := by have := hz.out; omega
      have hiL : i = L := by have : L ≤ s.size := hL.out.1; omega
      go_wp2
      go_ret
      exact ⟨by rw [← hT.out, ← hiL, ht.out]; rfl, rfl⟩

set_option maxRecDepth 10000 in
set_option maxHeartbeats 1000000 in
theorem trim_calls (s : ByteArray) (L : Nat) (hL : Hid (Lead s L)) (T : ByteArray) (hT : Hid (s.extract L s.size = T)) (w : World) :
    Calls Tryd.prog 24 #[.string s, .string ⟨#[92]⟩] w fun e w' => e = .returned (.string T) ∧ w' = w := by
  go_enter Tryd.func24, Tryd.ntmps24
  have hc := hid (trimB_calls s L hL T hT w)
  by_cases h0 : s = ⟨#[]⟩
  · subst h0
    have e : T = ⟨#[]⟩ := by rw [← hT.out]; apply ByteArray.ext; simp [ByteArray.data_extract]
    subst e
    clear hc hT hL
    go_wp2
    go_ret
    exact ⟨rfl, rfl⟩
  · have e0 : (s.toList == []) = false := by
      apply beq_eq_false_iff_ne.2
      intro hc
      apply h0
      apply ByteArray.ext
      apply Array.ext'
      have : s.data.toList = s.toList := (Lib.toList_data s).symm
      rw [this, hc]
    clear h0 hT hL
    go_wp2_with fail
    refine hc.out.mono ?_
    rintro e w1 ⟨rfl, rfl⟩
    go_wp2
    go_ret
    exact ⟨rfl, rfl⟩

theorem pre_eq (t : ByteArray) (h : 0 < t.size) : ((t.extract 0 1).toList == [34]) = quoB t 0 := by
  have e : (t.extract 0 1).toList = [t[0]'h] := by
    rw [Lib.extract_toList]
    have : t.data.toList = (t[0]'h) :: t.data.toList.drop 1 := by
      cases hc : t.data.toList with
      | nil =>
        have : t.data.size = 0 := by rw [← Array.length_toList, hc]; rfl
        have : t.size = 0 := this
        omega
      | cons u r =>
        have : t[0]'h = t.data[0]'h := rfl
        rw [this, ← Array.getElem_toList]
        simp [hc]
    rw [this]
    rfl
  rw [e, quoB_at t 0 h]
  by_cases hx : (t[0]'h).toNat = 34
  · have : t[0]'h = 34 := UInt8.toNat_inj.1 hx
    rw [this]; rfl
  · rw [decide_eq_false hx]
    apply beq_eq_false_iff_ne.2
    intro hc
    apply hx
    simp at hc
    rw [hc]; rfl
set_option maxRecDepth 10000 in
set_option maxHeartbeats 1000000 in
theorem hasPre_calls (t : ByteArray) (B : Bool) (hB : Hid (quoB t 0 = B)) (w : World) :
    Calls Tryd.prog 23 #[.string t, .string ⟨#[34]⟩] w fun e w' => e = .returned (.bool B) ∧ w' = w := by
  go_enter Tryd.func23, Tryd.ntmps23
  by_cases h0 : 0 < t.size
  · have e0 : decide ((1 : Int) ≤ (t.size : Int)) = true := by simp; omega
    have hpe := hid (pre_eq t h0)
    go_wp2
    go_ret
    refine ⟨?_, rfl⟩
    show Ending.returned (Value.bool ((t.extract 0 1).toList == [34])) = _
    rw [← hB.out, ← hpe.out]
  · have e0 : decide ((1 : Int) ≤ (t.size : Int)) = false := by simp; omega
    have hb := hid (quoB_out t 0 (by omega))
    go_wp2
    go_ret
    refine ⟨?_, rfl⟩
    rw [← hB.out, hb.out]
    rfl

set_option maxRecDepth 10000 in
theorem state_calls (s : ByteArray) (c : Bool) (hs : s.size ≤ 9223372036854775807) (X : Int) (hX : Hid (bi (behindS s c) = X)) (w : World) :
    Calls Tryd.prog 25 #[.string s, .bool c] w fun e w' => e = .returned (.int .i64 X) ∧ w' = w := by
  obtain ⟨B, hB⟩ : ∃ B, Hid (behindS s c = B) := ⟨_, rfl⟩
  have hc := hid (behind_calls s c B hs hB w)
  have hX2 : bi B = X := by rw [← hB.out]; exact hX.out
  clear hX hB hs
  go_enter Tryd.func25, Tryd.ntmps25
  go_wp2_with fail
  refine hc.out.mono ?_
  rintro e w1 ⟨rfl, rfl⟩
  cases B
  · obtain rfl : X = 0 := hX2.symm
    clear hc hX2
    go_wp2
    go_ret
    exact ⟨rfl, rfl⟩
  · obtain rfl : X = 1 := hX2.symm
    clear hc hX2
    go_wp2
    go_ret
    exact ⟨rfl, rfl⟩

theorem sizePt : (Tryd.prog.info? 33).map (·.size) = some 4 := by kernel_rfl
theorem ret_pt {fn : Func} {p : Tmp} {R : Ending → World → Prop} {a : Act} {w : World} {b : Nat} {x0 x1 x2 x3 : Value} (hres : fn.results = #[.cell p 33]) (hp : a.tmps.getD p undef = .pointer (some ⟨b, 0, none⟩))
    (h : At w b #[x0, x1, x2, x3] 33) (hd : a.defers = []) (hR : R (.returned (.agg #[x0, x1, x2, x3])) w) : bodyPost Tryd.prog fn R .ret a w :=
  bodyPost_ret (v := .agg #[x0, x1, x2, x3]) (results_cell_row (P := Tryd.prog) hres _ w b 33 #[x0, x1, x2, x3] (0, 0) _ hp h Tryd.underlying33 rfl sizePt) hd hR
theorem At.four9 {w : World} {b : Nat} {x0 x1 x2 x3 y0 y1 y2 y3 : Value} {t : TypeId} (h : At w b #[x0, x1, x2, x3] t) : At ((((w.setCell ⟨b, 0, none⟩ y0).setCell ⟨b, 1, none⟩ y1).setCell ⟨b, 2, none⟩ y2).setCell ⟨b, 3, none⟩ y3) b #[y0, y1, y2, y3] t := by
  have := (((h.set 0 y0).set 1 y1).set 2 y2).set 3 y3
  simpa using this
theorem At.facts9 {w : World} {b : Nat} {x0 x1 x2 x3 : Value} {t : TypeId} (h : At w b #[x0, x1, x2, x3] t) :
    (w.cell? ⟨b, 0, none⟩ = some x0 ∧ w.cell? ⟨b, 1, none⟩ = some x1 ∧ w.cell? ⟨b, 2, none⟩ = some x2 ∧ w.cell? ⟨b, 3, none⟩ = some x3) ∧ (w.frozen? ⟨b, 0, none⟩ = false ∧ w.frozen? ⟨b, 1, none⟩ = false ∧ w.frozen? ⟨b, 2, none⟩ = false ∧ w.frozen? ⟨b, 3, none⟩ = false) :=
  ⟨⟨h.cell 0, h.cell 1, h.cell 2, h.cell 3⟩, h.frozen 0, h.frozen 1, h.frozen 2, h.frozen 3⟩
theorem below_four {n : Nat} {w w' : World} {b : Nat} (h : Below n w w') (hb : n ≤ b) (y0 y1 y2 y3 : Value) : Below n w ((((w'.setCell ⟨b, 0, none⟩ y0).setCell ⟨b, 1, none⟩ y1).setCell ⟨b, 2, none⟩ y2).setCell ⟨b, 3, none⟩ y3) :=
  (((h.setCell (p := ⟨b, 0, none⟩) hb _).setCell (p := ⟨b, 1, none⟩) hb _).setCell (p := ⟨b, 2, none⟩) hb _).setCell (p := ⟨b, 3, none⟩) hb _

/-- What a piece does, as four letters. -/
def IsPt (s : ByteArray) (a b : Bool) (x y : Int) : Prop := oddC s false = a ∧ oddC s true = b ∧ bi (behindS s false) = x ∧ bi (behindS s true) = y
theorem isPt_ex (s : ByteArray) : ∃ a b x y, IsPt s a b x y := ⟨_, _, _, _, rfl, rfl, rfl, rfl⟩

set_option maxRecDepth 10000 in
set_option maxHeartbeats 1000000 in
theorem of_calls (s : ByteArray) (hs : s.size ≤ 562949953421312) (a b : Bool) (x y : Int) (h : Hid (IsPt s a b x y)) (w : World) (hT : Tab w) (h0 : 0 < w.heap.size) :
    Calls Tryd.prog 11 #[.string s] w fun e w' => e = .returned (.agg #[.bool a, .bool b, .int .i64 x, .int .i64 y]) ∧ Below w.heap.size w w' := by
  obtain ⟨L, hL⟩ := lead_ex s
  obtain ⟨T, hTe⟩ : ∃ T, Hid (s.extract L s.size = T) := ⟨_, rfl⟩
  obtain ⟨D, hD⟩ : ∃ D, Hid (quoB T 0 = D) := ⟨_, rfl⟩
  have hDq : Hid (quoB s L = D) := by
    show _ = _
    rw [← hD.out]
    have hz : T.size = s.size - L := by rw [← hTe.out, ByteArray.size_extract]; have := hL.1; omega
    by_cases hl : L < s.size
    · have := cut_quo s L hl (by rw [hTe.out]; omega)
      simp only [hTe.out] at this
      rw [this, quoB_at T 0 (by omega)]
    · rw [quoB_out s L (by omega), quoB_out T 0 (by omega)]
  have hab : Hid (b = (!(a == D))) := by
    show _ = _
    rw [← h.out.2.1, oddC_true s L hL, hDq.out, ← h.out.1, oddC_false]
    cases openS s <;> cases D <;> rfl
  have hO := hid (fun (w1 : World) (hb : Below w.heap.size w w1) => openQ_calls s hs a h.out.1 w1 (hT.below hb h0) (Nat.lt_of_lt_of_le h0 hb.size))
  have hTr := hid (fun (w1 : World) => trim_calls s L hL T hTe w1)
  have hHp := hid (fun (w1 : World) => hasPre_calls T D hD w1)
  have hS0 := hid (fun (w1 : World) => state_calls s false (by omega) x h.out.2.2.1 w1)
  have hS1 := hid (fun (w1 : World) => state_calls s true (by omega) y h.out.2.2.2 w1)
  clear hT h hL hTe hD hDq hs
  go_enter Tryd.func11, Tryd.ntmps11
  go_wp2_with fail
  refine Calls.mono (hO.out _ (by repeat (first | with_reducible exact Below.refl _ _ | with_reducible refine Below.setCell ?_ (by first | (simp; done) | (simp; omega)) _ | with_reducible refine below_drewN ?_ _ | with_reducible refine Below.alloc ?_ (by first | (simp; done) | (simp; omega)) _ | with_reducible refine Below.drew ?_))) ?_
  rintro e w1 ⟨rfl, hb1⟩
  have a1 := hid ((At.new w #[.bool false, .bool false, .int .i64 0, .int .i64 0] 33).keptAll hb1)
  have hB1 := hid (Below.trans (show Below w.heap.size w (w.alloc (.cells #[.bool false, .bool false, .int .i64 0, .int .i64 0] 33)) by repeat (first | with_reducible exact Below.refl _ _ | with_reducible refine Below.setCell ?_ (by first | (simp; done) | (simp; omega)) _ | with_reducible refine below_drewN ?_ _ | with_reducible refine Below.alloc ?_ (by first | (simp; done) | (simp; omega)) _ | with_reducible refine Below.drew ?_)) (hb1.mono (by simp)))
  clear hb1
  go_wp2_with fail
  refine Calls.mono (hTr.out _) ?_
  rintro e w2 ⟨rfl, rfl⟩
  go_wp2_with fail
  refine Calls.mono (hHp.out _) ?_
  rintro e w2 ⟨rfl, rfl⟩
  go_wp2_with fail
  refine Calls.mono (hS0.out _) ?_
  rintro e w2 ⟨rfl, rfl⟩
  go_wp2_with fail
  refine Calls.mono (hS1.out _) ?_
  rintro e w2 ⟨rfl, rfl⟩
  obtain ⟨⟨c0, c1, c2, c3⟩, f0, f1, f2, f3⟩ := a1.out.facts9
  clear hO hTr hHp hS0 hS1
  go_wp2
  refine ret_pt rfl rfl a1.out.four9 rfl ⟨?_, below_four hB1.out (Nat.le_refl _) _ _ _ _⟩
  rw [hab.out]
end Go.Proofs.YtdmmofdlokgfmaaDoor
