/-
  What decimal.scan answers.
-/
import Derived.Test.YtheeonlfbnkhgaaDoorDecForm
import Derived.Test.YtheeonlfbnkhgaaDoorScopeKit
import Derived.Deep.DeepCutAuto
namespace Go.Proofs.YtheeonlfbnkhgaaDoor
open Go.RowKit Go.Shelf

theorem look_calls (s : ByteArray) (i : Nat) (I : Int) (hI : I = (i : Int)) (x : Nat) (hx : Hid (lk s i = x)) (w : World) :
    Calls Tryd.prog 50 #[.string s, .int .i64 I] w fun e w' => e = .returned (.int .u8 (x : Int)) ∧ w' = w := by
  subst hI
  go_enter Tryd.func50, Tryd.ntmps50
  by_cases hi : i < s.size
  · have e0 : decide ((i : Int) < (s.size : Int)) = true := by simp; omega
    have hiI : (i : Int) < (s.size : Int) := by omega
    obtain ⟨y, hy⟩ : ∃ y, s[i].toNat = y := ⟨_, rfl⟩
    have hb : y = x := by rw [← hx.out, lk_at s i hi, hy]
    clear hx
    go_wp2
    go_ret
    exact ⟨by first | rfl | (rw [← hb]; rfl) | (subst hb; rfl), rfl⟩
  · have e0 : decide ((i : Int) < (s.size : Int)) = false := by simp; omega
    have hb : x = 0 := by rw [← hx.out, lk_out s i (by omega)]
    subst hb
    clear hx
    go_wp2
    go_ret
    exact ⟨rfl, rfl⟩

/-- The parts as a value. -/
def numV (n : Num) : Value := .agg #[.bool n.neg, .string n.wh, .string n.be, .bool n.dn, .string n.pw]
def noNum : Num := ⟨false, ⟨#[]⟩, ⟨#[]⟩, false, ⟨#[]⟩⟩
/-- What scan answers. -/
def scV (s : ByteArray) (p : Nat) : Value := match scanS s p with
  | (none, e) => .tuple #[numV noNum, .int .i64 (e : Int), .bool false]
  | (some n, e) => .tuple #[numV n, .int .i64 (e : Int), .bool true]
theorem scV_none {s : ByteArray} {p e : Nat} (h : scanS s p = (none, e)) : scV s p = .tuple #[numV noNum, .int .i64 (e : Int), .bool false] := by rw [scV, h]
theorem scV_some {s : ByteArray} {p e : Nat} {n : Num} (h : scanS s p = (some n, e)) : scV s p = .tuple #[numV n, .int .i64 (e : Int), .bool true] := by rw [scV, h]

theorem sizePs : (Tryd.prog.info? 67).map (·.size) = some 5 := by kernel_rfl
theorem load_ps {w : World} {b : Nat} {x0 x1 x2 x3 x4 : Value} (h : At w b #[x0, x1, x2, x3, x4] 67) : (loadVar 67 ⟨b, 0, none⟩).run Tryd.prog w = .ok (.agg #[x0, x1, x2, x3, x4]) w :=
  run_loadVar_row (P := Tryd.prog) w b 67 67 #[x0, x1, x2, x3, x4] (0, 0) _ h Tryd.underlying67 rfl sizePs
theorem ret_ps {fn : Func} {p u v : Tmp} {R : Ending → World → Prop} {a : Act} {w : World} {b : Nat} {x0 x1 x2 x3 x4 : Value} (hres : fn.results = #[.cell p 67, .tmp u, .tmp v]) (hp : a.tmps.getD p undef = .pointer (some ⟨b, 0, none⟩))
    (h : At w b #[x0, x1, x2, x3, x4] 67) (hd : a.defers = []) (hR : R (.returned (.tuple #[.agg #[x0, x1, x2, x3, x4], a.tmps.getD u undef, a.tmps.getD v undef])) w) : bodyPost Tryd.prog fn R .ret a w := by
  refine bodyPost_ret (v := .tuple #[.agg #[x0, x1, x2, x3, x4], a.tmps.getD u undef, a.tmps.getD v undef]) ?_ hd hR
  rw [results_ctt hres, hp]
  simp [asAddr, load_ps h]
theorem At.five {w : World} {b : Nat} {x0 x1 x2 x3 x4 y0 y1 y2 y3 y4 : Value} {t : TypeId} (h : At w b #[x0, x1, x2, x3, x4] t) : At (((((w.setCell ⟨b, 0, none⟩ y0).setCell ⟨b, 1, none⟩ y1).setCell ⟨b, 2, none⟩ y2).setCell ⟨b, 3, none⟩ y3).setCell ⟨b, 4, none⟩ y4) b #[y0, y1, y2, y3, y4] t := by
  have := ((((h.set 0 y0).set 1 y1).set 2 y2).set 3 y3).set 4 y4
  simpa using this
/-- The parts in their block. -/
def Pt (w0 : World) (b : Nat) (n : Bool) (t1 t2 : ByteArray) (d : Bool) (t3 : ByteArray) (w : World) : Prop := w0.heap.size ≤ b ∧ At w b #[.bool n, .string t1, .string t2, .bool d, .string t3] 67 ∧ Below w0.heap.size w0 w
section
variable {w0 : World} {b : Nat} {n : Bool} {t1 t2 : ByteArray} {d : Bool} {t3 : ByteArray} {w : World}
theorem Pt.facts (h : Pt w0 b n t1 t2 d t3 w) : (w.cell? ⟨b, 0, none⟩ = some (.bool n) ∧ w.cell? ⟨b, 1, none⟩ = some (.string t1) ∧ w.cell? ⟨b, 2, none⟩ = some (.string t2) ∧ w.cell? ⟨b, 3, none⟩ = some (.bool d) ∧ w.cell? ⟨b, 4, none⟩ = some (.string t3)) ∧
    (w.frozen? ⟨b, 0, none⟩ = false ∧ w.frozen? ⟨b, 1, none⟩ = false ∧ w.frozen? ⟨b, 2, none⟩ = false ∧ w.frozen? ⟨b, 3, none⟩ = false ∧ w.frozen? ⟨b, 4, none⟩ = false) :=
  ⟨⟨h.2.1.cell 0, h.2.1.cell 1, h.2.1.cell 2, h.2.1.cell 3, h.2.1.cell 4⟩, h.2.1.frozen 0, h.2.1.frozen 1, h.2.1.frozen 2, h.2.1.frozen 3, h.2.1.frozen 4⟩
theorem Pt.set0 (h : Pt w0 b n t1 t2 d t3 w) (n' : Bool) : Pt w0 b n' t1 t2 d t3 (w.setCell ⟨b, 0, none⟩ (.bool n')) := ⟨h.1, by have := h.2.1.set 0 (.bool n'); simpa using this, h.2.2.setCell h.1 _⟩
theorem Pt.set1 (h : Pt w0 b n t1 t2 d t3 w) (t' : ByteArray) : Pt w0 b n t' t2 d t3 (w.setCell ⟨b, 1, none⟩ (.string t')) := ⟨h.1, by have := h.2.1.set 1 (.string t'); simpa using this, h.2.2.setCell h.1 _⟩
theorem Pt.set2 (h : Pt w0 b n t1 t2 d t3 w) (t' : ByteArray) : Pt w0 b n t1 t' d t3 (w.setCell ⟨b, 2, none⟩ (.string t')) := ⟨h.1, by have := h.2.1.set 2 (.string t'); simpa using this, h.2.2.setCell h.1 _⟩
theorem Pt.set3 (h : Pt w0 b n t1 t2 d t3 w) (d' : Bool) : Pt w0 b n t1 t2 d' t3 (w.setCell ⟨b, 3, none⟩ (.bool d')) := ⟨h.1, by have := h.2.1.set 3 (.bool d'); simpa using this, h.2.2.setCell h.1 _⟩
theorem Pt.set4 (h : Pt w0 b n t1 t2 d t3 w) (t' : ByteArray) : Pt w0 b n t1 t2 d t' (w.setCell ⟨b, 4, none⟩ (.string t')) := ⟨h.1, by have := h.2.1.set 4 (.string t'); simpa using this, h.2.2.setCell h.1 _⟩
theorem Pt.all (h : Pt w0 b n t1 t2 d t3 w) (n' : Bool) (t1' t2' : ByteArray) (d' : Bool) (t3' : ByteArray) : Pt w0 b n' t1' t2' d' t3' (((((w.setCell ⟨b, 0, none⟩ (.bool n')).setCell ⟨b, 1, none⟩ (.string t1')).setCell ⟨b, 2, none⟩ (.string t2')).setCell ⟨b, 3, none⟩ (.bool d')).setCell ⟨b, 4, none⟩ (.string t3')) :=
  ⟨h.1, h.2.1.five, ((((h.2.2.setCell (p := ⟨b, 0, none⟩) h.1 _).setCell (p := ⟨b, 1, none⟩) h.1 _).setCell (p := ⟨b, 2, none⟩) h.1 _).setCell (p := ⟨b, 3, none⟩) h.1 _).setCell (p := ⟨b, 4, none⟩) h.1 _⟩
end

/-! What holds at the labels. -/
section
variable (s : ByteArray) (p b : Nat) (w0 : World)
def K2 (e f : Nat) (w : World) : Prop := f = scA s p ∧ f ≤ e ∧ e < rn s f ∧ lk s f ≠ 48 ∧ Pt w0 b (scNeg s p) ⟨#[]⟩ ⟨#[]⟩ false ⟨#[]⟩ w
def K0 (e f : Nat) (w : World) : Prop := f = scA s p ∧ e = scB s p ∧ dgB (lk s f) = true ∧ Pt w0 b (scNeg s p) ⟨#[]⟩ ⟨#[]⟩ false ⟨#[]⟩ w
def K4 (e f : Nat) (w : World) : Prop := f = scB s p + 1 ∧ f ≤ e ∧ e < rn s f ∧ lk s (scB s p) = 46 ∧ dgB (lk s (scA s p)) = true ∧ Pt w0 b (scNeg s p) (s.extract (scA s p) (scB s p)) ⟨#[]⟩ false ⟨#[]⟩ w
def K3 (e : Nat) (w : World) : Prop := e = scC s p ∧ dgB (lk s (scA s p)) = true ∧ ¬ (lk s (scB s p) = 46 ∧ dgB (lk s (scB s p + 1)) = false) ∧ Pt w0 b (scNeg s p) (s.extract (scA s p) (scB s p)) (scBe s p) false ⟨#[]⟩ w
def K5 (e f : Nat) (w : World) : Prop := f = scF s p ∧ f ≤ e ∧ e < rn s f ∧ scX s p = true ∧ dgB (lk s (scA s p)) = true ∧ ¬ (lk s (scB s p) = 46 ∧ dgB (lk s (scB s p + 1)) = false) ∧ Pt w0 b (scNeg s p) (s.extract (scA s p) (scB s p)) (scBe s p) (scDn s p) ⟨#[]⟩ w
def K1 (e : Nat) (w : World) : Prop := scanS s p = (none, e) ∧ ∃ n t1 t2 d t3, Pt w0 b n t1 t2 d t3 w
def KJ (l e f : Nat) (w : World) : Prop := (l = 2 ∧ K2 s p b w0 e f w) ∨ (l = 0 ∧ K0 s p b w0 e f w) ∨ (l = 4 ∧ K4 s p b w0 e f w) ∨ (l = 3 ∧ K3 s p b w0 e w) ∨ (l = 5 ∧ K5 s p b w0 e f w) ∨ (l = 1 ∧ K1 s p b w0 e w)
/-- A frame: what lies in the slots that are read again. -/
def frS (E F : Int) (G : Nat → Value) : Array Value := #[.string s, G 1, G 2, G 3, .pointer (some ⟨b, 0, none⟩), .int .i64 E, G 6, .int .i64 F, G 8, G 9, G 10, G 11, G 12, G 13, G 14, G 15, G 16, G 17, G 18, G 19, G 20, G 21, G 22, G 23, G 24, G 25, G 26, G 27, G 28, G 29, G 30, G 31, G 32, G 33, G 34, G 35, G 36, G 37, G 38, G 39, G 40, G 41, G 42, G 43, G 44, G 45, G 46, G 47, G 48, G 49, G 50, G 51, G 52, G 53, G 54, G 55, G 56, G 57, G 58, G 59, G 60, G 61, G 62, G 63, G 64, G 65, G 66, G 67, G 68, G 69, G 70, G 71, G 72, G 73, G 74, G 75, G 76, G 77, G 78, G 79, G 80, G 81, G 82, G 83, G 84, G 85, G 86, G 87, G 88, G 89, G 90, G 91, G 92, G 93, G 94, G 95, G 96, G 97, G 98, G 99, G 100, G 101, G 102, G 103, G 104, G 105, G 106, G 107, G 108, G 109, G 110, G 111]
def ScJ (l : Nat) (a : Act) (w : World) : Prop := ∃ (e f : Nat) (E F : Int) (G : Nat → Value), a = ⟨frS s b E F G, []⟩ ∧ E = (e : Int) ∧ F = (f : Int) ∧ KJ s p b w0 l e f w
theorem ScJ.of {l : Nat} {w : World} (A : Array Value) (e f : Nat) (E F : Int) (h : A = frS s b E F (fun i => A.getD i undef)) (he : E = (e : Int)) (hf : F = (f : Int)) (hK : KJ s p b w0 l e f w) : ScJ s p b w0 l ⟨A, []⟩ w :=
  ⟨e, f, E, F, _, by rw [← h], he, hf, hK⟩
theorem ScJ.label {l : Nat} {a : Act} {w : World} (h : ScJ s p b w0 l a w) : l = 2 ∨ l = 0 ∨ l = 4 ∨ l = 3 ∨ l = 5 ∨ l = 1 := by
  obtain ⟨e, f, E, F, G, -, -, -, hK⟩ := h
  rcases hK with ⟨h, -⟩ | ⟨h, -⟩ | ⟨h, -⟩ | ⟨h, -⟩ | ⟨h, -⟩ | ⟨h, -⟩
  · exact .inl h
  · exact .inr (.inl h)
  · exact .inr (.inr (.inl h))
  · exact .inr (.inr (.inr (.inl h)))
  · exact .inr (.inr (.inr (.inr (.inl h))))
  · exact .inr (.inr (.inr (.inr (.inr h))))
end
def rank (l : Nat) : Nat := if l = 2 then 6 else if l = 0 then 5 else if l = 4 then 4 else if l = 3 then 3 else if l = 5 then 2 else 1
def scMu (S : Nat) (l : Nat) (a : Act) (_ : World) : Nat := rank l * (S + 2) + (S + 1 - (intOf (a.tmps.getD 5 undef)).toNat)
theorem mu_lt (S : Nat) {l l' : Nat} (a a' : Act) (w w' : World) (h : rank l' < rank l) : scMu S l' a' w' < scMu S l a w := by
  unfold scMu
  have h1 : rank l' * (S + 2) + (S + 2) ≤ rank l * (S + 2) := by
    have : (rank l' + 1) * (S + 2) ≤ rank l * (S + 2) := Nat.mul_le_mul_right _ h
    rw [Nat.add_mul, Nat.one_mul] at this
    exact this
  omega
theorem mu_same (S : Nat) (l : Nat) {a a' : Act} {w w' : World} {e e' : Nat} (h : a.tmps.getD 5 undef = .int .i64 (e : Int)) (h' : a'.tmps.getD 5 undef = .int .i64 (e' : Int)) (hlt : e < e') (hS : e ≤ S) : scMu S l a' w' < scMu S l a w := by
  unfold scMu
  rw [h, h']
  simp only [intOf]
  omega
theorem scA_le (s : ByteArray) (p : Nat) (h : p ≤ s.size) : scA s p ≤ s.size := by
  unfold scA
  split
  · rename_i h1
    have := lk_in (s := s) (i := p) (by omega)
    omega
  · exact h
theorem scB_le (s : ByteArray) (p : Nat) (h : p ≤ s.size) : scB s p ≤ s.size := by
  unfold scB
  split
  · rename_i h1
    have := lk_in (s := s) (i := scA s p) (by omega)
    omega
  · exact rn_le s _ (scA_le s p h)
theorem scA_B (s : ByteArray) (p : Nat) : scA s p ≤ scB s p := by
  unfold scB
  split
  · omega
  · exact rn_ge s _
theorem scC_le (s : ByteArray) (p : Nat) (h : p ≤ s.size) : scC s p ≤ s.size := by
  unfold scC
  split
  · rename_i h1
    have := lk_in (s := s) (i := scB s p) (by omega)
    exact rn_le s _ (by omega)
  · exact scB_le s p h
theorem scF_le (s : ByteArray) (p : Nat) (h : scX s p = true) : scF s p ≤ s.size := by
  have h0 : lk s (scC s p) = 101 ∨ lk s (scC s p) = 69 := by simpa [scX] using h
  have h1 := lk_in (s := s) (i := scC s p) (by omega)
  unfold scF
  split
  · rename_i h2
    have := lk_in (s := s) (i := scC s p + 1) (by omega)
    omega
  · omega


set_option linter.unusedSimpArgs false in
set_option maxRecDepth 20000 in
set_option maxHeartbeats 8000000 in
theorem scan_calls (s : ByteArray) (p : Nat) (hs : s.size ≤ 4611686018427387904) (hp : p ≤ s.size) (w : World) :
    Calls Tryd.prog 39 #[.string s, .int .i64 (p : Int)] w fun e w' => e = .returned (scV s p) ∧ Below w.heap.size w w' := by
  have hpS := hid hp
  go_enter Tryd.func39, Tryd.ntmps39
  go_wp2
  have P0 := hid (show Pt w w.heap.size false ⟨#[]⟩ ⟨#[]⟩ false ⟨#[]⟩ (w.alloc (.cells #[.bool false, .string ⟨#[]⟩, .string ⟨#[]⟩, .bool false, .string ⟨#[]⟩] 67)) from ⟨Nat.le_refl _, At.new w _ _, by repeat (first | with_reducible exact Below.refl _ _ | with_reducible refine Below.setCell ?_ (by first | (simp; done) | (simp; omega)) _ | with_reducible refine below_drewN ?_ _ | with_reducible refine Below.alloc ?_ (by first | (simp; done) | (simp; omega)) _ | with_reducible refine Below.drew ?_)⟩)
  obtain ⟨b, hb⟩ : ∃ b, w.heap.size = b := ⟨_, rfl⟩
  rw [hb] at P0 ⊢
  generalize w.alloc (.cells #[.bool false, .string ⟨#[]⟩, .string ⟨#[]⟩, .bool false, .string ⟨#[]⟩] 67) = w1 at P0 ⊢
  refine scope_codes (ScJ s p b w) (scMu s.size) ?_ ?_ ?_
  · intro l a' w' hJ
    rcases hJ.label with rfl | rfl | rfl | rfl | rfl | rfl <;> kernel_rfl
  · rintro l a' w' ⟨e, f, E, F, G, rfl, rfl, rfl, hK⟩ ih
    have ih' := hid ih
    clear ih P0 hp
    rcases hK with ⟨rfl, hK⟩ | ⟨rfl, hK⟩ | ⟨rfl, hK⟩ | ⟨rfl, hK⟩ | ⟨rfl, hK⟩ | ⟨rfl, hK⟩
    · simp only [codeOf, findLabel, Nat.reduceBEq, Bool.false_eq_true, if_false, if_true, frS]
      obtain ⟨hf, hle, hlt, h48, hP⟩ := hK
      have hes : e < s.size := Nat.lt_of_lt_of_le hlt (rn_le s f (by rw [hf]; exact scA_le s p hpS.out))
      obtain ⟨x, hx⟩ : ∃ x, Hid (lk s (e + 1) = x) := ⟨_, rfl⟩
      obtain ⟨B, hB⟩ : ∃ B, Hid (dgB x = B) := ⟨_, rfl⟩
      have k_hf := hid hf
      have k_hle := hid hle
      have k_hlt := hid hlt
      have k_h48 := hid h48
      have k_hP := hid hP
      clear hP h48 hlt hle hf
      go_wp2_with fail
      refine Calls.mono (look_calls s (e + 1) _ (by omega) x hx _) ?_
      rintro e' w2 ⟨rfl, rfl⟩
      go_wp2_with fail
      refine Calls.mono (digitD_calls x B hB _) ?_
      rintro e' w3 ⟨rfl, rfl⟩
      cases B with
      | true =>
        go_wp2
        go_step3
        have h6 : e + 1 < rn s f := by
          rcases Nat.lt_or_ge (e + 1) (rn s f) with h | h
          · exact h
          · have h7 := k_hlt.out
            have h8 : e + 1 = rn s f := by omega
            have h9 := rn_end s f
            rw [← h8, hx.out, hB.out] at h9
            cases h9
        refine ⟨ScJ.of s p b w _ (e + 1) f _ _ rfl (by omega) rfl (.inl ⟨rfl, k_hf.out, by have h1 := k_hle.out; omega, h6, k_h48.out, k_hP.out⟩), ?_⟩
        exact mu_same _ _ rfl (e' := e + 1) rfl (by omega) (by omega)
      | false =>
        have h8 := hid (show rn s f = e + 1 by
          rcases Nat.lt_or_ge (e + 1) (rn s f) with h | h
          · have h9 := rn_dig s f (e + 1) (by have := k_hle.out; omega) h
            rw [hx.out, hB.out] at h9
            cases h9
          · have h7 := k_hlt.out
            omega)
        have hdf := hid (show dgB (lk s f) = true from rn_dig s f f (Nat.le_refl _) (by have h1 := k_hle.out; have h2 := k_hlt.out; omega))
        go_wp2
        go_step3
        rename_i KK hKK
        refine hKK _ _ (ih'.out 0 _ _ ?_ (mu_lt _ _ _ _ _ (by decide)))
        refine ScJ.of s p b w _ (e + 1) f _ _ rfl (by omega) rfl (.inr (.inl ⟨rfl, k_hf.out, ?_, hdf.out, k_hP.out⟩))
        rw [scB, ← k_hf.out, if_neg k_h48.out, h8.out]
    · simp only [codeOf, findLabel, Nat.reduceBEq, Bool.false_eq_true, if_false, if_true, frS]
      obtain ⟨hf, he, hd, hP⟩ := hK
      have hfe : f ≤ e := by rw [hf, he]; exact scA_B s p
      have hes : e ≤ s.size := by rw [he]; exact scB_le s p hpS.out
      obtain ⟨⟨c0, c1, c2, c3, c4⟩, f0, f1, f2, f3, f4⟩ := hP.facts
      obtain ⟨x, hx⟩ : ∃ x, Hid (lk s e = x) := ⟨_, rfl⟩
      have hPs := hid (hP.set1 (s.extract f e))
      have k1 := hid hf
      have k2 := hid he
      have k3 := hid hd
      have hex := hid (show s.extract f e = s.extract (scA s p) (scB s p) by rw [hf, he])
      clear hf he hd hP
      go_wp2_with fail
      refine Calls.mono (look_calls s (e) _ (by omega) x hx _) ?_
      rintro e' w2 ⟨rfl, rfl⟩
      clear c0 c1 c2 c3 c4 f0 f1 f2 f3 f4
      by_cases h46 : x = 46
      · have e1 : ((x : Int) != 46) = false := by simp [h46]
        obtain ⟨y, hy⟩ : ∃ y, Hid (lk s (e + 1) = y) := ⟨_, rfl⟩
        obtain ⟨B, hB⟩ : ∃ B, Hid (dgB y = B) := ⟨_, rfl⟩
        have hpt := hid (show lk s (scB s p) = 46 by rw [← k2.out, hx.out, h46])
        have hpl := lk_in (s := s) (i := e) (by rw [hx.out]; omega)
        have h46' := hid h46
        clear h46
        go_wp2_with fail
        refine Calls.mono (look_calls s (e + 1) _ (by omega) y hy _) ?_
        rintro e' w3 ⟨rfl, rfl⟩
        go_wp2_with fail
        refine Calls.mono (digitD_calls y B hB _) ?_
        rintro e' w4 ⟨rfl, rfl⟩
        cases B with
        | false =>
          go_wp2
          go_step3
          refine ⟨ScJ.of s p b w _ (e + 1) (e + 1) _ _ rfl (by omega) (by omega) (.inr (.inr (.inr (.inr (.inr ⟨rfl, ?_, _, _, _, _, _, hPs.out⟩))))), mu_lt _ _ _ _ _ (by decide)⟩
          have h1 : dgB (lk s (scB s p + 1)) = false := by rw [← k2.out, hy.out, hB.out]
          rw [scanS, if_neg (by rw [← k1.out, k3.out]; decide), if_pos ⟨hpt.out, h1⟩, k2.out]
        | true =>
          go_wp2
          go_step3
          rename_i KK hKK
          refine hKK _ _ (ih'.out 4 _ _ ?_ (mu_lt _ _ _ _ _ (by decide)))
          refine ScJ.of s p b w _ (e + 1) (e + 1) _ _ rfl (by omega) (by omega) (.inr (.inr (.inl ⟨rfl, by rw [k2.out], Nat.le_refl _, rn_lt s _ (by rw [hy.out, hB.out]), hpt.out, by rw [← k1.out, k3.out], ?_⟩)))
          rw [← hex.out]
          exact hPs.out
      · have e1 : ((x : Int) != 46) = true := by simp; omega
        go_wp2
        go_step3
        have h1 : lk s (scB s p) ≠ 46 := by rw [← k2.out, hx.out]; exact h46
        refine ⟨ScJ.of s p b w _ e f _ _ rfl rfl rfl (.inr (.inr (.inr (.inl ⟨rfl, ?_, by rw [← k1.out, k3.out], fun h => h1 h.1, ?_⟩)))), mu_lt _ _ _ _ _ (by decide)⟩
        · rw [scC, if_neg h1, k2.out]
        · have h2 : scBe s p = ⟨#[]⟩ := by rw [scBe, if_neg h1]
          rw [← hex.out, h2]
          exact hPs.out
    · simp only [codeOf, findLabel, Nat.reduceBEq, Bool.false_eq_true, if_false, if_true, frS]
      obtain ⟨hf, hle, hlt, h46, hd, hP⟩ := hK
      have hes : e < s.size := Nat.lt_of_lt_of_le hlt (rn_le s f (by rw [hf]; have := lk_in (s := s) (i := scB s p) (by omega); omega))
      obtain ⟨x, hx⟩ : ∃ x, Hid (lk s (e + 1) = x) := ⟨_, rfl⟩
      obtain ⟨B, hB⟩ : ∃ B, Hid (dgB x = B) := ⟨_, rfl⟩
      have k_hf := hid hf
      have k_hle := hid hle
      have k_hlt := hid hlt
      have k_h46 := hid h46
      have k_hd := hid hd
      have k_hP := hid hP
      clear hP hd h46 hlt hle hf
      go_wp2_with fail
      refine Calls.mono (look_calls s (e + 1) _ (by omega) x hx _) ?_
      rintro e' w2 ⟨rfl, rfl⟩
      go_wp2_with fail
      refine Calls.mono (digitD_calls x B hB _) ?_
      rintro e' w3 ⟨rfl, rfl⟩
      cases B with
      | true =>
        go_wp2
        go_step3
        have h6 : e + 1 < rn s f := by
          rcases Nat.lt_or_ge (e + 1) (rn s f) with h | h
          · exact h
          · have h7 := k_hlt.out
            have h8 : e + 1 = rn s f := by omega
            have h9 := rn_end s f
            rw [← h8, hx.out, hB.out] at h9
            cases h9
        refine ⟨ScJ.of s p b w _ (e + 1) f _ _ rfl (by omega) rfl (.inr (.inr (.inl ⟨rfl, k_hf.out, by have h1 := k_hle.out; omega, h6, k_h46.out, k_hd.out, k_hP.out⟩))), ?_⟩
        exact mu_same _ _ rfl (e' := e + 1) rfl (by omega) (by omega)
      | false =>
        have h8 := hid (show rn s f = e + 1 by
          rcases Nat.lt_or_ge (e + 1) (rn s f) with h | h
          · have h9 := rn_dig s f (e + 1) (by have := k_hle.out; omega) h
            rw [hx.out, hB.out] at h9
            cases h9
          · have h7 := k_hlt.out
            omega)
        have hdf := hid (show dgB (lk s f) = true from rn_dig s f f (Nat.le_refl _) (by have h1 := k_hle.out; have h2 := k_hlt.out; omega))
        obtain ⟨⟨c0, c1, c2, c3, c4⟩, f0, f1, f2, f3, f4⟩ := k_hP.out.facts
        have hfe : f ≤ e + 1 := by have h1 := k_hle.out; omega
        have hPs := hid (k_hP.out.set2 (s.extract f (e + 1)))
        have hscC := hid (show scC s p = e + 1 by rw [scC, if_pos k_h46.out, ← k_hf.out, h8.out])
        go_wp2
        go_step3
        rename_i KK hKK
        refine hKK _ _ (ih'.out 3 _ _ ?_ (mu_lt _ _ _ _ _ (by decide)))
        refine ScJ.of s p b w _ (e + 1) f _ _ rfl (by omega) rfl (.inr (.inr (.inr (.inl ⟨rfl, hscC.out.symm, k_hd.out, ?_, ?_⟩))))
        · rw [← k_hf.out]
          intro h
          rw [hdf.out] at h
          exact Bool.noConfusion h.2
        · have h2 : scBe s p = s.extract f (e + 1) := by rw [scBe, if_pos k_h46.out, hscC.out, ← k_hf.out]
          rw [h2]
          exact hPs.out
    · simp only [codeOf, findLabel, Nat.reduceBEq, Bool.false_eq_true, if_false, if_true, frS]
      obtain ⟨he, hd, hn, hP0⟩ := hK
      have hes : e ≤ s.size := by rw [he]; exact scC_le s p hpS.out
      obtain ⟨⟨c0, c1, c2, c3, c4⟩, f0, f1, f2, f3, f4⟩ := hP0.facts
      obtain ⟨x, hx⟩ : ∃ x, Hid (lk s e = x) := ⟨_, rfl⟩
      have hP := hid hP0
      have k1 := hid he
      have k2 := hid hd
      have k3 := hid hn
      obtain ⟨t1, ht1⟩ : ∃ t, s.extract (scA s p) (scB s p) = t := ⟨_, rfl⟩
      obtain ⟨t2, ht2⟩ : ∃ t, scBe s p = t := ⟨_, rfl⟩
      obtain ⟨ng, hng⟩ : ∃ t, scNeg s p = t := ⟨_, rfl⟩
      have hhe := hid (And.intro ht1 (And.intro ht2 hng))
      rw [ht1, ht2, hng] at hP
      rw [ht1] at c1
      rw [ht2] at c2
      rw [hng] at c0
      clear he hd hn hP0 ht1 ht2 hng
      go_wp2_with fail
      refine Calls.mono (look_calls s (e) _ (by omega) x hx _) ?_
      rintro e' w2 ⟨rfl, rfl⟩
      by_cases hxe : x = 101 ∨ x = 69
      · have hX := hid (show scX s p = true by rw [scX, ← k1.out, hx.out]; simpa using hxe)
        have hpl := lk_in (s := s) (i := e) (by rw [hx.out]; omega)
        obtain ⟨y, hy⟩ : ∃ y, Hid (lk s (e + 1) = y) := ⟨_, rfl⟩
        have hgo : (((x : Int) != 101) = false) ∨ (((x : Int) != 101) = true ∧ ((x : Int) != 69) = false) := by
          rcases hxe with h | h
          · left; simp [h]
          · right; subst h; exact ⟨rfl, rfl⟩
        clear hxe
        rcases hgo with e1 | ⟨e1, e2⟩
        all_goals
          go_wp2_with fail
          refine Calls.mono (look_calls s (e + 1) _ (by omega) y hy _) ?_
          rintro e' w3 ⟨rfl, rfl⟩
          by_cases hy43 : y = 43
          · subst hy43
            obtain ⟨z, hz⟩ : ∃ z, Hid (lk s (e + 2) = z) := ⟨_, rfl⟩
            obtain ⟨B, hB⟩ : ∃ B, Hid (dgB z = B) := ⟨_, rfl⟩
            have hF := hid (show scF s p = e + 2 by rw [scF, ← k1.out, hy.out]; simp)
            have hD := hid (show scDn s p = false by rw [scDn, hX.out, ← k1.out, hy.out]; simp)
            have hPs := hid (hP.out.set3 false)
            have hpl := lk_in (s := s) (i := e + 1) (by rw [hy.out]; omega)
            go_wp2_with fail
            refine Calls.mono (look_calls s (e + 2) _ (by omega) z hz _) ?_
            rintro e' w4 ⟨rfl, rfl⟩
            go_wp2_with fail
            refine Calls.mono (digitD_calls z B hB _) ?_
            rintro e' w5 ⟨rfl, rfl⟩
            cases B with
            | false =>
              go_wp2
              go_step3
              refine ⟨ScJ.of s p b w _ (e + 2) (e + 2) _ _ rfl (by omega) (by omega) (.inr (.inr (.inr (.inr (.inr ⟨rfl, ?_, _, _, _, _, _, hPs.out⟩))))), mu_lt _ _ _ _ _ (by decide)⟩
              have h1 : dgB (lk s (scF s p)) = false := by rw [hF.out, hz.out, hB.out]
              rw [scanS, if_neg (by rw [k2.out]; decide), if_neg k3.out, if_pos ⟨hX.out, h1⟩, hF.out]
            | true =>
              go_wp2
              go_step3
              rename_i KK hKK
              refine hKK _ _ (ih'.out 5 _ _ ?_ (mu_lt _ _ _ _ _ (by decide)))
              refine ScJ.of s p b w _ (e + 2) (e + 2) _ _ rfl (by omega) (by omega) (.inr (.inr (.inr (.inr (.inl ⟨rfl, hF.out.symm, Nat.le_refl _, rn_lt s _ (by rw [hz.out, hB.out]), hX.out, k2.out, k3.out, ?_⟩)))))
              rw [hD.out, hhe.out.1, hhe.out.2.1, hhe.out.2.2]
              exact hPs.out
          by_cases hy45 : y = 45
          · subst hy45
            obtain ⟨z, hz⟩ : ∃ z, Hid (lk s (e + 2) = z) := ⟨_, rfl⟩
            obtain ⟨B, hB⟩ : ∃ B, Hid (dgB z = B) := ⟨_, rfl⟩
            have hF := hid (show scF s p = e + 2 by rw [scF, ← k1.out, hy.out]; simp)
            have hD := hid (show scDn s p = true by rw [scDn, hX.out, ← k1.out, hy.out]; simp)
            have hPs := hid (hP.out.set3 true)
            have hpl := lk_in (s := s) (i := e + 1) (by rw [hy.out]; omega)
            go_wp2_with fail
            refine Calls.mono (look_calls s (e + 2) _ (by omega) z hz _) ?_
            rintro e' w4 ⟨rfl, rfl⟩
            go_wp2_with fail
            refine Calls.mono (digitD_calls z B hB _) ?_
            rintro e' w5 ⟨rfl, rfl⟩
            cases B with
            | false =>
              go_wp2
              go_step3
              refine ⟨ScJ.of s p b w _ (e + 2) (e + 2) _ _ rfl (by omega) (by omega) (.inr (.inr (.inr (.inr (.inr ⟨rfl, ?_, _, _, _, _, _, hPs.out⟩))))), mu_lt _ _ _ _ _ (by decide)⟩
              have h1 : dgB (lk s (scF s p)) = false := by rw [hF.out, hz.out, hB.out]
              rw [scanS, if_neg (by rw [k2.out]; decide), if_neg k3.out, if_pos ⟨hX.out, h1⟩, hF.out]
            | true =>
              go_wp2
              go_step3
              rename_i KK hKK
              refine hKK _ _ (ih'.out 5 _ _ ?_ (mu_lt _ _ _ _ _ (by decide)))
              refine ScJ.of s p b w _ (e + 2) (e + 2) _ _ rfl (by omega) (by omega) (.inr (.inr (.inr (.inr (.inl ⟨rfl, hF.out.symm, Nat.le_refl _, rn_lt s _ (by rw [hz.out, hB.out]), hX.out, k2.out, k3.out, ?_⟩)))))
              rw [hD.out, hhe.out.1, hhe.out.2.1, hhe.out.2.2]
              exact hPs.out
          have g1 : ((y : Int) == 43) = false := by simp; omega
          have g2 : ((y : Int) == 45) = false := by simp; omega
          obtain ⟨z, hz⟩ : ∃ z, Hid (lk s (e + 1) = z) := ⟨_, rfl⟩
          obtain ⟨B, hB⟩ : ∃ B, Hid (dgB z = B) := ⟨_, rfl⟩
          have hF := hid (show scF s p = e + 1 by rw [scF, ← k1.out, hy.out]; simp [hy43, hy45])
          have hD := hid (show scDn s p = false by rw [scDn, hX.out, ← k1.out, hy.out]; simp [hy45])
          have hPs := hid (hP.out)
          have hy43' := hid hy43
          have hy45' := hid hy45
          clear hy43 hy45
          go_wp2_with fail
          refine Calls.mono (look_calls s (e + 1) _ (by omega) z hz _) ?_
          rintro e' w4 ⟨rfl, rfl⟩
          go_wp2_with fail
          refine Calls.mono (digitD_calls z B hB _) ?_
          rintro e' w5 ⟨rfl, rfl⟩
          cases B with
          | false =>
            go_wp2
            go_step3
            refine ⟨ScJ.of s p b w _ (e + 1) (e + 1) _ _ rfl (by omega) (by omega) (.inr (.inr (.inr (.inr (.inr ⟨rfl, ?_, _, _, _, _, _, hPs.out⟩))))), mu_lt _ _ _ _ _ (by decide)⟩
            have h1 : dgB (lk s (scF s p)) = false := by rw [hF.out, hz.out, hB.out]
            rw [scanS, if_neg (by rw [k2.out]; decide), if_neg k3.out, if_pos ⟨hX.out, h1⟩, hF.out]
          | true =>
            go_wp2
            go_step3
            rename_i KK hKK
            refine hKK _ _ (ih'.out 5 _ _ ?_ (mu_lt _ _ _ _ _ (by decide)))
            refine ScJ.of s p b w _ (e + 1) (e + 1) _ _ rfl (by omega) (by omega) (.inr (.inr (.inr (.inr (.inl ⟨rfl, hF.out.symm, Nat.le_refl _, rn_lt s _ (by rw [hz.out, hB.out]), hX.out, k2.out, k3.out, ?_⟩)))))
            rw [hD.out, hhe.out.1, hhe.out.2.1, hhe.out.2.2]
            exact hPs.out
      · have e1 : ((x : Int) != 101) = true := by simp; omega
        have e2 : ((x : Int) != 69) = true := by simp; omega
        have hX := hid (show scX s p = false by rw [scX, ← k1.out, hx.out]; simpa using hxe)
        clear hxe
        go_wp2
        simp only [jumps]
        refine ret_ps rfl rfl (hP.out.all _ _ _ _ _).2.1 rfl ⟨?_, (hP.out.all _ _ _ _ _).2.2⟩
        have h1 : scH s p = e := by rw [scH, if_neg (by rw [hX.out]; decide), k1.out]
        have h2 : scDn s p = false := by rw [scDn, hX.out]; rfl
        have h3 : scPw s p = ⟨#[]⟩ := by rw [scPw, if_neg (by rw [hX.out]; decide)]
        have h4 : scanS s p = (some ⟨scNeg s p, s.extract (scA s p) (scB s p), scBe s p, scDn s p, scPw s p⟩, scH s p) := by
          rw [scanS, if_neg (by rw [k2.out]; decide), if_neg k3.out, if_neg (by rw [hX.out]; exact fun h => Bool.noConfusion h.1)]
        rw [scV_some h4, h1, h2, h3, hhe.out.1, hhe.out.2.1, hhe.out.2.2]
        rfl
    · simp only [codeOf, findLabel, Nat.reduceBEq, Bool.false_eq_true, if_false, if_true, frS]
      obtain ⟨hf, hle, hlt, hX, hd, hn, hP⟩ := hK
      have hes : e < s.size := Nat.lt_of_lt_of_le hlt (rn_le s f (by rw [hf]; exact scF_le s p hX))
      obtain ⟨x, hx⟩ : ∃ x, Hid (lk s (e + 1) = x) := ⟨_, rfl⟩
      obtain ⟨B, hB⟩ : ∃ B, Hid (dgB x = B) := ⟨_, rfl⟩
      have k_hf := hid hf
      have k_hle := hid hle
      have k_hlt := hid hlt
      have k_hX := hid hX
      have k_hd := hid hd
      have k_hn := hid hn
      have k_hP := hid hP
      clear hP hn hd hX hlt hle hf
      go_wp2_with fail
      refine Calls.mono (look_calls s (e + 1) _ (by omega) x hx _) ?_
      rintro e' w2 ⟨rfl, rfl⟩
      go_wp2_with fail
      refine Calls.mono (digitD_calls x B hB _) ?_
      rintro e' w3 ⟨rfl, rfl⟩
      cases B with
      | true =>
        go_wp2
        go_step3
        have h6 : e + 1 < rn s f := by
          rcases Nat.lt_or_ge (e + 1) (rn s f) with h | h
          · exact h
          · have h7 := k_hlt.out
            have h8 : e + 1 = rn s f := by omega
            have h9 := rn_end s f
            rw [← h8, hx.out, hB.out] at h9
            cases h9
        refine ⟨ScJ.of s p b w _ (e + 1) f _ _ rfl (by omega) rfl (.inr (.inr (.inr (.inr (.inl ⟨rfl, k_hf.out, by have h1 := k_hle.out; omega, h6, k_hX.out, k_hd.out, k_hn.out, k_hP.out⟩))))), ?_⟩
        exact mu_same _ _ rfl (e' := e + 1) rfl (by omega) (by omega)
      | false =>
        have h8 := hid (show rn s f = e + 1 by
          rcases Nat.lt_or_ge (e + 1) (rn s f) with h | h
          · have h9 := rn_dig s f (e + 1) (by have := k_hle.out; omega) h
            rw [hx.out, hB.out] at h9
            cases h9
          · have h7 := k_hlt.out
            omega)
        have hdf := hid (show dgB (lk s f) = true from rn_dig s f f (Nat.le_refl _) (by have h1 := k_hle.out; have h2 := k_hlt.out; omega))
        obtain ⟨t1, ht1⟩ : ∃ t, s.extract (scA s p) (scB s p) = t := ⟨_, rfl⟩
        obtain ⟨t2, ht2⟩ : ∃ t, scBe s p = t := ⟨_, rfl⟩
        obtain ⟨ng, hng⟩ : ∃ t, scNeg s p = t := ⟨_, rfl⟩
        obtain ⟨dn, hdn⟩ : ∃ t, scDn s p = t := ⟨_, rfl⟩
        have hhe := hid (And.intro ht1 (And.intro ht2 (And.intro hng hdn)))
        rw [ht1, ht2, hng, hdn] at k_hP
        obtain ⟨⟨c0, c1, c2, c3, c4⟩, f0, f1, f2, f3, f4⟩ := k_hP.out.facts
        have hfe : f ≤ e + 1 := by have h1 := k_hle.out; omega
        clear ht1 ht2 hng hdn
        have hPs := hid (k_hP.out.set4 (s.extract f (e + 1)))
        go_upto_region 32 with fail
        generalize wq : (w3.setCell ⟨b, 4, none⟩ (.string (s.extract f (e + 1)))) = w5 at hPs ⊢
        clear c0 c1 c2 c3 c4 f0 f1 f2 f3 f4
        obtain ⟨t3, ht3⟩ : ∃ t, s.extract f (e + 1) = t := ⟨_, rfl⟩
        rw [ht3] at hPs
        obtain ⟨⟨c0, c1, c2, c3, c4⟩, f0, f1, f2, f3, f4⟩ := hPs.out.facts
        go_wp2
        simp only [jumps]
        refine ret_ps rfl rfl (hPs.out.all _ _ _ _ _).2.1 rfl ⟨?_, (hPs.out.all _ _ _ _ _).2.2⟩
        have h1 : scH s p = e + 1 := by rw [scH, if_pos k_hX.out, ← k_hf.out, h8.out]
        have h3 : scPw s p = t3 := by rw [scPw, if_pos k_hX.out, ← k_hf.out, h1, ht3]
        have h4 : scanS s p = (some ⟨scNeg s p, s.extract (scA s p) (scB s p), scBe s p, scDn s p, scPw s p⟩, scH s p) := by
          rw [scanS, if_neg (by rw [k_hd.out]; decide), if_neg k_hn.out, if_neg (by rw [← k_hf.out, hdf.out]; exact fun h => Bool.noConfusion h.2)]
        rw [scV_some h4, h1, h3, hhe.out.1, hhe.out.2.1, hhe.out.2.2.1, hhe.out.2.2.2]
        rfl
    · simp only [codeOf, findLabel, Nat.reduceBEq, Bool.false_eq_true, if_false, if_true, frS]
      obtain ⟨he, n, t1, t2, d, t3, hP0⟩ := hK
      have hP := hid hP0
      obtain ⟨⟨c0, c1, c2, c3, c4⟩, f0, f1, f2, f3, f4⟩ := hP0.facts
      have k1 := hid he
      clear he hP0
      go_wp2
      simp only [jumps]
      refine ret_ps rfl rfl (hP.out.all _ _ _ _ _).2.1 rfl ⟨?_, (hP.out.all _ _ _ _ _).2.2⟩
      rw [scV_none k1.out]
      rfl
  · intro ih
    have ih' := hid ih
    clear ih
    obtain ⟨⟨c0, c1, c2, c3, c4⟩, f0, f1, f2, f3, f4⟩ := P0.out.facts
    obtain ⟨x, hx⟩ : ∃ x, Hid (lk s p = x) := ⟨_, rfl⟩
    clear hb
    have hp2 := hp
    clear hp
    go_wp2_with fail
    refine Calls.mono (look_calls s (p) _ (by omega) x hx _) ?_
    rintro e' w2 ⟨rfl, rfl⟩
    by_cases hx45 : x = 45
    · have hpl := lk_in (s := s) (i := p) (by rw [hx.out]; omega)
      have e1 : ((x : Int) == 45) = true := by simp [hx45]
      have hx45 := hid hx45
      have hA := hid (show scA s p = p + 1 by
        rw [scA, if_pos (hx.out.trans hx45.out)])
      have hN := hid (show scNeg s p = true by rw [scNeg, hx.out]; simp [hx45.out])
      have hPs := hid (P0.out.set0 true)
      obtain ⟨y, hy⟩ : ∃ y, Hid (lk s (p + 1) = y) := ⟨_, rfl⟩
      go_wp2_with fail
      refine Calls.mono (look_calls s (p + 1) _ (by omega) y hy _) ?_
      rintro e' w3 ⟨rfl, rfl⟩
      by_cases hy48 : y = 48
      · subst hy48
        have hpl2 := lk_in (s := s) (i := p + 1) (by rw [hy.out]; omega)
        go_wp2
        go_step3
        refine ScJ.of s p b w _ (p + 1 + 1) (p + 1) _ _ rfl (by omega) (by omega) (.inr (.inl ⟨rfl, hA.out.symm, ?_, by rw [hy.out]; rfl, ?_⟩))
        · rw [scB, hA.out, hy.out, if_pos rfl]
        · rw [hN.out]
          exact hPs.out
      · have g1 : ((y : Int) == 48) = false := by simp; omega
        obtain ⟨B, hB⟩ : ∃ B, Hid (dgB y = B) := ⟨_, rfl⟩
        have hy48' := hid hy48
        clear hy48
        go_wp2_with fail
        refine Calls.mono (look_calls s (p + 1) _ (by omega) y hy _) ?_
        rintro e' w4 ⟨rfl, rfl⟩
        go_wp2_with fail
        refine Calls.mono (digitD_calls y B hB _) ?_
        rintro e' w5 ⟨rfl, rfl⟩
        cases B with
        | false =>
          go_wp2
          go_step3
          refine ScJ.of s p b w _ (p + 1) (p + 1) _ _ rfl (by omega) (by omega) (.inr (.inr (.inr (.inr (.inr ⟨rfl, ?_, _, _, _, _, _, hPs.out⟩)))))
          have h1 : dgB (lk s (scA s p)) = false := by rw [hA.out, hy.out, hB.out]
          rw [scanS, if_pos h1, hA.out]
        | true =>
          go_wp2
          go_step3
          rename_i KK hKK
          refine hKK _ _ (ih'.out 2 _ _ ?_)
          refine ScJ.of s p b w _ (p + 1) (p + 1) _ _ rfl (by omega) (by omega) (.inl ⟨rfl, hA.out.symm, Nat.le_refl _, rn_lt s _ (by rw [hy.out, hB.out]), by rw [hy.out]; exact hy48'.out, ?_⟩)
          rw [hN.out]
          exact hPs.out
    · have e1 : ((x : Int) == 45) = false := by simp; omega
      have hx45 := hid hx45
      have hA := hid (show scA s p = p by
        rw [scA, if_neg (by rw [hx.out]; exact hx45.out)])
      have hN := hid (show scNeg s p = false by rw [scNeg, hx.out]; simpa using hx45.out)
      have hPs := hid (P0.out)
      obtain ⟨y, hy⟩ : ∃ y, Hid (lk s (p) = y) := ⟨_, rfl⟩
      go_wp2_with fail
      refine Calls.mono (look_calls s (p) _ (by omega) y hy _) ?_
      rintro e' w3 ⟨rfl, rfl⟩
      by_cases hy48 : y = 48
      · subst hy48
        have hpl2 := lk_in (s := s) (i := p) (by rw [hy.out]; omega)
        go_wp2
        go_step3
        refine ScJ.of s p b w _ (p + 1) (p) _ _ rfl (by omega) (by omega) (.inr (.inl ⟨rfl, hA.out.symm, ?_, by rw [hy.out]; rfl, ?_⟩))
        · rw [scB, hA.out, hy.out, if_pos rfl]
        · rw [hN.out]
          exact hPs.out
      · have g1 : ((y : Int) == 48) = false := by simp; omega
        obtain ⟨B, hB⟩ : ∃ B, Hid (dgB y = B) := ⟨_, rfl⟩
        have hy48' := hid hy48
        clear hy48
        go_wp2_with fail
        refine Calls.mono (look_calls s (p) _ (by omega) y hy _) ?_
        rintro e' w4 ⟨rfl, rfl⟩
        go_wp2_with fail
        refine Calls.mono (digitD_calls y B hB _) ?_
        rintro e' w5 ⟨rfl, rfl⟩
        cases B with
        | false =>
          go_wp2
          go_step3
          refine ScJ.of s p b w _ (p) (p) _ _ rfl (by omega) (by omega) (.inr (.inr (.inr (.inr (.inr ⟨rfl, ?_, _, _, _, _, _, hPs.out⟩)))))
          have h1 : dgB (lk s (scA s p)) = false := by rw [hA.out, hy.out, hB.out]
          rw [scanS, if_pos h1, hA.out]
        | true =>
          go_wp2
          go_step3
          rename_i KK hKK
          refine hKK _ _ (ih'.out 2 _ _ ?_)
          refine ScJ.of s p b w _ (p) (p) _ _ rfl (by omega) (by omega) (.inl ⟨rfl, hA.out.symm, Nat.le_refl _, rn_lt s _ (by rw [hy.out, hB.out]), by rw [hy.out]; exact hy48'.out, ?_⟩)
          rw [hN.out]
          exact hPs.out

end Go.Proofs.YtheeonlfbnkhgaaDoor
