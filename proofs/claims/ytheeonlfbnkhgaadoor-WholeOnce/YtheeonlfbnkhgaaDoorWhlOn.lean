/-
  A plain number's text is its number's own text, unless it is a nought with a minus (mathematics, for WholeOnce); what decimal.Whole answers.
-/
import Derived.Test.YtheeonlfbnkhgaaDoorWhlAbv
import Derived.Test.YtheeonlfbnkhgaaDoorDecAwake
import Derived.Test.YtheeonlfbnkhgaaDoorDecForm
namespace Go.Proofs.YtheeonlfbnkhgaaDoor
open Go.RowKit Go.Shelf

theorem digz {D : ByteArray} (hd : AllD D) (hl : lk D 0 = 48 → D.size = 1) (h0 : 0 < D.size) : (pwN D.data.toList = 0 ∧ D.data.toList = [48]) ∨ (0 < pwN D.data.toList ∧ 10 ^ (D.size - 1) ≤ pwN D.data.toList) := by
  have hD := allD_list hd
  have hlen : D.data.toList.length = D.size := size_list D
  by_cases h1 : lk D 0 = 48
  · left
    have h2 := hl h1
    cases hc : D.data.toList with
    | nil => rw [hc] at hlen; simp at hlen; omega
    | cons b l =>
      have h3 : l = [] := by
        apply List.eq_nil_of_length_eq_zero
        rw [hc, List.length_cons] at hlen
        omega
      have h4 := (lk_get (t := D) (j := 0) (b := b) (by rw [hc]; rfl)).1
      rw [h1] at h4
      rw [h3, byte_eq h4.symm]
      exact ⟨rfl, rfl⟩
  · right
    have h5 := pw_ge hD (fun e => by rw [e] at hlen; simp at hlen; omega) (fun b hb e => by
      have := (lk_get (t := D) (j := 0) hb).1
      rw [e] at this
      exact h1 this)
    rw [hlen] at h5
    have := Nat.pow_pos (n := D.size - 1) (show 0 < 10 by decide)
    exact ⟨by omega, h5⟩
theorem canon {D : ByteArray} (hd : AllD D) (hl : lk D 0 = 48 → D.size = 1) (h0 : 0 < D.size) : D.data.toList = Lib.decDigits (pwN D.data.toList) := by
  have hlen : D.data.toList.length = D.size := size_list D
  rcases digz hd hl h0 with ⟨h1, h2⟩ | ⟨h1, h2⟩
  · rw [h1, h2, Lib.decDigits, dif_pos (by decide)]
    rfl
  · refine digs_inj _ _ ?_ (allD_list hd) (dec_dig _) (by rw [dec_pw])
    have h3 := pw_lt (allD_list hd)
    rw [hlen] at h3
    have h4 : D.size = D.size - 1 + 1 := by omega
    rw [h4] at h3
    rw [hlen, Lib.decDigits_length, Lib.nDigits_unique (D.size - 1) _ h2 h3]
    omega
theorem ba_list {a b : ByteArray} (h : a.data.toList = b.data.toList) : a = b := ByteArray.ext (Array.ext' h)
theorem plain_text {s : ByteArray} {B : Bool} {D : ByteArray} (h : PlainN s B D) (hb : B = true → 0 < pwN D.data.toList) : s = ⟨(Lib.itoa (valS s)).toArray⟩ := by
  have hc := canon h.dig h.lead h.pos
  have hv := h.val_eq
  rw [itoa_txt]
  cases B with
  | false =>
    have hv2 : valS s = ((pwN D.data.toList : Nat) : Int) := hv
    rw [hv2, decide_eq_false (by omega), Int.natAbs_natCast]
    conv => lhs; rw [h.txt]
    rw [← hc]
  | true =>
    have h0 := hb rfl
    have hv2 : valS s = -((pwN D.data.toList : Nat) : Int) := hv
    rw [hv2, decide_eq_true (by omega), Int.natAbs_neg, Int.natAbs_natCast]
    conv => lhs; rw [h.txt]
    rw [← hc]
theorem plain_nought {s : ByteArray} {D : ByteArray} (h : PlainN s true D) (h0 : pwN D.data.toList = 0) : s = ⟨#[45, 48]⟩ := by
  rcases digz h.dig h.lead h.pos with ⟨-, h2⟩ | ⟨h1, -⟩
  · have hD : D = ⟨#[48]⟩ := ba_list h2
    rw [h.txt, hD]
    rfl
  · omega
/-- What Of says of it: taken, well shaped, whole. -/
theorem of_small {s : ByteArray} {B : Bool} {D : ByteArray} (h : PlainN s B D) (hs : D.size ≤ 1000) : (ofS s).2 = 0 ∧ frmS ⟨(ofS s).1.ds.toArray⟩ (ofS s).1.ex = true ∧ 0 ≤ (ofS s).1.ex := by
  have hsc := h.scan
  have hl1 : (allS ⟨B, D, ⟨#[]⟩, false, ⟨#[]⟩⟩).length ≤ D.size := by
    have := trimL_length (D.data.toList ++ []) 48
    rw [List.append_nil, size_list] at this
    show (Lib.trimLeftB (D.data.toList ++ []) 48).length ≤ _
    rw [List.append_nil]
    exact this
  have hex : expS ⟨B, D, ⟨#[]⟩, false, ⟨#[]⟩⟩ = (((allS ⟨B, D, ⟨#[]⟩, false, ⟨#[]⟩⟩).length - (digS ⟨B, D, ⟨#[]⟩, false, ⟨#[]⟩⟩).length : Nat) : Int) := by
    unfold expS
    show ((pwN [] : Nat) : Int) - ((0 : Nat) : Int) + _ = _
    show ((0 : Nat) : Int) - ((0 : Nat) : Int) + _ = _
    omega
  have hin : inB (expS ⟨B, D, ⟨#[]⟩, false, ⟨#[]⟩⟩) = true := by
    rw [hex]
    exact decide_eq_true (by omega)
  obtain ⟨d, hd, hx⟩ : ∃ d, worthS ⟨B, D, ⟨#[]⟩, false, ⟨#[]⟩⟩ = some d ∧ 0 ≤ d.ex := by
    by_cases ha : allS ⟨B, D, ⟨#[]⟩, false, ⟨#[]⟩⟩ = []
    · exact ⟨⟨B, [], 0⟩, by unfold worthS; rw [if_pos ha], Int.le_refl 0⟩
    · refine ⟨⟨B, digS ⟨B, D, ⟨#[]⟩, false, ⟨#[]⟩⟩, expS ⟨B, D, ⟨#[]⟩, false, ⟨#[]⟩⟩⟩, by unfold worthS; rw [if_neg ha, hin]; rfl, ?_⟩
      show 0 ≤ expS _
      rw [hex]
      omega
  have hrd : readS s 0 = (d, s.size, 0) := by
    unfold readS
    rw [hsc]
    dsimp only
    rw [hd]
  have hof : ofS s = (d, 0) := by rw [ofS_same s (by rw [hrd]), hrd]
  have hf := read_formed (s := s) (p := 0) (Nat.zero_le _) (by rw [hrd])
  rw [hrd] at hf
  rw [hof]
  exact ⟨rfl, hf, hx⟩
set_option maxRecDepth 10000 in
theorem wholeD_calls (n : Bool) (t : ByteArray) (x : Int) (hs : t.size ≤ 4611686018427387904) (hf : Hid (frmS t x = true)) (hx : Hid (0 ≤ x)) (w : World) :
    Calls Tryd.prog 27 #[.agg #[.bool n, .string t, .int .i64 x]] w fun e w' => e = .returned (.bool true) ∧ Below w.heap.size w w' := by
  have cF := hid (fun w1 => formed_calls n t x hs true hf w1)
  have A0 := hid (show OwnD w w.heap.size n t x (w.alloc (.cells #[.bool n, .string t, .int .i64 x] 23)) from ⟨Nat.le_refl _, At.new w _ _, by repeat (first | with_reducible exact Below.refl _ _ | with_reducible refine Below.setCell ?_ (by first | (simp; done) | (simp; omega)) _ | with_reducible refine below_drewN ?_ _ | with_reducible refine Below.alloc ?_ (by first | (simp; done) | (simp; omega)) _ | with_reducible refine Below.drew ?_)⟩)
  have hx' := hx.out
  clear hf hs hx
  go_enter Tryd.func27, Tryd.ntmps27
  go_wp2_with fail
  refine Calls.mono (cF.out _) ?_
  rintro e w1 ⟨rfl, hb⟩
  have A1 := hid (A0.out.kept hb)
  clear A0 cF hb
  obtain ⟨⟨c0, c1, c2⟩, -, -, -⟩ := A1.out.facts
  go_wp2
  go_ret
  exact ⟨by first | rfl | simp, A1.out.2.2⟩
end Go.Proofs.YtheeonlfbnkhgaaDoor
