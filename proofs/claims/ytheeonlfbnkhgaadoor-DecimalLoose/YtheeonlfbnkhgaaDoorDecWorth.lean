/-
  What decimal.power answers.
-/
import Derived.Test.YtheeonlfbnkhgaaDoorDecScan
import Derived.Test.YtheeonlfbnkhgaaDoorShelfA
import Derived.Deep.RegionHeld
import Derived.Deep.Quiet
namespace Go.Proofs.YtheeonlfbnkhgaaDoor
open Go.RowKit Go.Shelf

theorem trimL_calls (s : ByteArray) (T : ByteArray) (hT : Hid ((⟨(Lib.trimLeftB s.data.toList 48).toArray⟩ : ByteArray) = T)) (w : World) :
    Calls Tryd.prog 51 #[.string s, .string ⟨#[48]⟩] w fun e w' => e = .returned (.string T) ∧ w' = w := by
  rw [← hT.out]
  exact Any.strings_TrimLeft_one Tryd.lays161 s 48 (by decide) w
theorem trimR_calls (s : ByteArray) (hs : s.size ≤ 4611686018427387904) (T : ByteArray) (hT : Hid ((⟨(Lib.trimRightB s.data.toList 48).toArray⟩ : ByteArray) = T)) (w : World) :
    Calls Tryd.prog 52 #[.string s, .string ⟨#[48]⟩] w fun e w' => e = .returned (.string T) ∧ w' = w := by
  rw [← hT.out]
  exact Any.strings_TrimRight_one Tryd.lays162 s 48 (by decide) w (by omega)
theorem clone_calls (s : ByteArray) (hs : s.size ≤ 281474976710656) (w : World) :
    Calls Tryd.prog 54 #[.string s] w fun e w' => e = .returned (.string s) ∧ Below w.heap.size w w' := by
  have hc := hid (show Calls Tryd.prog 72 #[.string s] w fun e w' => e = .returned (.string s) ∧ Below w.heap.size w w' from Any.stringslite_Clone Tryd.laysM316 s w hs)
  go_enter Tryd.func54, Tryd.ntmps54
  go_wp2_with fail
  refine Calls.mono hc.out ?_
  rintro e w1 ⟨rfl, hb⟩
  clear hc
  go_wp2
  go_ret
  exact ⟨rfl, hb⟩

/-- The number that is reckoned of some digits: beyond 2^56 it stays as it is. -/
def satF (s : ByteArray) : Nat → Nat
  | 0 => 0
  | i + 1 => if satF s i < 72057594037927936 then 10 * satF s i + (lk s i - 48) else satF s i
theorem satF_le (s : ByteArray) (hd : ∀ i, i < s.size → dgB (lk s i) = true) : ∀ i, i ≤ s.size → satF s i < 720575940379279370
  | 0, _ => by show 0 < _; decide
  | i + 1, h => by
    have ih := satF_le s hd i (by omega)
    have := (dgB_iff _).1 (hd i (by omega))
    unfold satF
    split <;> omega
theorem satF_stop (s : ByteArray) (i : Nat) (h : 72057594037927936 ≤ satF s i) : ∀ k, satF s (i + k) = satF s i
  | 0 => rfl
  | k + 1 => by
    have ih := satF_stop s i h k
    show (if satF s (i + k) < 72057594037927936 then 10 * satF s (i + k) + (lk s (i + k) - 48) else satF s (i + k)) = _
    rw [ih, if_neg (by omega)]
def powV (n : Num) : Int := if n.dn then -(satF n.pw n.pw.size : Int) else satF n.pw n.pw.size

set_option maxRecDepth 10000 in
set_option maxHeartbeats 2000000 in
theorem power_calls (n : Num) (hs : n.pw.size ≤ 4611686018427387904) (hd : Hid (∀ i, i < n.pw.size → dgB (lk n.pw i) = true)) (E : Int) (hE : Hid (powV n = E)) (w : World) :
    Calls Tryd.prog 53 #[numV n] w fun e w' => e = .returned (.int .i64 E) ∧ Below w.heap.size w w' := by
  obtain ⟨ng, t1, t2, dn, t⟩ := n
  dsimp only [numV] at hs hd ⊢
  have hE' := hid (show (if dn then -(satF t t.size : Int) else satF t t.size) = E from hE.out)
  clear hE
  go_enter Tryd.func53, Tryd.ntmps53
  have hBU : Below w.heap.size w (w.alloc (.cells #[.bool ng, .string t1, .string t2, .bool dn, .string t] 67)) := by repeat (first | with_reducible exact Below.refl _ _ | with_reducible refine Below.setCell ?_ (by first | (simp; done) | (simp; omega)) _ | with_reducible refine below_drewN ?_ _ | with_reducible refine Below.alloc ?_ (by first | (simp; done) | (simp; omega)) _ | with_reducible refine Below.drew ?_)
  have A0 := At.new w #[.bool ng, .string t1, .string t2, .bool dn, .string t] 67
  have c3 : (w.alloc (.cells #[.bool ng, .string t1, .string t2, .bool dn, .string t] 67)).cell? ⟨w.heap.size, 3, none⟩ = some (.bool dn) := A0.cell 3
  have c4 : (w.alloc (.cells #[.bool ng, .string t1, .string t2, .bool dn, .string t] 67)).cell? ⟨w.heap.size, 4, none⟩ = some (.string t) := A0.cell 4
  clear A0
  go_wp2
  go_loop [3, 4] (fun nn ii => ∃ i m : Nat, i ≤ t.size ∧ ii = .int .i64 (i : Int) ∧ nn = .int .i64 (m : Int) ∧ Hid (satF t i = m)) (fun _ ii => t.size - (intOf ii).toNat)
  case atStart => exact ⟨0, 0, Nat.zero_le _, rfl, rfl, rfl⟩
  case round =>
    obtain ⟨i, m, hi, rfl, rfl, hm⟩ := hrel
    have hml : m < 720575940379279370 := by rw [← hm.out]; exact satF_le t hd.out i hi
    by_cases hil : i < t.size
    · have e1 : decide ((i : Int) < (t.size : Int)) = true := by simp; omega
      have hiI : (i : Int) < (t.size : Int) := by omega
      by_cases hmm : m < 72057594037927936
      · have e2 : decide ((m : Int) < 72057594037927936) = true := by simp; omega
        obtain ⟨y, hy⟩ : ∃ y, t[i].toNat = y := ⟨_, rfl⟩
        have hyd : 48 ≤ y ∧ y ≤ 57 := by rw [← hy, ← lk_at t i hil]; exact (dgB_iff _).1 (hd.out i hil)
        have hst := hid (show satF t (i + 1) = 10 * m + (y - 48) by
          have h1 : lk t i = y := by rw [lk_at t i hil, hy]
          have h2 := hm.out
          show (if satF t i < 72057594037927936 then 10 * satF t i + (lk t i - 48) else satF t i) = _
          rw [h2, if_pos hmm, h1])
        obtain ⟨z, hz⟩ : ∃ z, y = 48 + z := ⟨y - 48, by omega⟩
        subst hz
        have ez : IntKind.u8.wrap (((48 + z : Nat) : Int) - 48) = (z : Int) := by rw [IntKind.wrap_u8]; omega
        have ez2 : (((48 + z : Nat) : Int) - 48) = (z : Int) := by omega
        have hz9 : z ≤ 9 := by omega
        clear hyd
        go_wp2
        go_round
        case rel => exact ⟨i + 1, 10 * m + z, by omega, by simp, by simp; omega, by show _ = _; rw [hst.out]; omega⟩
        case measure => simp [intOf]; omega
      · have e2 : decide ((m : Int) < 72057594037927936) = false := by simp; omega
        have hfin : satF t t.size = m := by
          have h1 := satF_stop t i (by rw [hm.out]; omega) (t.size - i)
          rw [show i + (t.size - i) = t.size by omega, hm.out] at h1
          exact h1
        have hEE := hE'.out
        rw [hfin] at hEE
        have hE2 := hid hEE
        clear hEE hE' hfin hmm hm
        cases dn
        · go_wp2
          go_ret
          exact ⟨by rw [← hE2.out]; rfl, hBU⟩
        · go_wp2
          go_ret
          exact ⟨by rw [← hE2.out]; rfl, hBU⟩
    · have e1 : decide ((i : Int) < (t.size : Int)) = false := by simp; omega
      obtain rfl : i = t.size := by omega
      have hEE := hE'.out
      rw [hm.out] at hEE
      have hE2 := hid hEE
      clear hEE hE' hm
      cases dn
      · go_wp2
        go_ret
        exact ⟨by rw [← hE2.out]; rfl, hBU⟩
      · go_wp2
        go_ret
        exact ⟨by rw [← hE2.out]; rfl, hBU⟩

/-! worth -/
theorem sizeDec' : (Tryd.prog.info? 23).map (·.size) = some 3 := by kernel_rfl
theorem load_dec {w : World} {b : Nat} {x0 x1 x2 : Value} (h : At w b #[x0, x1, x2] 23) : (loadVar 23 ⟨b, 0, none⟩).run Tryd.prog w = .ok (.agg #[x0, x1, x2]) w :=
  run_loadVar_row (P := Tryd.prog) w b 23 23 #[x0, x1, x2] (0, 0) _ h Tryd.underlying23 rfl sizeDec'
theorem ret_dec {fn : Func} {p u : Tmp} {R : Ending → World → Prop} {a : Act} {w : World} {b : Nat} {x0 x1 x2 : Value} (hres : fn.results = #[.cell p 23, .tmp u]) (hp : a.tmps.getD p undef = .pointer (some ⟨b, 0, none⟩))
    (h : At w b #[x0, x1, x2] 23) (hd : a.defers = []) (hR : R (.returned (.tuple #[.agg #[x0, x1, x2], a.tmps.getD u undef])) w) : bodyPost Tryd.prog fn R .ret a w := by
  refine bodyPost_ret (v := .tuple #[.agg #[x0, x1, x2], a.tmps.getD u undef]) ?_ hd hR
  rw [results_cell_tmp hres, hp]
  simp [asAddr, load_dec h]
theorem ret_dec3 {fn : Func} {p u v : Tmp} {R : Ending → World → Prop} {a : Act} {w : World} {b : Nat} {x0 x1 x2 : Value} (hres : fn.results = #[.cell p 23, .tmp u, .tmp v]) (hp : a.tmps.getD p undef = .pointer (some ⟨b, 0, none⟩))
    (h : At w b #[x0, x1, x2] 23) (hd : a.defers = []) (hR : R (.returned (.tuple #[.agg #[x0, x1, x2], a.tmps.getD u undef, a.tmps.getD v undef])) w) : bodyPost Tryd.prog fn R .ret a w := by
  refine bodyPost_ret (v := .tuple #[.agg #[x0, x1, x2], a.tmps.getD u undef, a.tmps.getD v undef]) ?_ hd hR
  rw [results_ctt hres, hp]
  simp [asAddr, load_dec h]
theorem At.threeD {w : World} {b : Nat} {x0 x1 x2 y0 y1 y2 : Value} {t : TypeId} (h : At w b #[x0, x1, x2] t) : At (((w.setCell ⟨b, 0, none⟩ y0).setCell ⟨b, 1, none⟩ y1).setCell ⟨b, 2, none⟩ y2) b #[y0, y1, y2] t := by
  have := ((h.set 0 y0).set 1 y1).set 2 y2
  simpa using this
/-- Some cells of one's own, in the block b: a decimal's. -/
def OwnD (w0 : World) (b : Nat) (n : Bool) (t : ByteArray) (x : Int) (w : World) : Prop := w0.heap.size ≤ b ∧ At w b #[.bool n, .string t, .int .i64 x] 23 ∧ Below w0.heap.size w0 w
section
variable {w0 : World} {b : Nat} {n : Bool} {t : ByteArray} {x : Int} {w w' : World}
theorem OwnD.facts (h : OwnD w0 b n t x w) : (w.cell? ⟨b, 0, none⟩ = some (.bool n) ∧ w.cell? ⟨b, 1, none⟩ = some (.string t) ∧ w.cell? ⟨b, 2, none⟩ = some (.int .i64 x)) ∧ (w.frozen? ⟨b, 0, none⟩ = false ∧ w.frozen? ⟨b, 1, none⟩ = false ∧ w.frozen? ⟨b, 2, none⟩ = false) :=
  ⟨⟨h.2.1.cell 0, h.2.1.cell 1, h.2.1.cell 2⟩, h.2.1.frozen 0, h.2.1.frozen 1, h.2.1.frozen 2⟩
theorem OwnD.kept (h : OwnD w0 b n t x w) (hb : Below w.heap.size w w') : OwnD w0 b n t x w' := ⟨h.1, h.2.1.keptAll hb, h.2.2.trans (hb.mono h.2.2.size)⟩
theorem OwnD.put (h : OwnD w0 b n t x w) (n' : Bool) (t' : ByteArray) (x' : Int) : OwnD w0 b n' t' x' (((w.setCell ⟨b, 0, none⟩ (.bool n')).setCell ⟨b, 1, none⟩ (.string t')).setCell ⟨b, 2, none⟩ (.int .i64 x')) :=
  ⟨h.1, h.2.1.threeD, ((h.2.2.setCell (p := ⟨b, 0, none⟩) h.1 _).setCell (p := ⟨b, 1, none⟩) h.1 _).setCell (p := ⟨b, 2, none⟩) h.1 _⟩
end
theorem pwN_snoc (l : List UInt8) (b : UInt8) : pwN (l ++ [b]) = 10 * pwN l + (b.toNat - 48) := by simp [pwN]
/-- The number of the first bytes. -/
theorem pw_take (s : ByteArray) (i : Nat) (h : i < s.size) : pwN (s.data.toList.take (i + 1)) = 10 * pwN (s.data.toList.take i) + (lk s i - 48) := by
  have hl : i < s.data.toList.length := by rw [Array.length_toList]; exact h
  rw [List.take_add_one, List.getElem?_eq_getElem hl, Option.toList_some, pwN_snoc, lk_at s i h]
  rfl
theorem satF_pw (s : ByteArray) : ∀ i, i ≤ s.size → satF s i ≤ pwN (s.data.toList.take i) ∧ (satF s i < 72057594037927936 → satF s i = pwN (s.data.toList.take i))
  | 0, _ => ⟨Nat.zero_le _, fun _ => rfl⟩
  | i + 1, h => by
    obtain ⟨h1, h2⟩ := satF_pw s i (by omega)
    rw [pw_take s i (by omega)]
    unfold satF
    split
    · rename_i h3
      rw [h2 h3]
      exact ⟨Nat.le_refl _, fun _ => rfl⟩
    · exact ⟨by omega, fun h4 => by omega⟩
theorem pow_same (n : Num) : (powV n = powS n) ∨ ((powV n ≤ -72057594037927936 ∧ powS n ≤ -72057594037927936) ∨ (72057594037927936 ≤ powV n ∧ 72057594037927936 ≤ powS n)) := by
  obtain ⟨h1, h2⟩ := satF_pw n.pw n.pw.size (Nat.le_refl _)
  have h3 : n.pw.data.toList.take n.pw.size = n.pw.data.toList := List.take_of_length_le (by rw [Array.length_toList]; exact Nat.le_refl _)
  rw [h3] at h1 h2
  unfold powV powS
  by_cases h4 : satF n.pw n.pw.size < 72057594037927936
  · left; rw [h2 h4]
  · right
    cases n.dn
    · right; simp; omega
    · left; simp; omega
/-- What worth answers. -/
def wrV (n : Num) : Value := match worthS n with
  | none => .tuple #[decV zeroD, .int .i64 111]
  | some d => .tuple #[decV d, .int .i64 0]
/-- What is reckoned, of the exponent. -/
theorem exp_same (n : Num) (h1 : n.be.size ≤ 562949953421312) (h2 : (allS n).length ≤ 1125899906842624) : inB (powV n - (n.be.size : Int) + (((allS n).length - (digS n).length : Nat) : Int)) = inB (expS n) ∧ (inB (expS n) = true → powV n - (n.be.size : Int) + (((allS n).length - (digS n).length : Nat) : Int) = expS n) := by
  rcases pow_same n with h | ⟨ha, hb⟩ | ⟨ha, hb⟩
  · unfold expS; rw [h]; exact ⟨rfl, fun _ => rfl⟩
  · have e1 : inB (expS n) = false := by unfold inB expS; simp; omega
    have e2 : inB (powV n - (n.be.size : Int) + (((allS n).length - (digS n).length : Nat) : Int)) = false := by unfold inB; simp; omega
    rw [e1, e2]; exact ⟨rfl, fun h => by cases h⟩
  · have e1 : inB (expS n) = false := by unfold inB expS; simp; omega
    have e2 : inB (powV n - (n.be.size : Int) + (((allS n).length - (digS n).length : Nat) : Int)) = false := by unfold inB; simp; omega
    rw [e1, e2]; exact ⟨rfl, fun h => by cases h⟩
theorem powV_in (n : Num) (hd : ∀ i, i < n.pw.size → dgB (lk n.pw i) = true) : -720575940379279370 ≤ powV n ∧ powV n ≤ 720575940379279370 := by
  have := satF_le n.pw hd n.pw.size (Nat.le_refl _)
  unfold powV
  split <;> omega
theorem data_append (a b : ByteArray) : (a ++ b).data.toList = a.data.toList ++ b.data.toList := by
  rw [ByteArray.data_append]; simp
theorem size_list (a : ByteArray) : a.data.toList.length = a.size := by rw [Array.length_toList]; rfl

def WrC (w0 : World) (ng : Bool) (t1 t2 : ByteArray) (dn : Bool) (t : ByteArray) (w : World) : Prop := At w w0.heap.size #[.bool ng, .string t1, .string t2, .bool dn, .string t] 67 ∧ OwnD w0 (w0.heap.size + 1) false ⟨#[]⟩ 0 w
section
variable {w0 : World} {ng : Bool} {t1 t2 : ByteArray} {dn : Bool} {t : ByteArray} {w w' : World}
theorem WrC.kept (h : WrC w0 ng t1 t2 dn t w) (hb : Below w.heap.size w w') : WrC w0 ng t1 t2 dn t w' := ⟨h.1.keptAll hb, h.2.kept hb⟩
theorem WrC.c2 (h : WrC w0 ng t1 t2 dn t w) : w.cell? ⟨w0.heap.size, 2, none⟩ = some (.string t2) := h.1.cell 2
theorem WrC.rg (h : WrC w0 ng t1 t2 dn t w) : w.rangeAt w0.heap.size 0 [.bool ng, .string t1, .string t2, .bool dn, .string t] := h.1.range rfl
end
set_option maxRecDepth 10000 in
set_option maxHeartbeats 4000000 in
theorem worth_calls (n : Num) (h1 : n.wh.size ≤ 281474976710656) (h2 : n.be.size ≤ 281474976710656) (hs : n.pw.size ≤ 4611686018427387904) (hx : n.wh.size + n.be.size ≤ 281474976710656) (hd : Hid (∀ i, i < n.pw.size → dgB (lk n.pw i) = true)) (w : World) :
    Calls Tryd.prog 40 #[numV n] w fun e w' => e = .returned (wrV n) ∧ Below w.heap.size w w' := by
  obtain ⟨P, hP⟩ : ∃ P, Hid (powV n = P) := ⟨_, rfl⟩
  have hPin := powV_in n hd.out
  rw [hP.out] at hPin
  have hpc := hid (fun w1 => power_calls n hs hd P hP w1)
  have hex := hid (exp_same n (by omega) (Nat.le_trans (trimL_length _ _) (by rw [List.length_append, size_list, size_list]; omega)))
  rw [hP.out] at hex
  obtain ⟨T1, hT1⟩ : ∃ T, Hid ((⟨(Lib.trimLeftB n.wh.data.toList 48).toArray⟩ : ByteArray) = T) := ⟨_, rfl⟩
  obtain ⟨T2, hT2⟩ : ∃ T, Hid ((⟨(Lib.trimLeftB (T1 ++ n.be).data.toList 48).toArray⟩ : ByteArray) = T) := ⟨_, rfl⟩
  have hall := hid (show T2.data.toList = allS n by rw [← hT2.out, data_append, ← hT1.out, allS]; exact trimL_twice _ _ _)
  obtain ⟨T3, hT3⟩ : ∃ T, Hid ((⟨(Lib.trimRightB T2.data.toList 48).toArray⟩ : ByteArray) = T) := ⟨_, rfl⟩
  have hdig := hid (show T3.data.toList = digS n by rw [← hT3.out, digS, hall.out])
  have hl2 : T2.size ≤ 281474976710656 := by
    rw [← size_list, hall.out]
    exact Nat.le_trans (trimL_length _ _) (by rw [List.length_append, size_list, size_list]; omega)
  have hl1 : T1.size ≤ 281474976710656 := by
    rw [← size_list, ← hT1.out]
    exact Nat.le_trans (trimL_length _ _) (by rw [size_list]; exact h1)
  have hsum : ¬ T1.size + n.be.size > 9223372036854775807 := by omega
  have hl3 : T3.size ≤ T2.size := by rw [← size_list, ← size_list, hdig.out, hall.out]; exact trimR_length _ _
  rw [← hall.out, ← hdig.out, size_list, size_list] at hex
  obtain ⟨ng, t1, t2, dn, t⟩ := n
  have hwv : Hid (wrV ⟨ng, t1, t2, dn, t⟩ = wrV ⟨ng, t1, t2, dn, t⟩) := rfl
  dsimp only [numV] at hpc hT1 hT2 h1 h2 hs hx hex hPin hsum ⊢
  have A0 := hid (show At ((w.alloc (.cells #[.bool ng, .string t1, .string t2, .bool dn, .string t] 67)).alloc (.cells #[.bool false, .string ⟨#[]⟩, .int .i64 0] 23)) w.heap.size #[.bool ng, .string t1, .string t2, .bool dn, .string t] 67 from (At.new w _ _).alloc _)
  have D0 := hid (show OwnD w (w.heap.size + 1) false ⟨#[]⟩ 0 ((w.alloc (.cells #[.bool ng, .string t1, .string t2, .bool dn, .string t] 67)).alloc (.cells #[.bool false, .string ⟨#[]⟩, .int .i64 0] 23)) from
    ⟨by omega, by have := At.new (w.alloc (.cells #[.bool ng, .string t1, .string t2, .bool dn, .string t] 67)) #[.bool false, .string ⟨#[]⟩, .int .i64 0] 23; simpa using this, by repeat (first | with_reducible exact Below.refl _ _ | with_reducible refine Below.setCell ?_ (by first | (simp; done) | (simp; omega)) _ | with_reducible refine below_drewN ?_ _ | with_reducible refine Below.alloc ?_ (by first | (simp; done) | (simp; omega)) _ | with_reducible refine Below.drew ?_)⟩)
  go_enter Tryd.func40, Tryd.ntmps40
  go_wp2_with fail

  refine Calls.mono (trimL_calls _ T1 hT1 _) ?_
  rintro e w1 ⟨rfl, rfl⟩
  generalize hW : (w.alloc (.cells #[.bool ng, .string t1, .string t2, .bool dn, .string t] 67)).alloc (.cells #[.bool false, .string ⟨#[]⟩, .int .i64 0] 23) = W0 at A0 D0 ⊢
  clear hW
  have c0 : W0.cell? ⟨w.heap.size, 0, none⟩ = some (.bool ng) := A0.out.cell 0
  have c2 : W0.cell? ⟨w.heap.size, 2, none⟩ = some (.string t2) := A0.out.cell 2
  go_wp2_with fail
  refine Calls.mono (trimL_calls _ T2 hT2 _) ?_
  rintro e w1 ⟨rfl, hw⟩
  obtain rfl : W0 = w1 := hw.symm
  clear hw
  clear hsum hT1 hT2 h1 hx hl1
  by_cases h0 : T2.size = 0
  · have ha : allS ⟨ng, t1, t2, dn, t⟩ = [] := by rw [← hall.out]; exact List.eq_nil_of_length_eq_zero (by rw [size_list]; exact h0)
    have e0 : (T2.toList == []) = true := by
      have : T2.toList = [] := by rw [Lib.toList_data, hall.out, ha]
      rw [this]; rfl
    have hv := hid (show wrV ⟨ng, t1, t2, dn, t⟩ = .tuple #[.agg #[.bool ng, .string ⟨#[]⟩, .int .i64 0], .int .i64 0] by rw [wrV, worthS, if_pos ha]; rfl)
    obtain ⟨⟨d0, d1, d2⟩, f0, f1, f2⟩ := D0.out.facts
    clear h0 ha hex hpc hP hd hPin hT3 hall hdig
    go_wp2
    refine ret_dec rfl rfl (D0.out.put _ _ _).2.1 rfl ⟨?_, (D0.out.put _ _ _).2.2⟩
    rw [hv.out]
    rfl
  · have ha : ¬ allS ⟨ng, t1, t2, dn, t⟩ = [] := fun e => h0 (by rw [← size_list, hall.out, e]; rfl)
    have e0 : (T2.toList == []) = false := by
      apply beq_eq_false_iff_ne.2
      rw [Lib.toList_data, hall.out]
      exact ha
    have ha' := hid ha
    clear ha h0
    go_wp2_with fail
    refine Calls.mono (trimR_calls _ (by omega) T3 hT3 _) ?_
    rintro e w1 ⟨rfl, hw⟩
    obtain rfl : W0 = w1 := hw.symm
    clear hw
    clear hT3
    obtain ⟨x1, hx1⟩ : ∃ x, IntKind.i64.wrap (P - (t2.size : Int)) = x := ⟨_, rfl⟩
    obtain ⟨x2, hx2⟩ : ∃ x, IntKind.i64.wrap ((T2.size : Int) - (T3.size : Int)) = x := ⟨_, rfl⟩
    obtain ⟨x3, hx3⟩ : ∃ x, IntKind.i64.wrap (x1 + x2) = x := ⟨_, rfl⟩
    have y1 : x1 = P - (t2.size : Int) := by rw [← hx1, IntKind.wrap_i64]; omega
    have y2 : x2 = (T2.size : Int) - (T3.size : Int) := by rw [← hx2, IntKind.wrap_i64]; omega
    have y3 := hid (show x3 = P - (t2.size : Int) + ((T2.size - T3.size : Nat) : Int) by rw [← hx3, IntKind.wrap_i64, y1, y2]; omega)
    rw [← y3.out] at hex
    obtain ⟨B, hB⟩ : ∃ B, Hid (inB x3 = B) := ⟨_, rfl⟩
    rw [hB.out] at hex
    have hbc := hid (fun w1 => inBd_calls x3 B hB w1)
    clear y1 y2 y3 hB hP hd hPin
    have hS : W0.drew.cell? ⟨w.heap.size, 2, none⟩ = some (.string t2) ∧ WrC w ng t1 t2 dn t W0.drew := ⟨c2, A0.out, ⟨D0.out.1, D0.out.2.1, D0.out.2.2.drew⟩⟩
    clear c0 c2 A0 D0
    go_wp2
    refine wp_region_quiet (C := (fun w' => w'.cell? ⟨w.heap.size, 2, none⟩ = some (.string t2) ∧ WrC w ng t1 t2 dn t w')) (by kernel_rfl) (by kernel_rfl) (hS) ?_
    dsimp only
    repeat (first
      | (refine wpQuiet_skip (by rfl) ?_; simp only [Act.put, List.setIfInBounds_toArray, List.set_cons_zero, List.set_cons_succ])
      | (refine wpQuiet_load 67 _ (w.heap.size) (0) [.bool ng, .string t1, .string t2, .bool dn, .string t] _ (fun wq hq => WrC.rg hq.2) Tryd.underlying67 sizePs rfl rfl rfl (by rfl) ?_; simp only [Act.put, List.setIfInBounds_toArray, List.set_cons_zero, List.set_cons_succ])
      | (refine' wpQuiet_take (by rfl) ?_ ?_
         rotate_left
         · (intro wq hq; (try dsimp only at hq); go_simp
            first
              | done
              | with_reducible rfl
              | (go_at_call 53; with_reducible refine (hpc.out _).mono ?_; rintro e wz ⟨rfl, hb⟩; exact ⟨rfl, WrC.c2 (WrC.kept hq.2 hb), WrC.kept hq.2 hb⟩)
           )
         simp only [Act.put, List.setIfInBounds_toArray, List.set_cons_zero, List.set_cons_succ]))
    refine wpQuiet_nil ?_
    rintro w2 ⟨-, A2, D2⟩
    have A2' := hid A2
    have D2' := hid D2
    clear A2 D2 hS hpc hx1 hx2 hx3
    go_wp2_with fail
    refine Calls.mono (hbc.out _) ?_
    rintro e w3 ⟨rfl, hw⟩
    obtain rfl : w2 = w3 := hw.symm
    clear hw
    clear hbc
    cases B with
    | false =>
      have hv := hid (show wrV ⟨ng, t1, t2, dn, t⟩ = .tuple #[.agg #[.bool false, .string ⟨#[]⟩, .int .i64 0], .int .i64 111] by rw [wrV, worthS, if_neg ha'.out, ← hex.out.1]; rfl)
      obtain ⟨⟨d0, d1, d2⟩, f0, f1, f2⟩ := D2'.out.facts
      go_wp2
      refine ret_dec rfl rfl (D2'.out.put _ _ _).2.1 rfl ⟨?_, (D2'.out.put _ _ _).2.2⟩
      rw [hv.out]
      rfl
    | true =>
      have hv := hid (show wrV ⟨ng, t1, t2, dn, t⟩ = .tuple #[.agg #[.bool ng, .string T3, .int .i64 x3], .int .i64 0] by
        rw [wrV, worthS, if_neg ha'.out, ← hex.out.1, if_pos rfl]
        show Value.tuple #[.agg #[.bool ng, .string ⟨(digS ⟨ng, t1, t2, dn, t⟩).toArray⟩, .int .i64 (expS ⟨ng, t1, t2, dn, t⟩)], .int .i64 0] = _
        rw [← hex.out.2 hex.out.1.symm, ← hdig.out, Lib.mk_data])
      have hcc := hid (fun w1 => clone_calls T3 (by omega) w1)
      clear hex ha' hdig hall
      go_wp2
      have hheld : w2.drew.cell? ⟨w.heap.size, 0, none⟩ = some (.bool ng) := A2'.out.cell 0
      refine wp_region_held_drew (S := fun w' => w'.cell? ⟨w.heap.size, 0, none⟩ = some (.bool ng)) (by kernel_rfl) hheld (fun hHeld => ?_)
      clear hHeld
      have hq0 : Below w2.heap.size w2 w2.drew := (Below.refl _ _).drew
      obtain ⟨v0, hv0⟩ : ∃ v, w2.drew = v := ⟨_, rfl⟩
      rw [hv0] at hq0 hheld ⊢
      clear hv0
      (refine' wpAnyH_take (i := 0) rfl (by kernel_rfl) (by kernel_rfl) (by kernel_rfl) (fun _ _ _ h => h) (Or.inl ⟨by rfl, ?_⟩) (by assumption) ?_; rotate_left; (· (intro wq hq; (try dsimp only at hq); go_simp; first | done | with_reducible rfl)); simp only [Act.put, List.getElem_toArray, List.getElem_cons_zero, List.setIfInBounds_toArray, List.set_cons_zero, List.set_cons_succ])
      (refine' wpAnyH_take (i := 1) rfl (by kernel_rfl) (by kernel_rfl) (by kernel_rfl) (fun _ _ _ h => h) (Or.inl ⟨by rfl, ?_⟩) (by assumption) ?_; rotate_left; (· (intro wq hq; (try dsimp only at hq); go_simp; first | done | with_reducible rfl)); simp only [Act.put, List.getElem_toArray, List.getElem_cons_zero, List.getElem_cons_succ, List.setIfInBounds_toArray, List.set_cons_zero, List.set_cons_succ])
      (refine' wpAnyH_take (i := 2) rfl (by kernel_rfl) (by kernel_rfl) (by kernel_rfl) (fun _ _ _ h => h) (Or.inl ⟨by rfl, ?_⟩) (by assumption) ?_; rotate_left; (· (intro wq hq; (try dsimp only at hq); go_simp; first | done | with_reducible rfl)); simp only [Act.put, List.getElem_toArray, List.getElem_cons_zero, List.getElem_cons_succ, List.setIfInBounds_toArray, List.set_cons_zero, List.set_cons_succ])
      (refine' wpAnyH_take (i := 4) rfl (by kernel_rfl) (by kernel_rfl) (by kernel_rfl) (fun _ _ _ h => h) (Or.inl ⟨by rfl, ?_⟩) (by assumption) ?_; rotate_left; (· (intro wq hq; (try dsimp only at hq); go_simp; first | done | with_reducible rfl)); simp only [Act.put, List.getElem_toArray, List.getElem_cons_zero, List.getElem_cons_succ, List.setIfInBounds_toArray, List.set_cons_zero, List.set_cons_succ])
      refine wpAnyH_ready (rs := [3]) (by kernel_rfl) (by simp) ?_
      refine AllReadyH.cons rfl (fun K hK => ?_) ?_
      · rw [if_pos (by rfl)]
        go_simp
        refine Calls.mono (hcc.out _) ?_
        rintro e v1 ⟨rfl, q1⟩
        have hq1 : Below w2.heap.size w2 v1 := hq0.trans (q1.mono hq0.size)
        have A3 := hid (A2'.out.keptAll hq1)
        have D3 := hid (D2'.out.kept hq1)
        refine hK.out _ _ (A3.out.cell 0) (fun _ => ?_)
        clear hK K hcc A2' D2' q1 hq1 hq0 hheld
        (refine' wpAnyH_take (i := 5) rfl (by kernel_rfl) (by kernel_rfl) (by kernel_rfl) (fun _ _ _ h => h) (Or.inl ⟨by rfl, ?_⟩) (by assumption) ?_; rotate_left; (· (intro wq hq; (try dsimp only at hq); go_simp; first | done | with_reducible rfl)); simp only [Act.put, List.getElem_toArray, List.getElem_cons_zero, List.getElem_cons_succ, List.setIfInBounds_toArray, List.set_cons_zero, List.set_cons_succ])
        refine wpAnyH_ready (rs := [6]) (by kernel_rfl) (by simp) ?_
        refine AllReadyH.cons rfl (fun K hK => ?_) ?_
        · obtain ⟨⟨d0, d1, d2⟩, f0, f1, f2⟩ := D3.out.facts
          go_simp
          refine hK.out _ _ (show World.cell? _ _ = _ from (((A3.out.other (p := ⟨w.heap.size + 1, 0, none⟩) (by simp) _).other (p := ⟨w.heap.size + 1, 1, none⟩) (by simp) _).other (p := ⟨w.heap.size + 1, 2, none⟩) (by simp) _).cell 0) (fun _ => ?_)
          clear hK K d0 d1 d2 f0 f1 f2
          (refine' wpAnyH_take (i := 7) rfl (by kernel_rfl) (by kernel_rfl) (by kernel_rfl) (fun _ _ _ h => h) (Or.inl ⟨by rfl, ?_⟩) (by assumption) ?_; rotate_left; (· (intro wq hq; (try dsimp only at hq); go_simp; first | done | with_reducible rfl)); simp only [Act.put, List.getElem_toArray, List.getElem_cons_zero, List.getElem_cons_succ, List.setIfInBounds_toArray, List.set_cons_zero, List.set_cons_succ])
          refine wpAnyH_done (by kernel_rfl) ?_ _
          go_wp2
          refine ret_dec rfl rfl (D3.out.put ng T3 x3).2.1 rfl ⟨?_, (D3.out.put ng T3 x3).2.2⟩
          rw [hv.out]
          rfl
        exact AllReadyH.nil
      exact AllReadyH.nil
end Go.Proofs.YtheeonlfbnkhgaaDoor
