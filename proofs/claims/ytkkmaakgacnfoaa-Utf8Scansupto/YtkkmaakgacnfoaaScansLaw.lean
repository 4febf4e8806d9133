/-
  Utf8Scans: every script of calls of two Scans in turns.
-/
import Derived.Test.YtkkmaakgacnfoaaOpsKit
import Derived.Test.YtkkmaakgacnfoaaUtf8Scan
import Derived.Test.YtkkmaakgacnfoaaBadsLaw
import Derived.Test.YtkkmaakgacnfoaaQuietC
import Derived.Deep.RegionHeld
import Derived.Deep.DeepCutAuto
import Derived.Lib.SlBytesConst
namespace Go.Proofs.Ytkkmaakgacnfoaa
open Go.RowKit

/-- Which of the two. -/
def pickOf (n : Int) : Nat := if n.tmod 2 = 0 then 0 else 1
set_option maxRecDepth 10000 in
theorem pick_calls (n : Int) (hn : (Lit.int .i64 n).wf = true) (w : World) : Calls Try.prog 13 #[.int .i64 n, .int .i64 2] w fun e w' => e = .returned (.int .i64 (pickOf n : Int)) ∧ w' = w := by
  have hb := wf_i64 hn
  have hc : n.tmod 2 = 0 ∨ n.tmod 2 = 1 ∨ n.tmod 2 = -1 := by
    rcases Int.le_total 0 n with h | h
    · rw [Int.tmod_eq_emod_of_nonneg h]; omega
    · have e := Int.neg_tmod (-n) 2
      rw [Int.neg_neg, Int.tmod_eq_emod_of_nonneg (show (0 : Int) ≤ -n by omega)] at e
      rw [e]; omega
  unfold pickOf
  rcases hc with h | h | h
  · rw [if_pos h]
    clear hn hb
    go_enter Try.func13, Try.ntmps13
    go_wp2
    go_ret
    exact ⟨rfl, rfl⟩
  · rw [if_neg (by rw [h]; decide)]
    clear hn hb
    go_enter Try.func13, Try.ntmps13
    go_wp2
    go_ret
    exact ⟨rfl, rfl⟩
  · rw [if_neg (by rw [h]; decide)]
    clear hn hb
    go_enter Try.func13, Try.ntmps13
    go_wp2
    go_ret
    exact ⟨rfl, rfl⟩
set_option maxRecDepth 10000 in
theorem refBeg_calls (s : ByteArray) (hs : s.size ≤ 4194304) (w : World) :
    Calls Try.prog 14 #[.string s] w fun e w' => e = .returned (.bool (!(runS s5 (byts s)).wrong)) ∧ Below w.heap.size w w' := by
  have hw := hid (refBad_calls s hs w)
  have hf := hid (fed_eq s)
  rw [fed_eq s]
  clear hs
  go_enter Try.func14, Try.ntmps14
  go_wp2_with fail
  refine Calls.mono hw.out ?_
  rintro e w1 ⟨rfl, hb⟩
  have hb' := hid hb
  clear hb hw
  by_cases h : badOf s = -1
  · have h2 : (badOf s == -1) = true := by simpa using h
    go_wp2
    go_ret
    exact ⟨by simp [h2], hb'.out⟩
  · have h2 : (badOf s == -1) = false := by simpa using h
    go_wp2
    go_ret
    exact ⟨by simp [h2], hb'.out⟩
/-- What stands between two calls of the script: the variables x and sofar, the two Scans, and the bytes that each has been fed. -/
def ScanI (w : World) (A0 A1 S0 S1 : ByteArray) (v0 v1 : Value) (wr : World) : Prop :=
  At wr w.heap.size #[.pointer (some ⟨w.heap.size + 1 + 1, 0, none⟩), .pointer (some ⟨w.heap.size + 1 + 1 + 1, 0, none⟩)] 26 ∧ At wr (w.heap.size + 1) #[v0, v1] 28 ∧
    At wr (w.heap.size + 1 + 1) (stC (runS s5 (byts S0))) 51 ∧ At wr (w.heap.size + 1 + 1 + 1) (stC (runS s5 (byts S1))) 51 ∧
    RowG wr (w.heap.size + 1 + 1 + 1 + 1) v0 A0 ∧ RowG wr (w.heap.size + 1 + 1 + 1 + 1) v1 A1 ∧ (v0.ownBlock = none ∨ v0.ownBlock ≠ v1.ownBlock) ∧ Below w.heap.size w wr
section
variable {w wr wq : World} {A0 A1 S0 S1 : ByteArray} {v0 v1 : Value}
theorem ScanI.kept (h : ScanI w A0 A1 S0 S1 v0 v1 wr) (hb : Below wr.heap.size wr wq) : ScanI w A0 A1 S0 S1 v0 v1 wq :=
  ⟨h.1.keptAll hb, h.2.1.keptAll hb, h.2.2.1.keptAll hb, h.2.2.2.1.keptAll hb, h.2.2.2.2.1.below hb, h.2.2.2.2.2.1.below hb, h.2.2.2.2.2.2.1, h.2.2.2.2.2.2.2.trans (hb.mono h.2.2.2.2.2.2.2.size)⟩
theorem ScanI.fed0 (h : ScanI w A0 A1 S0 S1 v0 v1 wr) {S : ByteArray} (hO : Only (w.heap.size + 1 + 1) wr wq) (hA : At wq (w.heap.size + 1 + 1) (stC (runS s5 (byts S))) 51) : ScanI w A0 A1 S S1 v0 v1 wq :=
  ⟨hO.at h.1 (by omega), hO.at h.2.1 (by omega), hA, hO.at h.2.2.2.1 (by omega), h.2.2.2.2.1.but hO.2.2 (by omega), h.2.2.2.2.2.1.but hO.2.2 (by omega), h.2.2.2.2.2.2.1, h.2.2.2.2.2.2.2.trans (hO.below (by omega))⟩
theorem ScanI.fed1 (h : ScanI w A0 A1 S0 S1 v0 v1 wr) {S : ByteArray} (hO : Only (w.heap.size + 1 + 1 + 1) wr wq) (hA : At wq (w.heap.size + 1 + 1 + 1) (stC (runS s5 (byts S))) 51) : ScanI w A0 A1 S0 S v0 v1 wq :=
  ⟨hO.at h.1 (by omega), hO.at h.2.1 (by omega), hO.at h.2.2.1 (by omega), hA, h.2.2.2.2.1.but hO.2.2 (by omega), h.2.2.2.2.2.1.but hO.2.2 (by omega), h.2.2.2.2.2.2.1, h.2.2.2.2.2.2.2.trans (hO.below (by omega))⟩
/-- Only the variable sofar is turned. -/
theorem set_but (W : World) (b i : Nat) (u : Value) : ∀ c, c ≠ b → (W.setCell ⟨b, i, none⟩ u).heap[c]? = W.heap[c]? := fun c hc => Below.heap_setCell W ⟨b, i, none⟩ u c hc
theorem ScanI.app0 (h : ScanI w A0 A1 S0 S1 v0 v1 wr) {z : ByteArray} {v : Value} (hown : RowG wq (w.heap.size + 1 + 1 + 1 + 1) v (A0 ++ z)) (hg : wr.grownBy wq v0.ownBlock) (hap : v.ownBlock = v0.ownBlock ∨ ∃ g, v.ownBlock = some g ∧ wr.heap.size ≤ g) :
    ScanI w (A0 ++ z) A1 S0 S1 v v1 (wq.setCell ⟨w.heap.size + 1, 0, none⟩ v) := by
  obtain ⟨h1, h2, h3, h4, h5, h6, h7, h8⟩ := h
  have at' : ∀ {b : Nat} {cs : Array Value} {t : TypeId}, At wr b cs t → b < w.heap.size + 1 + 1 + 1 + 1 → At wq b cs t := fun ha hb => (hg.block _ ha.lt (fun e => by have := (h5.lt _ e.symm).1; omega)).trans ha
  have k6 : RowG wq (w.heap.size + 1 + 1 + 1 + 1) v1 A1 := h6.kept hg (by
    rcases h7 with e | e
    · by_cases e1 : v1.ownBlock = none
      · exact .inl e1
      · exact .inr (by rw [e]; exact e1)
    · exact .inr (fun k => e k.symm))
  have a2 := at' h2 (by omega)
  refine ⟨(at' h1 (by omega)).other (p := ⟨w.heap.size + 1, 0, none⟩) (by show w.heap.size ≠ w.heap.size + 1; omega) _, ?_, (at' h3 (by omega)).other (p := ⟨w.heap.size + 1, 0, none⟩) (by show w.heap.size + 1 + 1 ≠ w.heap.size + 1; omega) _, (at' h4 (by omega)).other (p := ⟨w.heap.size + 1, 0, none⟩) (by show w.heap.size + 1 + 1 + 1 ≠ w.heap.size + 1; omega) _, hown.but (set_but _ _ _ _) (by omega), k6.but (set_but _ _ _ _) (by omega), ?_, (h8.grown hg (by have := h1.lt; omega) (fun k e => by have := (h5.lt k e).1; omega)).setCell (p := ⟨w.heap.size + 1, 0, none⟩) (by show w.heap.size ≤ w.heap.size + 1; omega) _⟩
  · simpa using a2.set 0 v
  · rcases hap with e | ⟨g, e, hle⟩
    · rw [e]; exact h7
    · right
      rw [e]
      intro k
      have := (h6.lt g k.symm).2
      omega
theorem ScanI.app1 (h : ScanI w A0 A1 S0 S1 v0 v1 wr) {z : ByteArray} {v : Value} (hown : RowG wq (w.heap.size + 1 + 1 + 1 + 1) v (A1 ++ z)) (hg : wr.grownBy wq v1.ownBlock) (hap : v.ownBlock = v1.ownBlock ∨ ∃ g, v.ownBlock = some g ∧ wr.heap.size ≤ g) :
    ScanI w A0 (A1 ++ z) S0 S1 v0 v (wq.setCell ⟨w.heap.size + 1, 1, none⟩ v) := by
  obtain ⟨h1, h2, h3, h4, h5, h6, h7, h8⟩ := h
  have at' : ∀ {b : Nat} {cs : Array Value} {t : TypeId}, At wr b cs t → b < w.heap.size + 1 + 1 + 1 + 1 → At wq b cs t := fun ha hb => (hg.block _ ha.lt (fun e => by have := (h6.lt _ e.symm).1; omega)).trans ha
  have k5 : RowG wq (w.heap.size + 1 + 1 + 1 + 1) v0 A0 := h5.kept hg h7
  have a2 := at' h2 (by omega)
  refine ⟨(at' h1 (by omega)).other (p := ⟨w.heap.size + 1, 1, none⟩) (by show w.heap.size ≠ w.heap.size + 1; omega) _, ?_, (at' h3 (by omega)).other (p := ⟨w.heap.size + 1, 1, none⟩) (by show w.heap.size + 1 + 1 ≠ w.heap.size + 1; omega) _, (at' h4 (by omega)).other (p := ⟨w.heap.size + 1, 1, none⟩) (by show w.heap.size + 1 + 1 + 1 ≠ w.heap.size + 1; omega) _, k5.but (set_but _ _ _ _) (by omega), hown.but (set_but _ _ _ _) (by omega), ?_, (h8.grown hg (by have := h1.lt; omega) (fun k e => by have := (h6.lt k e).1; omega)).setCell (p := ⟨w.heap.size + 1, 1, none⟩) (by show w.heap.size ≤ w.heap.size + 1; omega) _⟩
  · simpa using a2.set 1 v
  · rcases hap with e | ⟨g, e, hle⟩
    · rw [e]; exact h7
    · by_cases k : v0.ownBlock = none
      · exact .inl k
      · right
        rw [e]
        intro k2
        have := (h5.lt g k2).2
        omega
end
theorem scan_set1 {w W : World} {A0 S0 S1 : ByteArray} {v : Value} {A1 : ByteArray} (h : ScanI w A0 ByteArray.empty S0 S1 (.slice none 0 0) (.slice none 0 0) W) (hr : RowG W (w.heap.size + 1 + 1 + 1 + 1) v A1) : ScanI w A0 A1 S0 S1 (.slice none 0 0) v (W.setCell ⟨w.heap.size + 1, 1, none⟩ v) := by
  obtain ⟨h1, h2, h3, h4, h5, h6, h7, h8⟩ := h
  refine ⟨h1.other (p := ⟨w.heap.size + 1, 1, none⟩) (by show w.heap.size ≠ w.heap.size + 1; omega) _, ?_, h3.other (p := ⟨w.heap.size + 1, 1, none⟩) (by show w.heap.size + 1 + 1 ≠ w.heap.size + 1; omega) _, h4.other (p := ⟨w.heap.size + 1, 1, none⟩) (by show w.heap.size + 1 + 1 + 1 ≠ w.heap.size + 1; omega) _, h5.but (set_but _ _ _ _) (by omega), hr.but (set_but _ _ _ _) (by omega), .inl rfl, h8.setCell (p := ⟨w.heap.size + 1, 1, none⟩) (by show w.heap.size ≤ w.heap.size + 1; omega) _⟩
  simpa using h2.set 1 v
theorem scan_start (w : World) : ScanI w ByteArray.empty ByteArray.empty ByteArray.empty ByteArray.empty (.slice none 0 0) (.slice none 0 0)
    ((((w.alloc (.cells #[.pointer (some ⟨w.heap.size + 1 + 1, 0, none⟩), .pointer (some ⟨w.heap.size + 1 + 1 + 1, 0, none⟩)] 26)).alloc (.cells #[.slice none 0 0, .slice none 0 0] 28)).alloc (.cells (stC s5) 51)).alloc (.cells (stC s5) 51)) := by
  refine ⟨(((At.new w _ _).alloc _).alloc _).alloc _, ?_, ?_, ?_, Or.inl (World.ownsRow_nil _ _ _ _), Or.inl (World.ownsRow_nil _ _ _ _), .inl rfl, by repeat (first | with_reducible exact Below.refl _ _ | with_reducible refine Below.setCell ?_ (by first | (simp; done) | (simp; omega)) _ | with_reducible refine below_drewN ?_ _ | with_reducible refine Below.alloc ?_ (by first | (simp; done) | (simp; omega)) _ | with_reducible refine Below.drew ?_)⟩
  · have h := ((At.new (w.alloc (.cells #[.pointer (some ⟨w.heap.size + 1 + 1, 0, none⟩), .pointer (some ⟨w.heap.size + 1 + 1 + 1, 0, none⟩)] 26)) #[.slice none 0 0, .slice none 0 0] 28).alloc (.cells (stC s5) 51)).alloc (.cells (stC s5) 51)
    simpa using h
  · have h := (At.new ((w.alloc (.cells #[.pointer (some ⟨w.heap.size + 1 + 1, 0, none⟩), .pointer (some ⟨w.heap.size + 1 + 1 + 1, 0, none⟩)] 26)).alloc (.cells #[.slice none 0 0, .slice none 0 0] 28)) (stC s5) 51).alloc (.cells (stC s5) 51)
    have e : runS s5 (byts ByteArray.empty) = s5 := rfl
    rw [e]
    simpa using h
  · have h := At.new (((w.alloc (.cells #[.pointer (some ⟨w.heap.size + 1 + 1, 0, none⟩), .pointer (some ⟨w.heap.size + 1 + 1 + 1, 0, none⟩)] 26)).alloc (.cells #[.slice none 0 0, .slice none 0 0] 28)).alloc (.cells (stC s5) 51)) (stC s5) 51
    have e : runS s5 (byts ByteArray.empty) = s5 := rfl
    rw [e]
    simpa using h

theorem len_sizesO (L : List Op5) : L.length ≤ sizesO L := by
  induction L with
  | nil => exact Nat.le_refl _
  | cons o r ih => show r.length + 1 ≤ o.s.size + 1 + sizesO r; omega
theorem wp_append_rowG {o : Oper} {a : Act} {w w' : World} {K : Act → World → Prop} {Q : Exit → Act → World → Prop} {x y : Operand} {v v' : Value} {t : ByteArray} (ho : o.op = .call { callee := .builtin .append, args := #[x, y], argTypes := #[27, 9] }) (hx : a.eval x = v) (hy : a.eval y = .string t)
    (hr : (Builtin.append_ #[27, 9] o.type #[v, .string t]).run Try.prog w = .ok v' w') (h : K (a.put o.dst v') w') : o.wp Try.prog a w K Q := by
  unfold Oper.wp execOp
  simp only [ho, resolve, invoke, builtin, Sem.run_bind, Sem.run_pure, Result.andThen_ok, List.map_toArray, List.map_cons, List.map_nil, hx, hy, hr]
  exact h

set_option maxRecDepth 100000 in
set_option maxHeartbeats 8000000 in
theorem utf8Scans_walk (ao : Option Addr) (cap : Nat) (L : List Op5) (hb : sizesO L ≤ 1048576) (w : World) (hin : OpsOf w ao L) :
    Calls Try.prog 4 #[.slice ao L.length cap] w fun e w' => e = .returned (.bool true) ∧ Below w.heap.size w w' := by
  have hin' := hid hin
  have hb' := hid hb
  clear hin hb
  go_enter Try.func4, Try.ntmps4
  go_wp2_with fail
  refine (newS_calls _).mono ?_
  rintro e w1 ⟨rfl, hw1⟩
  rw [hw1]
  clear hw1
  go_wp2_with fail
  refine (newS_calls _).mono ?_
  rintro e w2 ⟨rfl, hw2⟩
  rw [hw2]
  clear hw2
  go_upto_region 6 with fail
  have hS := hid (scan_start w)
  obtain ⟨W6, hW6⟩ : ∃ W6, W6 = ((((w.alloc (.cells #[.pointer (some ⟨w.heap.size + 1 + 1, 0, none⟩), .pointer (some ⟨w.heap.size + 1 + 1 + 1, 0, none⟩)] 26)).alloc (.cells #[.slice none 0 0, .slice none 0 0] 28)).alloc (.cells (stC s5) 51)).alloc (.cells (stC s5) 51)) := ⟨_, rfl⟩
  rw [← hW6] at hS ⊢
  clear hW6
  have c0 := hS.out.1.cell 0
  have c1 := hS.out.1.cell 1
  simp only [List.getElem?_toArray, List.getElem?_cons_zero, List.getElem?_cons_succ] at c0 c1
  have u1 : badI (runS s5 (byts ByteArray.empty)) = -1 := by decide
  have u2 : (!(runS (runS s5 (byts ByteArray.empty)) (byts ⟨#[195]⟩)).wrong) = true := by decide
  have u3 : badI (runS s5 (byts ⟨#[195]⟩)) = 1 := by decide
  have u4 : (!(runS (runS s5 (byts ⟨#[195]⟩)) (byts ⟨#[97]⟩)).wrong) = false := by decide
  have u5 : badI (runS s5 (byts ⟨#[195, 97]⟩)) = 1 := by decide
  go_wp2_with fail
  refine (end_calls _ _ _ _ hS.out.2.2.1).mono ?_
  rintro e w3 ⟨rfl, hw3⟩
  rw [hw3, u1]
  clear hw3
  go_wp2_with fail
  refine (feed_calls _ _ _ ⟨#[195]⟩ _ hS.out.2.2.2.1 (by decide) (by decide)).mono ?_
  rintro e W7 ⟨rfl, hO, hA⟩
  rw [u2]
  have hS7 := hid (hS.out.fed1 (S := ⟨#[195]⟩) hO hA)
  clear hO hA hS c0 c1
  have c0 := hS7.out.1.cell 0
  have c1 := hS7.out.1.cell 1
  simp only [List.getElem?_toArray, List.getElem?_cons_zero, List.getElem?_cons_succ] at c0 c1
  go_wp2_with fail
  refine (end_calls _ _ _ _ hS7.out.2.2.2.1).mono ?_
  rintro e w3 ⟨rfl, hw3⟩
  rw [hw3, u3]
  clear hw3
  go_wp2_with fail
  refine (feed_calls _ _ _ ⟨#[97]⟩ _ hS7.out.2.2.2.1 (by decide) (by decide)).mono ?_
  rintro e W8 ⟨rfl, hO, hA⟩
  rw [u4]
  have hS8 := hid (hS7.out.fed1 (S := ⟨#[195, 97]⟩) hO hA)
  clear hO hA hS7 c0 c1
  have c0 := hS8.out.1.cell 0
  have c1 := hS8.out.1.cell 1
  simp only [List.getElem?_toArray, List.getElem?_cons_zero, List.getElem?_cons_succ] at c0 c1
  go_wp2_with fail
  refine (end_calls _ _ _ _ hS8.out.2.2.2.1).mono ?_
  rintro e w3 ⟨rfl, hw3⟩
  rw [hw3, u5]
  clear hw3 u1 u2 u3 u4 u5 c0 c1
  have hcc := Lib.run_convert_bytes_const (P := Try.prog) W8 27 5 #[.int .u8 195, .int .u8 97] 2 2 Try.underlying27 Try.underlying5
  obtain ⟨W9, hW9⟩ : ∃ W9, W8.alloc (.cells #[.int .u8 195, .int .u8 97] 5 ((#[.int .u8 195, .int .u8 97] : Array Value).size, (#[.int .u8 195, .int .u8 97] : Array Value).size + 1)) = W9 := ⟨_, rfl⟩
  rw [hW9] at hcc
  have hS9 := hid (hS8.out.kept (wq := W9) (by rw [← hW9]; exact (Below.refl _ _).alloc (Nat.le_refl _) _))
  have hrow := hid (show RowG W9 (w.heap.size + 1 + 1 + 1 + 1) (.slice (some ⟨W8.heap.size, 0, none⟩) 2 2) (⟨#[195, 97]⟩ : ByteArray) from .inr ⟨W8.heap.size, #[.int .u8 195, .int .u8 97], _, rfl, hS8.out.2.2.2.1.lt, by rw [← hW9]; exact new_block5 _ _, rfl⟩)
  have d1 := hS9.out.2.1.cell 1
  have e1 := hS9.out.2.1.frozen 1
  simp only [List.getElem?_toArray, List.getElem?_cons_zero, List.getElem?_cons_succ] at d1
  have hSt := hid (scan_set1 hS9.out hrow.out)
  clear hW9 hS8 hS9 hrow
  go_wp2
  clear hcc d1 e1
  generalize W8.heap.size = g0 at *
  obtain ⟨Wz, hWz⟩ : ∃ Wz, W9.setCell ⟨w.heap.size + 1, 1, none⟩ (.slice (some ⟨g0, 0, none⟩) 2 2) = Wz := ⟨_, rfl⟩
  rw [hWz] at hSt ⊢
  clear hWz
  go_loopw [5, 6] (fun kk ii wr => ∃ (i wk : Nat) (A0 A1 : ByteArray) (v0 v1 : Value), ii = .int .i64 (i : Int) ∧ kk = .int .i64 (wk : Int) ∧ i ≤ L.length ∧ Hid (wk ≤ i * 1048600) ∧ Hid (A0.size + A1.size + sizesO (L.drop i) ≤ 1048600) ∧ Hid (ScanI w A0 A1 A0 A1 v0 v1 wr)) (fun _ ii _ => L.length - (intOf ii).toNat)
  case atStart => exact ⟨0, 0, ByteArray.empty, ⟨#[195, 97]⟩, .slice none 0 0, .slice (some ⟨g0, 0, none⟩) 2 2, rfl, rfl, Nat.zero_le _, hid (Nat.zero_le _), hid (by have := hb'.out; show 0 + 2 + sizesO L ≤ _; omega), hSt⟩
  case round =>
    clear hSt
    obtain ⟨i, wk, A0, A1, v0, v1, rfl, rfl, hil, hwk, hsz, hS⟩ := hrel
    by_cases hlt : i < L.length
    · have hli : (i : Int) < (L.length : Int) := by omega
      obtain ⟨o, ho⟩ : ∃ o, L[i]? = some o := ⟨_, List.getElem?_eq_getElem hlt⟩
      obtain ⟨hwf, bb, off, rfl, hbb, m0, m1, m2⟩ := hin'.out i o ho
      have hdr := hid (show sizesO (L.drop i) = o.s.size + 1 + sizesO (L.drop (i + 1)) by
        have hd : L.drop i = o :: L.drop (i + 1) := by
          rw [List.drop_eq_getElem_cons hlt]
          rw [List.getElem?_eq_getElem hlt] at ho
          rw [Option.some.inj ho]
        rw [hd]; rfl)
      have hBw := hS.out.2.2.2.2.2.2.2
      have n0 := (hBw.cell (p := ⟨bb, off + i * 3, none⟩) hbb).trans m0
      have n1 := (hBw.cell (p := ⟨bb, off + i * 3 + 1, none⟩) hbb).trans m1
      have n2 := (hBw.cell (p := ⟨bb, off + i * 3 + 2, none⟩) hbb).trans m2
      have m2' := hid m2
      have hbb' := hid hbb
      clear hBw m0 m1 m2 ho hbb
      have hpk := hid (pick_calls o.on hwf wr)
      go_wp2_with fail
      refine Calls.mono hpk.out ?_
      rintro e wp ⟨rfl, hwp⟩
      rw [hwp]
      clear hwp hpk hwf
      have hi2 : (i : Int) ≤ 1048576 := by have := len_sizesO L; have := hb'.out; omega
      have hpc : pickOf o.on = 0 ∨ pickOf o.on = 1 := by unfold pickOf; split <;> simp
      rcases hpc with hp | hp
      · rw [hp]
        clear hp
        obtain ⟨vo, vc, hvs⟩ := hS.out.2.2.2.2.1.slice
        have y0 := hS.out.2.1.cell 0
        simp only [List.getElem?_toArray, List.getElem?_cons_zero] at y0
        have y0' := hid y0
        rw [hvs] at y0
        have hAs : A0.size ≤ 1048600 := by have := hsz.out; omega
        have hwk2 : wk + A0.size ≤ (i + 1) * 1048600 := by have := hwk.out; omega
        have hwk3 := hid hwk2
        have hwki : (wk : Int) + (A0.size : Int) ≤ 4611686018427387904 := by have := len_sizesO L; have := hb'.out; have : (i + 1) * 1048600 ≤ 1048577 * 1048600 := Nat.mul_le_mul (by omega) (Nat.le_refl _); omega
        have hAs' := hid hAs
        have hvs' := hid hvs
        clear hwk2 hAs hvs
        cases hfd : o.feed with
        | true =>
          rw [hfd] at n1
          clear hfd
          have z0 : wr.frozen? ⟨w.heap.size + 1, 0, none⟩ = false := hS.out.2.1.frozen 0
          have hrowd : RowG wr.drew (w.heap.size + 1 + 1 + 1 + 1) v0 A0 := hS.out.2.2.2.2.1.below ((Below.refl _ _).drew)
          obtain ⟨v', W1, hap, hrow, hgr, hapt⟩ := hrowd.append (ty := 27) (t := o.s) (by have := hsz.out; have := hdr.out; omega) hS.out.2.2.2.1.lt
          rw [hvs'.out] at hap
          obtain ⟨vo', vc', hv'⟩ := hrow.slice
          obtain ⟨ns, hns⟩ : ∃ ns, (A0 ++ o.s).size = ns := ⟨_, rfl⟩
          rw [hns] at hv'
          subst hv'
          have hns' := hid hns
          clear hns
          have hAtY : At W1 (w.heap.size + 1) #[v0, v1] 28 := (hgr.block _ hS.out.2.1.lt (fun e => by have := (hS.out.2.2.2.2.1.lt _ e.symm).1; omega)).trans hS.out.2.1
          have s1 : W1.cell? ⟨bb, off + i * 3 + 2, none⟩ = some (.string o.s) := (World.cell?_of_block (w := wr) (hgr.block bb (by have := hbb'.out; have := hS.out.2.2.2.2.2.2.2.size; show bb < wr.heap.size; omega) (fun e => by have := (hS.out.2.2.2.2.1.lt _ e.symm).1; have := hbb'.out; omega))).trans n2
          have t1 := hAtY.cell 0
          have t2 := hAtY.frozen 0
          simp only [List.getElem?_toArray, List.getElem?_cons_zero] at t1
          have hS2 := hid (ScanI.app0 (h := hS.out.kept ((Below.refl _ _).drew)) hrow hgr hapt)
          clear hAtY hrowd hrow hgr hapt
          go_wp2_with fail
          rename_i K15 hK15
          refine wp_region_held_drew (S := fun w' => w'.cell? ⟨bb, off + i * 3 + 2, none⟩ = some (.string o.s)) (by kernel_rfl) n2 (fun hHeld => ?_)
          (refine' wpAnyH_take (i := 0) rfl (by kernel_rfl) (by kernel_rfl) (by kernel_rfl) (fun _ _ _ h => h) (Or.inl ⟨by rfl, ?_⟩) (by assumption) ?_; rotate_left; (· (intro wq hq; (try dsimp only at hq); go_simp; first | done | with_reducible rfl)); simp only [Act.put, List.getElem_toArray, List.getElem_cons_zero, List.setIfInBounds_toArray, List.set_cons_zero, List.set_cons_succ])
          (refine' wpAnyH_take (i := 1) rfl (by kernel_rfl) (by kernel_rfl) (by kernel_rfl) (fun _ _ _ h => h) (Or.inl ⟨by rfl, ?_⟩) (by assumption) ?_; rotate_left; (· (intro wq hq; (try dsimp only at hq); go_simp; first | done | with_reducible rfl)); simp only [Act.put, List.getElem_toArray, List.getElem_cons_zero, List.getElem_cons_succ, List.setIfInBounds_toArray, List.set_cons_zero, List.set_cons_succ])
          (refine' wpAnyH_take (i := 2) rfl (by kernel_rfl) (by kernel_rfl) (by kernel_rfl) (fun _ _ _ h => h) (Or.inl ⟨by rfl, ?_⟩) (by assumption) ?_; rotate_left; (· (intro wq hq; (try dsimp only at hq); go_simp; first | done | with_reducible rfl)); simp only [Act.put, List.getElem_toArray, List.getElem_cons_zero, List.getElem_cons_succ, List.setIfInBounds_toArray, List.set_cons_zero, List.set_cons_succ])
          (refine' wpAnyH_take (i := 4) rfl (by kernel_rfl) (by kernel_rfl) (by kernel_rfl) (fun _ _ _ h => h) (Or.inl ⟨by rfl, ?_⟩) (by assumption) ?_; rotate_left; (· (intro wq hq; (try dsimp only at hq); go_simp; first | done | with_reducible rfl)); simp only [Act.put, List.getElem_toArray, List.getElem_cons_zero, List.getElem_cons_succ, List.setIfInBounds_toArray, List.set_cons_zero, List.set_cons_succ])
          (refine' wpAnyH_take (i := 5) rfl (by kernel_rfl) (by kernel_rfl) (by kernel_rfl) (fun _ _ _ h => h) (Or.inl ⟨by rfl, ?_⟩) (by assumption) ?_; rotate_left; (· (intro wq hq; (try dsimp only at hq); go_simp; first | done | with_reducible rfl)); simp only [Act.put, List.getElem_toArray, List.getElem_cons_zero, List.getElem_cons_succ, List.setIfInBounds_toArray, List.set_cons_zero, List.set_cons_succ])
          (refine' wpAnyH_take (i := 6) rfl (by kernel_rfl) (by kernel_rfl) (by kernel_rfl) (fun _ _ _ h => h) (Or.inl ⟨by rfl, ?_⟩) (by assumption) ?_; rotate_left; (· (intro wq hq; (try dsimp only at hq); go_simp; first | done | with_reducible rfl)); simp only [Act.put, List.getElem_toArray, List.getElem_cons_zero, List.getElem_cons_succ, List.setIfInBounds_toArray, List.set_cons_zero, List.set_cons_succ])
          (refine' wpAnyH_take (i := 7) rfl (by kernel_rfl) (by kernel_rfl) (by kernel_rfl) (fun _ _ _ h => h) (Or.inl ⟨by rfl, ?_⟩) (by assumption) ?_; rotate_left; (· (intro wq hq; (try dsimp only at hq); go_simp; first | done | with_reducible rfl)); simp only [Act.put, List.getElem_toArray, List.getElem_cons_zero, List.getElem_cons_succ, List.setIfInBounds_toArray, List.set_cons_zero, List.set_cons_succ])
          (refine' wpAnyH_take (i := 8) rfl (by kernel_rfl) (by kernel_rfl) (by kernel_rfl) (fun _ _ _ h => h) (Or.inl ⟨by rfl, ?_⟩) (by assumption) ?_; rotate_left; (· (intro wq hq; (try dsimp only at hq); go_simp; first | done | with_reducible rfl)); simp only [Act.put, List.getElem_toArray, List.getElem_cons_zero, List.getElem_cons_succ, List.setIfInBounds_toArray, List.set_cons_zero, List.set_cons_succ])
          refine wpAnyH_ready (rs := [3]) (by kernel_rfl) (by simp) ?_
          refine AllReadyH.cons rfl (fun K hK => ?_) ?_
          · go_simp
            refine hK.out _ _ hHeld (fun hH => ?_)
            clear hK K
            refine wpAnyH_ready (rs := [9]) (by kernel_rfl) (by simp) ?_
            refine AllReadyH.cons rfl (fun K hK => ?_) ?_
            · rw [if_pos (by rfl)]
              refine wp_append_rowG rfl rfl rfl hap ?_
              refine hK.out _ _ s1 (fun hH2 => ?_)
              clear hK K
              (refine' wpAnyH_take (i := 10) rfl (by kernel_rfl) (by kernel_rfl) (by kernel_rfl) (fun _ _ _ h => h) (Or.inl ⟨by rfl, ?_⟩) (by assumption) ?_; rotate_left; (· (intro wq hq; (try dsimp only at hq); go_simp; first | done | with_reducible rfl)); simp only [Act.put, List.getElem_toArray, List.getElem_cons_zero, List.getElem_cons_succ, List.setIfInBounds_toArray, List.set_cons_zero, List.set_cons_succ])
              refine wpAnyH_ready (rs := [11]) (by kernel_rfl) (by simp) ?_
              refine AllReadyH.cons rfl (fun K hK => ?_) ?_
              · go_simp
                refine hK.out _ _ ((hS2.out.2.2.2.2.2.2.2.cell (p := ⟨bb, off + i * 3 + 2, none⟩) hbb'.out).trans m2'.out) (fun hH3 => ?_)
                clear hK K
                refine wpAnyH_done (by kernel_rfl) ?_ _
                refine hK15 _ _ ?_
                obtain ⟨W2, hW2⟩ : ∃ W2, W1.setCell ⟨w.heap.size + 1, 0, none⟩ (.slice vo' ns vc') = W2 := ⟨_, rfl⟩
                rw [hW2] at hS2 ⊢
                clear hW2 hap s1 t1 t2 n0 n1 n2 y0 z0 hS hH hH2 hH3
                have n2 : W2.cell? ⟨bb, off + i * 3 + 2, none⟩ = some (.string o.s) := (hS2.out.2.2.2.2.2.2.2.cell (p := ⟨bb, off + i * 3 + 2, none⟩) hbb'.out).trans m2'.out
                have x0 := hS2.out.1.cell 0
                simp only [List.getElem?_toArray, List.getElem?_cons_zero] at x0
                go_wp2_with fail
                rename_i K16 hK16
                refine wp_region_held_drew (S := fun w' => w'.cell? ⟨w.heap.size, 0, none⟩ = some (.pointer (some ⟨w.heap.size + 1 + 1, 0, none⟩)) ∧ w'.cell? ⟨bb, off + i * 3 + 2, none⟩ = some (.string o.s)) (by kernel_rfl) ⟨x0, n2⟩ (fun hHeld => ?_)
                (refine' wpAnyH_take (i := 0) rfl (by kernel_rfl) (by kernel_rfl) (by kernel_rfl) (fun _ _ _ h => h) (Or.inl ⟨by rfl, ?_⟩) (by assumption) ?_; rotate_left; (· (intro wq hq; (try dsimp only at hq); go_simp; first | done | with_reducible rfl)); simp only [Act.put, List.getElem_toArray, List.getElem_cons_zero, List.setIfInBounds_toArray, List.set_cons_zero, List.set_cons_succ])
                (refine' wpAnyH_take (i := 1) rfl (by kernel_rfl) (by kernel_rfl) (by kernel_rfl) (fun _ _ _ h => h) (Or.inl ⟨by rfl, ?_⟩) (by assumption) ?_; rotate_left; (· (intro wq hq; (try dsimp only at hq); go_simp; first | done | with_reducible rfl)); simp only [Act.put, List.getElem_toArray, List.getElem_cons_zero, List.getElem_cons_succ, List.setIfInBounds_toArray, List.set_cons_zero, List.set_cons_succ])
                (refine' wpAnyH_take (i := 2) rfl (by kernel_rfl) (by kernel_rfl) (by kernel_rfl) (fun _ _ _ h => h) (Or.inl ⟨by rfl, ?_⟩) (by assumption) ?_; rotate_left; (· (intro wq hq; (try dsimp only at hq); go_simp; first | done | with_reducible rfl)); simp only [Act.put, List.getElem_toArray, List.getElem_cons_zero, List.getElem_cons_succ, List.setIfInBounds_toArray, List.set_cons_zero, List.set_cons_succ])
                (refine' wpAnyH_take (i := 3) rfl (by kernel_rfl) (by kernel_rfl) (by kernel_rfl) (fun _ _ _ h => h) (Or.inl ⟨by rfl, ?_⟩) (by assumption) ?_; rotate_left; (· (intro wq hq; (try dsimp only at hq); go_simp; first | done | with_reducible rfl)); simp only [Act.put, List.getElem_toArray, List.getElem_cons_zero, List.getElem_cons_succ, List.setIfInBounds_toArray, List.set_cons_zero, List.set_cons_succ])
                (refine' wpAnyH_take (i := 4) rfl (by kernel_rfl) (by kernel_rfl) (by kernel_rfl) (fun _ _ _ h => h) (Or.inl ⟨by rfl, ?_⟩) (by assumption) ?_; rotate_left; (· (intro wq hq; (try dsimp only at hq); go_simp; first | done | with_reducible rfl)); simp only [Act.put, List.getElem_toArray, List.getElem_cons_zero, List.getElem_cons_succ, List.setIfInBounds_toArray, List.set_cons_zero, List.set_cons_succ])
                (refine' wpAnyH_take (i := 5) rfl (by kernel_rfl) (by kernel_rfl) (by kernel_rfl) (fun _ _ _ h => h) (Or.inl ⟨by rfl, ?_⟩) (by assumption) ?_; rotate_left; (· (intro wq hq; (try dsimp only at hq); go_simp; first | done | with_reducible rfl)); simp only [Act.put, List.getElem_toArray, List.getElem_cons_zero, List.getElem_cons_succ, List.setIfInBounds_toArray, List.set_cons_zero, List.set_cons_succ])
                (refine' wpAnyH_take (i := 6) rfl (by kernel_rfl) (by kernel_rfl) (by kernel_rfl) (fun _ _ _ h => h) (Or.inl ⟨by rfl, ?_⟩) (by assumption) ?_; rotate_left; (· (intro wq hq; (try dsimp only at hq); go_simp; first | done | with_reducible rfl)); simp only [Act.put, List.getElem_toArray, List.getElem_cons_zero, List.getElem_cons_succ, List.setIfInBounds_toArray, List.set_cons_zero, List.set_cons_succ])
                (refine' wpAnyH_take (i := 7) rfl (by kernel_rfl) (by kernel_rfl) (by kernel_rfl) (fun _ _ _ h => h) (Or.inl ⟨by rfl, ?_⟩) (by assumption) ?_; rotate_left; (· (intro wq hq; (try dsimp only at hq); go_simp; first | done | with_reducible rfl)); simp only [Act.put, List.getElem_toArray, List.getElem_cons_zero, List.getElem_cons_succ, List.setIfInBounds_toArray, List.set_cons_zero, List.set_cons_succ])
                refine wpAnyH_ready (rs := [8]) (by kernel_rfl) (by simp) ?_
                refine AllReadyH.cons rfl (fun K hK => ?_) ?_
                · rw [if_pos (by rfl)]
                  go_simp
                  have hAtS : At W2.drew (w.heap.size + 1 + 1) (stC (runS s5 (byts A0))) 51 := hS2.out.2.2.1
                  refine (feed_calls _ _ _ o.s _ hAtS (runS_left (by decide) _) (by have := runS_good s5 (byts A0); rw [byts_length] at this; have e : s5.good = 0 := rfl; have := hsz.out; have := hdr.out; omega)).mono ?_
                  rintro e W5 ⟨rfl, hO5, hA5⟩
                  rw [← runS_append, ← byts_append] at hA5 ⊢
                  have hS5 := hid (ScanI.fed0 (h := hS2.out.kept ((Below.refl _ _).drew)) hO5 hA5)
                  have x5 := hS5.out.1.cell 0
                  simp only [List.getElem?_toArray, List.getElem?_cons_zero] at x5
                  refine hK.out _ _ ⟨x5, (hS5.out.2.2.2.2.2.2.2.cell (p := ⟨bb, off + i * 3 + 2, none⟩) hbb'.out).trans m2'.out⟩ (fun hH => ?_)
                  clear hK K
                  (refine' wpAnyH_take (i := 9) rfl (by kernel_rfl) (by kernel_rfl) (by kernel_rfl) (fun _ _ _ h => h) (Or.inl ⟨by rfl, ?_⟩) (by assumption) ?_; rotate_left; (· (intro wq hq; (try dsimp only at hq); go_simp; first | done | with_reducible rfl)); simp only [Act.put, List.getElem_toArray, List.getElem_cons_zero, List.getElem_cons_succ, List.setIfInBounds_toArray, List.set_cons_zero, List.set_cons_succ])
                  refine wpAnyH_done (by kernel_rfl) ?_ _
                  refine hK16 _ _ ?_
                  clear hO5 hA5 hAtS hS2 n2 x0 x5 hH
                  have hcv := hid (hS5.out.2.2.2.2.1).conv
                  have hbg := hid (refBeg_calls (A0 ++ o.s) (by rw [ByteArray.size_append]; have := hsz.out; have := hdr.out; omega))
                  have y5 := hS5.out.2.1.cell 0
                  simp only [List.getElem?_toArray, List.getElem?_cons_zero] at y5
                  have hfin : ∀ W6, Below W5.heap.size W5 W6 → ∃ (i' wk' : Nat) (A0' A1' : ByteArray) (v0' v1' : Value), (.int .i64 ((i : Int) + 1) : Value) = .int .i64 (i' : Int) ∧ (.int .i64 ((wk : Int) + (A0.size : Int)) : Value) = .int .i64 (wk' : Int) ∧ i' ≤ L.length ∧ Hid (wk' ≤ i' * 1048600) ∧ Hid (A0'.size + A1'.size + sizesO (L.drop i') ≤ 1048600) ∧ Hid (ScanI w A0' A1' A0' A1' v0' v1' W6) := fun W6 hb6 =>
                    ⟨i + 1, wk + A0.size, A0 ++ o.s, A1, .slice vo' ns vc', v1, by simp, by simp, hlt, hwk3, hid (by rw [ByteArray.size_append]; have := hsz.out; have := hdr.out; omega), hid (hS5.out.kept hb6)⟩
                  have hfin' := hid hfin
                  clear hfin
                  generalize (!(runS s5 (byts (A0 ++ o.s))).wrong) = fed at *
                  by_cases hwb : wk + A0.size < 4194304
                  · have hwbi : (wk : Int) + (A0.size : Int) < 4194304 := by omega
                    have hcv2 := hcv.out
                    clear hwb
                    go_wp2_with fail
                    refine (hbg.out _).mono ?_
                    rintro e W6 ⟨rfl, hb6⟩
                    have hF := hid (hfin'.out W6 hb6)
                    clear hb6 hcv2
                    have hff : (fed != fed) = false := by cases fed <;> rfl
                    go_wp2
                    go_roundw
                    case rel => exact hF.out
                    case measure => simp [intOf]; omega
                  · have hwbi : ¬ (wk : Int) + (A0.size : Int) < 4194304 := by omega
                    have hF := hid (hfin'.out W5 (Below.refl _ _))
                    clear hwb
                    go_wp2
                    go_roundw
                    case rel => exact hF.out
                    case measure => simp [intOf]; omega
                · exact AllReadyH.nil
              · exact AllReadyH.nil
            · exact AllReadyH.nil
          · exact AllReadyH.nil
        | false =>
          rw [hfd] at n1
          clear hfd
          have x0 := hS.out.1.cell 0
          simp only [List.getElem?_toArray, List.getElem?_cons_zero] at x0
          have hcv := hid (hS.out.2.2.2.2.1).conv
          rw [hvs'.out] at hcv
          have hrb := hid (refBad_calls A0 (by have := hAs'.out; omega))
          have hen := hid (end_calls _ _ _ _ hS.out.2.2.1)
          rw [show badI (runS s5 (byts A0)) = badOf A0 from rfl] at hen
          have hfin : ∀ W6, Below wr.heap.size wr W6 → ∃ (i' wk' : Nat) (A0' A1' : ByteArray) (v0' v1' : Value), (.int .i64 ((i : Int) + 1) : Value) = .int .i64 (i' : Int) ∧ (.int .i64 ((wk : Int) + (A0.size : Int)) : Value) = .int .i64 (wk' : Int) ∧ i' ≤ L.length ∧ Hid (wk' ≤ i' * 1048600) ∧ Hid (A0'.size + A1'.size + sizesO (L.drop i') ≤ 1048600) ∧ Hid (ScanI w A0' A1' A0' A1' v0' v1' W6) := fun W6 hb6 =>
            ⟨i + 1, wk + A0.size, A0, A1, v0, v1, by simp, by simp, hlt, hwk3, hid (by have := hsz.out; have := hdr.out; omega), hid (hS.out.kept hb6)⟩
          have hfin' := hid hfin
          clear hfin
          go_wp2_with fail
          refine Calls.mono hen.out ?_
          rintro e W5 ⟨rfl, hw5⟩
          rw [hw5]
          clear hw5 hen
          by_cases hwb : wk + A0.size < 4194304
          · have hwbi : (wk : Int) + (A0.size : Int) < 4194304 := by omega
            have hcv2 := hcv.out
            clear hwb
            go_wp2_with fail
            refine (hrb.out _).mono ?_
            rintro e W6 ⟨rfl, hb6⟩
            have hF := hid (hfin'.out W6 hb6)
            clear hb6 hcv2
            go_wp2
            go_roundw
            case rel => exact hF.out
            case measure => simp [intOf]; omega
          · have hwbi : ¬ (wk : Int) + (A0.size : Int) < 4194304 := by omega
            have hF := hid (hfin'.out wr (Below.refl _ _))
            have hw8 : decide ((wk : Int) + (A0.size : Int) < 4194304) = false := decide_eq_false hwbi
            clear hwb n0 n1 n2 x0 hcv hrb y0 y0' hwbi
            go_wp2
            go_roundw
            case rel => exact hF.out
            case measure => simp [intOf]; omega
      · rw [hp]
        clear hp
        obtain ⟨vo, vc, hvs⟩ := hS.out.2.2.2.2.2.1.slice
        have y0 := hS.out.2.1.cell 1
        simp only [List.getElem?_toArray, List.getElem?_cons_zero, List.getElem?_cons_succ] at y0
        have y0' := hid y0
        rw [hvs] at y0
        have hAs : A1.size ≤ 1048600 := by have := hsz.out; omega
        have hwk2 : wk + A1.size ≤ (i + 1) * 1048600 := by have := hwk.out; omega
        have hwk3 := hid hwk2
        have hwki : (wk : Int) + (A1.size : Int) ≤ 4611686018427387904 := by have := len_sizesO L; have := hb'.out; have : (i + 1) * 1048600 ≤ 1048577 * 1048600 := Nat.mul_le_mul (by omega) (Nat.le_refl _); omega
        have hAs' := hid hAs
        have hvs' := hid hvs
        clear hwk2 hAs hvs
        cases hfd : o.feed with
        | true =>
          rw [hfd] at n1
          clear hfd
          have z0 : wr.frozen? ⟨w.heap.size + 1, 1, none⟩ = false := hS.out.2.1.frozen 1
          have hrowd : RowG wr.drew (w.heap.size + 1 + 1 + 1 + 1) v1 A1 := hS.out.2.2.2.2.2.1.below ((Below.refl _ _).drew)
          obtain ⟨v', W1, hap, hrow, hgr, hapt⟩ := hrowd.append (ty := 27) (t := o.s) (by have := hsz.out; have := hdr.out; omega) hS.out.2.2.2.1.lt
          rw [hvs'.out] at hap
          obtain ⟨vo', vc', hv'⟩ := hrow.slice
          obtain ⟨ns, hns⟩ : ∃ ns, (A1 ++ o.s).size = ns := ⟨_, rfl⟩
          rw [hns] at hv'
          subst hv'
          have hns' := hid hns
          clear hns
          have hAtY : At W1 (w.heap.size + 1) #[v0, v1] 28 := (hgr.block _ hS.out.2.1.lt (fun e => by have := (hS.out.2.2.2.2.2.1.lt _ e.symm).1; omega)).trans hS.out.2.1
          have s1 : W1.cell? ⟨bb, off + i * 3 + 2, none⟩ = some (.string o.s) := (World.cell?_of_block (w := wr) (hgr.block bb (by have := hbb'.out; have := hS.out.2.2.2.2.2.2.2.size; show bb < wr.heap.size; omega) (fun e => by have := (hS.out.2.2.2.2.2.1.lt _ e.symm).1; have := hbb'.out; omega))).trans n2
          have t1 := hAtY.cell 1
          have t2 := hAtY.frozen 1
          simp only [List.getElem?_toArray, List.getElem?_cons_zero, List.getElem?_cons_succ] at t1
          have hS2 := hid (ScanI.app1 (h := hS.out.kept ((Below.refl _ _).drew)) hrow hgr hapt)
          clear hAtY hrowd hrow hgr hapt
          go_wp2_with fail
          rename_i K15 hK15
          refine wp_region_held_drew (S := fun w' => w'.cell? ⟨bb, off + i * 3 + 2, none⟩ = some (.string o.s)) (by kernel_rfl) n2 (fun hHeld => ?_)
          (refine' wpAnyH_take (i := 0) rfl (by kernel_rfl) (by kernel_rfl) (by kernel_rfl) (fun _ _ _ h => h) (Or.inl ⟨by rfl, ?_⟩) (by assumption) ?_; rotate_left; (· (intro wq hq; (try dsimp only at hq); go_simp; first | done | with_reducible rfl)); simp only [Act.put, List.getElem_toArray, List.getElem_cons_zero, List.setIfInBounds_toArray, List.set_cons_zero, List.set_cons_succ])
          (refine' wpAnyH_take (i := 1) rfl (by kernel_rfl) (by kernel_rfl) (by kernel_rfl) (fun _ _ _ h => h) (Or.inl ⟨by rfl, ?_⟩) (by assumption) ?_; rotate_left; (· (intro wq hq; (try dsimp only at hq); go_simp; first | done | with_reducible rfl)); simp only [Act.put, List.getElem_toArray, List.getElem_cons_zero, List.getElem_cons_succ, List.setIfInBounds_toArray, List.set_cons_zero, List.set_cons_succ])
          (refine' wpAnyH_take (i := 2) rfl (by kernel_rfl) (by kernel_rfl) (by kernel_rfl) (fun _ _ _ h => h) (Or.inl ⟨by rfl, ?_⟩) (by assumption) ?_; rotate_left; (· (intro wq hq; (try dsimp only at hq); go_simp; first | done | with_reducible rfl)); simp only [Act.put, List.getElem_toArray, List.getElem_cons_zero, List.getElem_cons_succ, List.setIfInBounds_toArray, List.set_cons_zero, List.set_cons_succ])
          (refine' wpAnyH_take (i := 4) rfl (by kernel_rfl) (by kernel_rfl) (by kernel_rfl) (fun _ _ _ h => h) (Or.inl ⟨by rfl, ?_⟩) (by assumption) ?_; rotate_left; (· (intro wq hq; (try dsimp only at hq); go_simp; first | done | with_reducible rfl)); simp only [Act.put, List.getElem_toArray, List.getElem_cons_zero, List.getElem_cons_succ, List.setIfInBounds_toArray, List.set_cons_zero, List.set_cons_succ])
          (refine' wpAnyH_take (i := 5) rfl (by kernel_rfl) (by kernel_rfl) (by kernel_rfl) (fun _ _ _ h => h) (Or.inl ⟨by rfl, ?_⟩) (by assumption) ?_; rotate_left; (· (intro wq hq; (try dsimp only at hq); go_simp; first | done | with_reducible rfl)); simp only [Act.put, List.getElem_toArray, List.getElem_cons_zero, List.getElem_cons_succ, List.setIfInBounds_toArray, List.set_cons_zero, List.set_cons_succ])
          (refine' wpAnyH_take (i := 6) rfl (by kernel_rfl) (by kernel_rfl) (by kernel_rfl) (fun _ _ _ h => h) (Or.inl ⟨by rfl, ?_⟩) (by assumption) ?_; rotate_left; (· (intro wq hq; (try dsimp only at hq); go_simp; first | done | with_reducible rfl)); simp only [Act.put, List.getElem_toArray, List.getElem_cons_zero, List.getElem_cons_succ, List.setIfInBounds_toArray, List.set_cons_zero, List.set_cons_succ])
          (refine' wpAnyH_take (i := 7) rfl (by kernel_rfl) (by kernel_rfl) (by kernel_rfl) (fun _ _ _ h => h) (Or.inl ⟨by rfl, ?_⟩) (by assumption) ?_; rotate_left; (· (intro wq hq; (try dsimp only at hq); go_simp; first | done | with_reducible rfl)); simp only [Act.put, List.getElem_toArray, List.getElem_cons_zero, List.getElem_cons_succ, List.setIfInBounds_toArray, List.set_cons_zero, List.set_cons_succ])
          (refine' wpAnyH_take (i := 8) rfl (by kernel_rfl) (by kernel_rfl) (by kernel_rfl) (fun _ _ _ h => h) (Or.inl ⟨by rfl, ?_⟩) (by assumption) ?_; rotate_left; (· (intro wq hq; (try dsimp only at hq); go_simp; first | done | with_reducible rfl)); simp only [Act.put, List.getElem_toArray, List.getElem_cons_zero, List.getElem_cons_succ, List.setIfInBounds_toArray, List.set_cons_zero, List.set_cons_succ])
          refine wpAnyH_ready (rs := [3]) (by kernel_rfl) (by simp) ?_
          refine AllReadyH.cons rfl (fun K hK => ?_) ?_
          · go_simp
            refine hK.out _ _ hHeld (fun hH => ?_)
            clear hK K
            refine wpAnyH_ready (rs := [9]) (by kernel_rfl) (by simp) ?_
            refine AllReadyH.cons rfl (fun K hK => ?_) ?_
            · rw [if_pos (by rfl)]
              refine wp_append_rowG rfl rfl rfl hap ?_
              refine hK.out _ _ s1 (fun hH2 => ?_)
              clear hK K
              (refine' wpAnyH_take (i := 10) rfl (by kernel_rfl) (by kernel_rfl) (by kernel_rfl) (fun _ _ _ h => h) (Or.inl ⟨by rfl, ?_⟩) (by assumption) ?_; rotate_left; (· (intro wq hq; (try dsimp only at hq); go_simp; first | done | with_reducible rfl)); simp only [Act.put, List.getElem_toArray, List.getElem_cons_zero, List.getElem_cons_succ, List.setIfInBounds_toArray, List.set_cons_zero, List.set_cons_succ])
              refine wpAnyH_ready (rs := [11]) (by kernel_rfl) (by simp) ?_
              refine AllReadyH.cons rfl (fun K hK => ?_) ?_
              · go_simp
                refine hK.out _ _ ((hS2.out.2.2.2.2.2.2.2.cell (p := ⟨bb, off + i * 3 + 2, none⟩) hbb'.out).trans m2'.out) (fun hH3 => ?_)
                clear hK K
                refine wpAnyH_done (by kernel_rfl) ?_ _
                refine hK15 _ _ ?_
                obtain ⟨W2, hW2⟩ : ∃ W2, W1.setCell ⟨w.heap.size + 1, 1, none⟩ (.slice vo' ns vc') = W2 := ⟨_, rfl⟩
                rw [hW2] at hS2 ⊢
                clear hW2 hap s1 t1 t2 n0 n1 n2 y0 z0 hS hH hH2 hH3
                have n2 : W2.cell? ⟨bb, off + i * 3 + 2, none⟩ = some (.string o.s) := (hS2.out.2.2.2.2.2.2.2.cell (p := ⟨bb, off + i * 3 + 2, none⟩) hbb'.out).trans m2'.out
                have x0 := hS2.out.1.cell 1
                simp only [List.getElem?_toArray, List.getElem?_cons_zero, List.getElem?_cons_succ] at x0
                go_wp2_with fail
                rename_i K16 hK16
                refine wp_region_held_drew (S := fun w' => w'.cell? ⟨w.heap.size, 1, none⟩ = some (.pointer (some ⟨w.heap.size + 1 + 1 + 1, 0, none⟩)) ∧ w'.cell? ⟨bb, off + i * 3 + 2, none⟩ = some (.string o.s)) (by kernel_rfl) ⟨x0, n2⟩ (fun hHeld => ?_)
                (refine' wpAnyH_take (i := 0) rfl (by kernel_rfl) (by kernel_rfl) (by kernel_rfl) (fun _ _ _ h => h) (Or.inl ⟨by rfl, ?_⟩) (by assumption) ?_; rotate_left; (· (intro wq hq; (try dsimp only at hq); go_simp; first | done | with_reducible rfl)); simp only [Act.put, List.getElem_toArray, List.getElem_cons_zero, List.setIfInBounds_toArray, List.set_cons_zero, List.set_cons_succ])
                (refine' wpAnyH_take (i := 1) rfl (by kernel_rfl) (by kernel_rfl) (by kernel_rfl) (fun _ _ _ h => h) (Or.inl ⟨by rfl, ?_⟩) (by assumption) ?_; rotate_left; (· (intro wq hq; (try dsimp only at hq); go_simp; first | done | with_reducible rfl)); simp only [Act.put, List.getElem_toArray, List.getElem_cons_zero, List.getElem_cons_succ, List.setIfInBounds_toArray, List.set_cons_zero, List.set_cons_succ])
                (refine' wpAnyH_take (i := 2) rfl (by kernel_rfl) (by kernel_rfl) (by kernel_rfl) (fun _ _ _ h => h) (Or.inl ⟨by rfl, ?_⟩) (by assumption) ?_; rotate_left; (· (intro wq hq; (try dsimp only at hq); go_simp; first | done | with_reducible rfl)); simp only [Act.put, List.getElem_toArray, List.getElem_cons_zero, List.getElem_cons_succ, List.setIfInBounds_toArray, List.set_cons_zero, List.set_cons_succ])
                (refine' wpAnyH_take (i := 3) rfl (by kernel_rfl) (by kernel_rfl) (by kernel_rfl) (fun _ _ _ h => h) (Or.inl ⟨by rfl, ?_⟩) (by assumption) ?_; rotate_left; (· (intro wq hq; (try dsimp only at hq); go_simp; first | done | with_reducible rfl)); simp only [Act.put, List.getElem_toArray, List.getElem_cons_zero, List.getElem_cons_succ, List.setIfInBounds_toArray, List.set_cons_zero, List.set_cons_succ])
                (refine' wpAnyH_take (i := 4) rfl (by kernel_rfl) (by kernel_rfl) (by kernel_rfl) (fun _ _ _ h => h) (Or.inl ⟨by rfl, ?_⟩) (by assumption) ?_; rotate_left; (· (intro wq hq; (try dsimp only at hq); go_simp; first | done | with_reducible rfl)); simp only [Act.put, List.getElem_toArray, List.getElem_cons_zero, List.getElem_cons_succ, List.setIfInBounds_toArray, List.set_cons_zero, List.set_cons_succ])
                (refine' wpAnyH_take (i := 5) rfl (by kernel_rfl) (by kernel_rfl) (by kernel_rfl) (fun _ _ _ h => h) (Or.inl ⟨by rfl, ?_⟩) (by assumption) ?_; rotate_left; (· (intro wq hq; (try dsimp only at hq); go_simp; first | done | with_reducible rfl)); simp only [Act.put, List.getElem_toArray, List.getElem_cons_zero, List.getElem_cons_succ, List.setIfInBounds_toArray, List.set_cons_zero, List.set_cons_succ])
                (refine' wpAnyH_take (i := 6) rfl (by kernel_rfl) (by kernel_rfl) (by kernel_rfl) (fun _ _ _ h => h) (Or.inl ⟨by rfl, ?_⟩) (by assumption) ?_; rotate_left; (· (intro wq hq; (try dsimp only at hq); go_simp; first | done | with_reducible rfl)); simp only [Act.put, List.getElem_toArray, List.getElem_cons_zero, List.getElem_cons_succ, List.setIfInBounds_toArray, List.set_cons_zero, List.set_cons_succ])
                (refine' wpAnyH_take (i := 7) rfl (by kernel_rfl) (by kernel_rfl) (by kernel_rfl) (fun _ _ _ h => h) (Or.inl ⟨by rfl, ?_⟩) (by assumption) ?_; rotate_left; (· (intro wq hq; (try dsimp only at hq); go_simp; first | done | with_reducible rfl)); simp only [Act.put, List.getElem_toArray, List.getElem_cons_zero, List.getElem_cons_succ, List.setIfInBounds_toArray, List.set_cons_zero, List.set_cons_succ])
                refine wpAnyH_ready (rs := [8]) (by kernel_rfl) (by simp) ?_
                refine AllReadyH.cons rfl (fun K hK => ?_) ?_
                · rw [if_pos (by rfl)]
                  go_simp
                  have hAtS : At W2.drew (w.heap.size + 1 + 1 + 1) (stC (runS s5 (byts A1))) 51 := hS2.out.2.2.2.1
                  refine (feed_calls _ _ _ o.s _ hAtS (runS_left (by decide) _) (by have := runS_good s5 (byts A1); rw [byts_length] at this; have e : s5.good = 0 := rfl; have := hsz.out; have := hdr.out; omega)).mono ?_
                  rintro e W5 ⟨rfl, hO5, hA5⟩
                  rw [← runS_append, ← byts_append] at hA5 ⊢
                  have hS5 := hid (ScanI.fed1 (h := hS2.out.kept ((Below.refl _ _).drew)) hO5 hA5)
                  have x5 := hS5.out.1.cell 1
                  simp only [List.getElem?_toArray, List.getElem?_cons_zero, List.getElem?_cons_succ] at x5
                  refine hK.out _ _ ⟨x5, (hS5.out.2.2.2.2.2.2.2.cell (p := ⟨bb, off + i * 3 + 2, none⟩) hbb'.out).trans m2'.out⟩ (fun hH => ?_)
                  clear hK K
                  (refine' wpAnyH_take (i := 9) rfl (by kernel_rfl) (by kernel_rfl) (by kernel_rfl) (fun _ _ _ h => h) (Or.inl ⟨by rfl, ?_⟩) (by assumption) ?_; rotate_left; (· (intro wq hq; (try dsimp only at hq); go_simp; first | done | with_reducible rfl)); simp only [Act.put, List.getElem_toArray, List.getElem_cons_zero, List.getElem_cons_succ, List.setIfInBounds_toArray, List.set_cons_zero, List.set_cons_succ])
                  refine wpAnyH_done (by kernel_rfl) ?_ _
                  refine hK16 _ _ ?_
                  clear hO5 hA5 hAtS hS2 n2 x0 x5 hH
                  have hcv := hid (hS5.out.2.2.2.2.2.1).conv
                  have hbg := hid (refBeg_calls (A1 ++ o.s) (by rw [ByteArray.size_append]; have := hsz.out; have := hdr.out; omega))
                  have y5 := hS5.out.2.1.cell 1
                  simp only [List.getElem?_toArray, List.getElem?_cons_zero, List.getElem?_cons_succ] at y5
                  have hfin : ∀ W6, Below W5.heap.size W5 W6 → ∃ (i' wk' : Nat) (A0' A1' : ByteArray) (v0' v1' : Value), (.int .i64 ((i : Int) + 1) : Value) = .int .i64 (i' : Int) ∧ (.int .i64 ((wk : Int) + (A1.size : Int)) : Value) = .int .i64 (wk' : Int) ∧ i' ≤ L.length ∧ Hid (wk' ≤ i' * 1048600) ∧ Hid (A0'.size + A1'.size + sizesO (L.drop i') ≤ 1048600) ∧ Hid (ScanI w A0' A1' A0' A1' v0' v1' W6) := fun W6 hb6 =>
                    ⟨i + 1, wk + A1.size, A0, A1 ++ o.s, v0, .slice vo' ns vc', by simp, by simp, hlt, hwk3, hid (by rw [ByteArray.size_append]; have := hsz.out; have := hdr.out; omega), hid (hS5.out.kept hb6)⟩
                  have hfin' := hid hfin
                  clear hfin
                  generalize (!(runS s5 (byts (A1 ++ o.s))).wrong) = fed at *
                  by_cases hwb : wk + A1.size < 4194304
                  · have hwbi : (wk : Int) + (A1.size : Int) < 4194304 := by omega
                    have hcv2 := hcv.out
                    clear hwb
                    go_wp2_with fail
                    refine (hbg.out _).mono ?_
                    rintro e W6 ⟨rfl, hb6⟩
                    have hF := hid (hfin'.out W6 hb6)
                    clear hb6 hcv2
                    have hff : (fed != fed) = false := by cases fed <;> rfl
                    go_wp2
                    go_roundw
                    case rel => exact hF.out
                    case measure => simp [intOf]; omega
                  · have hwbi : ¬ (wk : Int) + (A1.size : Int) < 4194304 := by omega
                    have hF := hid (hfin'.out W5 (Below.refl _ _))
                    clear hwb
                    go_wp2
                    go_roundw
                    case rel => exact hF.out
                    case measure => simp [intOf]; omega
                · exact AllReadyH.nil
              · exact AllReadyH.nil
            · exact AllReadyH.nil
          · exact AllReadyH.nil
        | false =>
          rw [hfd] at n1
          clear hfd
          have x0 := hS.out.1.cell 1
          simp only [List.getElem?_toArray, List.getElem?_cons_zero, List.getElem?_cons_succ] at x0
          have hcv := hid (hS.out.2.2.2.2.2.1).conv
          rw [hvs'.out] at hcv
          have hrb := hid (refBad_calls A1 (by have := hAs'.out; omega))
          have hen := hid (end_calls _ _ _ _ hS.out.2.2.2.1)
          rw [show badI (runS s5 (byts A1)) = badOf A1 from rfl] at hen
          have hfin : ∀ W6, Below wr.heap.size wr W6 → ∃ (i' wk' : Nat) (A0' A1' : ByteArray) (v0' v1' : Value), (.int .i64 ((i : Int) + 1) : Value) = .int .i64 (i' : Int) ∧ (.int .i64 ((wk : Int) + (A1.size : Int)) : Value) = .int .i64 (wk' : Int) ∧ i' ≤ L.length ∧ Hid (wk' ≤ i' * 1048600) ∧ Hid (A0'.size + A1'.size + sizesO (L.drop i') ≤ 1048600) ∧ Hid (ScanI w A0' A1' A0' A1' v0' v1' W6) := fun W6 hb6 =>
            ⟨i + 1, wk + A1.size, A0, A1, v0, v1, by simp, by simp, hlt, hwk3, hid (by have := hsz.out; have := hdr.out; omega), hid (hS.out.kept hb6)⟩
          have hfin' := hid hfin
          clear hfin
          go_wp2_with fail
          refine Calls.mono hen.out ?_
          rintro e W5 ⟨rfl, hw5⟩
          rw [hw5]
          clear hw5 hen
          by_cases hwb : wk + A1.size < 4194304
          · have hwbi : (wk : Int) + (A1.size : Int) < 4194304 := by omega
            have hcv2 := hcv.out
            clear hwb
            go_wp2_with fail
            refine (hrb.out _).mono ?_
            rintro e W6 ⟨rfl, hb6⟩
            have hF := hid (hfin'.out W6 hb6)
            clear hb6 hcv2
            go_wp2
            go_roundw
            case rel => exact hF.out
            case measure => simp [intOf]; omega
          · have hwbi : ¬ (wk : Int) + (A1.size : Int) < 4194304 := by omega
            have hF := hid (hfin'.out wr (Below.refl _ _))
            have hw8 : decide ((wk : Int) + (A1.size : Int) < 4194304) = false := decide_eq_false hwbi
            clear hwb n0 n1 n2 x0 hcv hrb y0 y0' hwbi
            go_wp2
            go_roundw
            case rel => exact hF.out
            case measure => simp [intOf]; omega
    · obtain rfl : i = L.length := by omega
      obtain ⟨p0, q0, hp0⟩ := hS.out.2.2.2.2.1.slice
      obtain ⟨p1, q1, hp1⟩ := hS.out.2.2.2.2.2.1.slice
      subst hp0 hp1
      have hAll := hid (show ∀ w', Below wr.heap.size wr w' → (w'.cell? ⟨w.heap.size, 0, none⟩ = some (.pointer (some ⟨w.heap.size + 1 + 1, 0, none⟩)) ∧ w'.cell? ⟨w.heap.size, 1, none⟩ = some (.pointer (some ⟨w.heap.size + 1 + 1 + 1, 0, none⟩)) ∧ w'.cell? ⟨w.heap.size + 1, 0, none⟩ = some (.slice p0 A0.size q0) ∧ w'.cell? ⟨w.heap.size + 1, 1, none⟩ = some (.slice p1 A1.size q1) ∧ (convert 27 9 (.slice p0 A0.size q0)).run Try.prog w' = .ok (.string A0) w' ∧ (convert 27 9 (.slice p1 A1.size q1)).run Try.prog w' = .ok (.string A1) w' ∧ Below wr.heap.size wr w') from fun w' h => by
        obtain ⟨s1, s2, s3, s4, s5', s6, s7, s8⟩ := hS.out.kept h
        exact ⟨s1.cell 0, s1.cell 1, s2.cell 0, s2.cell 1, s5'.conv, s6.conv, h⟩)
      have hend0 := hid (show ∀ wz, Below wr.heap.size wr wz → Calls Try.prog 11 #[.pointer (some ⟨w.heap.size + 1 + 1, 0, none⟩)] wz fun e w' => e = .returned (.int .i64 (badOf A0)) ∧ Below wz.heap.size wz w' from fun wz h => (end_calls _ _ _ _ (hS.out.kept h).2.2.1).mono fun e w' ⟨h1, h2⟩ => ⟨h1, by rw [h2]; exact Below.refl _ _⟩)
      have hend1 := hid (show ∀ wz, Below wr.heap.size wr wz → Calls Try.prog 11 #[.pointer (some ⟨w.heap.size + 1 + 1 + 1, 0, none⟩)] wz fun e w' => e = .returned (.int .i64 (badOf A1)) ∧ Below wz.heap.size wz w' from fun wz h => (end_calls _ _ _ _ (hS.out.kept h).2.2.2.1).mono fun e w' ⟨h1, h2⟩ => ⟨h1, by rw [h2]; exact Below.refl _ _⟩)
      have hrb0 := hid (refBad_calls A0 (by have := hsz.out; omega))
      have hrb1 := hid (refBad_calls A1 (by have := hsz.out; omega))
      have hBw := hid hS.out.2.2.2.2.2.2.2
      clear hlt hwk hsz hS
      go_wp2_with fail
      refine wp_region_quiet (C := (fun w' => w'.cell? ⟨w.heap.size, 0, none⟩ = some (.pointer (some ⟨w.heap.size + 1 + 1, 0, none⟩)) ∧ w'.cell? ⟨w.heap.size, 1, none⟩ = some (.pointer (some ⟨w.heap.size + 1 + 1 + 1, 0, none⟩)) ∧ w'.cell? ⟨w.heap.size + 1, 0, none⟩ = some (.slice p0 A0.size q0) ∧ w'.cell? ⟨w.heap.size + 1, 1, none⟩ = some (.slice p1 A1.size q1) ∧ (convert 27 9 (.slice p0 A0.size q0)).run Try.prog w' = .ok (.string A0) w' ∧ (convert 27 9 (.slice p1 A1.size q1)).run Try.prog w' = .ok (.string A1) w' ∧ Below wr.heap.size wr w')) (by kernel_rfl) (by kernel_rfl) (hAll.out wr.drew ((Below.refl _ _).drew)) ?_
      dsimp only
      repeat (first
        | (refine wpQuiet_skip (by rfl) ?_; simp only [Act.put, List.setIfInBounds_toArray, List.set_cons_zero, List.set_cons_succ])
        | (refine' wpQuiet_take (by rfl) ?_ ?_
           rotate_left
           · (intro wq hq; (try dsimp only at hq); go_simp
              first
                | done
                | with_reducible rfl
                | (go_at_call 11; have hzz := hend0.out wq hq.2.2.2.2.2.2; with_reducible refine hzz.mono ?_; clear hzz; rintro e wz ⟨rfl, hb⟩; exact ⟨rfl, hAll.out _ (hq.2.2.2.2.2.2.trans (hb.mono hq.2.2.2.2.2.2.size))⟩)
                | (go_at_call 11; have hzz := hend1.out wq hq.2.2.2.2.2.2; with_reducible refine hzz.mono ?_; clear hzz; rintro e wz ⟨rfl, hb⟩; exact ⟨rfl, hAll.out _ (hq.2.2.2.2.2.2.trans (hb.mono hq.2.2.2.2.2.2.size))⟩)
                | (go_at_call 9; have hzz := hrb0.out wq; with_reducible refine hzz.mono ?_; clear hzz; rintro e wz ⟨rfl, hb⟩; exact ⟨rfl, hAll.out _ (hq.2.2.2.2.2.2.trans (hb.mono hq.2.2.2.2.2.2.size))⟩)
                | (go_at_call 9; have hzz := hrb1.out wq; with_reducible refine hzz.mono ?_; clear hzz; rintro e wz ⟨rfl, hb⟩; exact ⟨rfl, hAll.out _ (hq.2.2.2.2.2.2.trans (hb.mono hq.2.2.2.2.2.2.size))⟩)
             )
           simp only [Act.put, List.setIfInBounds_toArray, List.set_cons_zero, List.set_cons_succ]))
      refine wpQuiet_nil ?_
      intro v2 hv2
      have hBf := hid (hBw.out.trans (hv2.2.2.2.2.2.2.mono hBw.out.size))
      clear hv2
      go_wp2
      go_ret
      exact ⟨by simp, hBf.out⟩
end Go.Proofs.Ytkkmaakgacnfoaa
