/-
 write.Pretty (by gen_wrp.py).
-/
import Derived.Test.YtlhbgfhmcjaabaaGreatDoorWrH
import Derived.Test.YtlhbgfhmcjaabaaGreatDoorWrN
import Derived.Test.YtlhbgfhmcjaabaaGreatDoorTpB2
import Derived.Test.YtlhbgfhmcjaabaaGreatDoorShelfR
import Derived.Test.YtlhbgfhmcjaabaaGreatDoorRwA
namespace Go.Proofs.YtlhbgfhmcjaabaaGreatDoor
open Go.RowKit Go.Shelf
theorem repS (E : Nat) : Lib.repeatL (⟨#[32]⟩ : ByteArray).data.toList E = List.replicate E 32 := by
 have := Lib.repeatL_replicate 32 1 E
 rw [Nat.mul_one] at this
 exact this
theorem rep_calls (E : Nat) (hE : E ≤ 140737488355328) (w : World) : Calls Tryz.prog 29 #[.string ⟨#[32]⟩, .int .i64 (E : Int)] w fun e w' => e = .returned (.string ⟨(List.replicate E 32).toArray⟩) ∧ Below w.heap.size w w' := by
 rw [← repS E]
 exact Any.strings_Repeat Tryz.lays105 Tryz.Builder_Extra_105 ⟨#[32]⟩ E w (by omega) (by show 1 * E ≤ _; omega)
set_option maxRecDepth 10000 in
set_option maxHeartbeats 8000000 in
theorem pretty_calls (t : Vt) (va : Value) (hsz : szV t) (hdp : depV t ≤ 1048576) (nI : Int) (hnw : (Lit.int .i64 nI).wf = true) (hn : ∀ ix : Nat, ix ≤ 8 → (preL ix t).length ≤ 140737488355328) (w : World) (hT : TabU w) (ha : ValAt w t va) (F : Bool) (hF : wfV t 1024 = F) (S : ByteArray) (E : Int) (hS : Hid (prS F nI t = (S, E))) :
  Calls Tryz.prog 13 #[va, .int .i64 nI] w fun e w' => e = .returned (.tuple #[.string S, .int .i64 E]) ∧ Below w.heap.size w w' := by
 have hfo := hid (fun u h0 h1 => formedP_calls t va u h0 h1)
 rw [hF] at hfo
 have hde := hid (fun u h1 => depP_ex _ t (Nat.le_refl _) (by omega) va u h1)
 have ha' := hid ha
 have hT' := hid hT
 have hon := ha.on
 obtain ⟨ko, kc, vo, vc, rfl⟩ := hon.six
 obtain ⟨p, hp⟩ : ∃ p, Hid (w.heap.size = p) := ⟨_, rfl⟩
 have hki := hid (fun (e : F = true) x => kind_calls t.kind (by cases t with | mk k b r t ks vs => exact (wf_kind (hF.trans e)).1) (by cases t with | mk k b r t ks vs => exact (wf_kind (hF.trans e)).2.1) t.b t.raw t.text ko vo t.keys.length kc t.kids.length vc x)
 have hput := hid (fun (e : F = true) (ix : Nat) (h8 : ix ≤ 8) (m : Nat) ks' vs' x h1 h2 h3 => putV_ex m (m + 1) C2 (lnS (ix * depV t)) ix (depV t) (by omega) (by omega) (fun d hd => .inr ⟨by rw [lnS_size]; have := Nat.mul_le_mul (Nat.le_refl ix) hd; omega, by rw [lnS_size]; have := Nat.mul_le_mul h8 hdp; omega⟩) _ t (Nat.le_refl _) 1024 (hF.trans e) hsz 0 (by omega) ks' vs' [] (preL ix t) x h1 (by simp [preL]) (hn ix h8) h2 h3)
 unfold prS at hS
 have hpl : Hid (∀ ix : Nat, ix * depV t ≤ 8388608 ∨ 8 < ix) := fun ix => by
  rcases Nat.lt_or_ge 8 ix with h | h
  ·exact .inr h
  ·have := Nat.mul_le_mul h hdp
   exact .inl (by omega)
 obtain ⟨dp, hdpe⟩ : ∃ x, Hid (depV t = x) := ⟨_, rfl⟩
 rw [hdpe.out] at hde hput hpl hdp
 have hdpi : (dp : Int) ≤ 1048576 := by omega
 have hon' := hid hon
 clear hon ha hT hn hF hsz
 have hPL := hid (show ∀ ix : Nat, preL ix t = preL ix t from fun _ => rfl)
 obtain ⟨PL, hPLe⟩ : ∃ f : Nat → List UInt8, (fun ix : Nat => preL ix t) = f := ⟨_, rfl⟩
 have hPLx : ∀ ix : Nat, preL ix t = PL ix := fun ix => congrFun hPLe ix
 simp only [hPLx] at hput hS
 clear hPL hPLe hPLx
 generalize t.kind = k at *
 generalize t.b = b at *
 generalize t.raw = r at *
 generalize t.text = tx at *
 generalize t.keys.length = N at *
 generalize t.kids.length = M at *
 have A1 : Hid (At (w.alloc (.cells #[.int .i64 k, .bool b, .string r, .string tx, .slice ko N kc, .slice vo M vc] 25)) p #[.int .i64 k, .bool b, .string r, .string tx, .slice ko N kc, .slice vo M vc] 25) := by
  have h := At.new w #[.int .i64 k, .bool b, .string r, .string tx, .slice ko N kc, .slice vo M vc] 25
  rw [hp.out] at h
  exact h
 have B1 : Hid (Below w.heap.size w (w.alloc (.cells #[.int .i64 k, .bool b, .string r, .string tx, .slice ko N kc, .slice vo M vc] 25))) := (Below.refl _ w).alloc (Nat.le_refl _) _
 go_enter Tryz.func13, Tryz.ntmps13
 go_upto_region 1 with fail
 rw [hp.out]
 generalize w.alloc (.cells #[.int .i64 k, .bool b, .string r, .string tx, .slice ko N kc, .slice vo M vc] 25) = W1 at A1 B1 ⊢
 have d0 := A1.out.cell 0
 have d1 := A1.out.cell 1
 have d2 := A1.out.cell 2
 have d3 := A1.out.cell 3
 have d4 := A1.out.cell 4
 have d5 := A1.out.cell 5
 simp only [List.getElem?_toArray, List.getElem?_cons_zero, List.getElem?_cons_succ] at d0 d1 d2 d3 d4 d5
 go_wp2_with fail
 refine Calls.mono (hfo.out W1 (hT'.out.below B1.out) (ha'.out.kept B1.out)) ?_
 rintro e w2 ⟨rfl, hb2⟩
 have A2 := hid (A1.out.keptAll hb2)
 have B2 := hid (B1.out.trans (hb2.mono B1.out.size))
 clear hb2 hfo A1 B1 d0 d1 d2 d3 d4 d5 hT'
 cases F with
 | false =>
  rw [if_pos rfl] at hS
  obtain ⟨rfl, rfl⟩ := Prod.mk.inj hS.out
  go_wp2
  refine bodyPost_ret (v := .tuple #[.string ⟨#[]⟩, .int .i64 1]) (by simp [results, Tryz.results13, go_sem]) rfl ⟨rfl, B2.out⟩
 | true =>
  rw [if_neg (by simp)] at hS
  by_cases h0 : nI < 0
  ·rw [if_pos (.inl h0)] at hS
   obtain ⟨rfl, rfl⟩ := Prod.mk.inj hS.out
   go_wp2
   refine bodyPost_ret (v := .tuple #[.string ⟨#[]⟩, .int .i64 2]) (by simp [results, Tryz.results13, go_sem]) rfl ⟨rfl, B2.out⟩
  ·by_cases h8 : 8 < nI
   ·rw [if_pos (.inr h8)] at hS
    obtain ⟨rfl, rfl⟩ := Prod.mk.inj hS.out
    go_wp2
    refine bodyPost_ret (v := .tuple #[.string ⟨#[]⟩, .int .i64 2]) (by simp [results, Tryz.results13, go_sem]) rfl ⟨rfl, B2.out⟩
   ·rw [if_neg (by omega)] at hS
    obtain ⟨ix, rfl⟩ : ∃ ix : Nat, nI = (ix : Int) := ⟨nI.toNat, by omega⟩
    rw [Int.toNat_natCast] at hS
    obtain ⟨rfl, rfl⟩ := Prod.mk.inj hS.out
    have hix : ix ≤ 8 := by omega
    obtain ⟨EE, hEE⟩ : ∃ x, Hid (ix * dp = x) := ⟨_, rfl⟩
    have hEb : EE ≤ 8388608 := by
     rcases hpl.out ix with h | h
     ·rw [hEE.out] at h; exact h
     ·omega
    have hm : (ix : Int) * (dp : Int) = (EE : Int) := by rw [← hEE.out]; push_cast; rfl
    have hput2 := hid (hput.out (by first | rfl | trivial) ix hix)
    have hki2 := hid (hki.out (by first | rfl | trivial))
    rw [hEE.out] at hput2
    obtain ⟨LN, hLN⟩ : ∃ x, Hid (lnS EE = x) := ⟨_, rfl⟩
    rw [hLN.out] at hput2
    obtain ⟨RP, hRP⟩ : ∃ x : ByteArray, Hid (⟨(List.replicate EE 32).toArray⟩ = x) := ⟨_, hid rfl⟩
    have a1 : Hid (∀ u : World, (Op.stringOp .add ⟨#[10]⟩ RP).run Tryz.prog u = .ok (.string LN) u) := fun u => by
     rw [← hLN.out, ← hRP.out]
     exact mkB_add (a := [10]) (b := List.replicate EE 32) (c := 10 :: List.replicate EE 32) rfl (by simp; omega) u
    have hrp := hid (fun u => rep_calls EE (by omega) u)
    rw [hRP.out] at hrp
    obtain ⟨CL, hCL⟩ : ∃ x : List UInt8, Hid (PL ix = x) := ⟨_, hid rfl⟩
    rw [hCL.out] at hput2
    have hEi : (EE : Int) ≤ 8388608 := by omega
    clear hput hki hpl hS hdp hEb hnw
    have d0 := A2.out.cell 0
    have d1 := A2.out.cell 1
    have d2 := A2.out.cell 2
    have d3 := A2.out.cell 3
    have d4 := A2.out.cell 4
    have d5 := A2.out.cell 5
    simp only [List.getElem?_toArray, List.getElem?_cons_zero, List.getElem?_cons_succ] at d0 d1 d2 d3 d4 d5
    go_wp2_with fail
    refine Calls.mono (hde.out w2 (ha'.out.kept B2.out)) ?_
    rintro e w3 ⟨rfl, hb3⟩
    have A3 := hid (A2.out.keptAll hb3)
    have B3 := hid (B2.out.trans (hb3.mono B2.out.size))
    clear hb3 A2 B2 hde d0 d1 d2 d3 d4 d5
    go_wp2_with fail
    refine Calls.mono (hrp.out w3) ?_
    rintro e w4 ⟨rfl, hb4⟩
    have A4 := hid (A3.out.keptAll hb4)
    have B4 := hid (B3.out.trans (hb4.mono B3.out.size))
    have a1' := a1.out
    clear hb4 A3 B3 hrp hm hEi
    obtain ⟨m, hm⟩ : ∃ m, Hid (w4.heap.size = m) := ⟨_, rfl⟩
    have q5 : Below w4.heap.size w4 (w4.alloc (.cells #[.pointer none, .slice none 0 0, .string ⟨#[58, 32]⟩, .string LN, .int .i64 (ix : Int)] 51)) := (Below.refl _ _).alloc (Nat.le_refl _) _
    have A5 := hid (A4.out.keptAll q5)
    have X5 := At.new w4 #[.pointer none, .slice none 0 0, .string ⟨#[58, 32]⟩, .string LN, .int .i64 (ix : Int)] 51
    rw [hm.out] at X5
    have z5 : Hid ((w4.alloc (.cells #[.pointer none, .slice none 0 0, .string ⟨#[58, 32]⟩, .string LN, .int .i64 (ix : Int)] 51)).heap.size = m + 1) := by show _ = _; rw [World.size_alloc, hm.out]
    have D5 : Hid (WdI (w4.alloc (.cells #[.pointer none, .slice none 0 0, .string ⟨#[58, 32]⟩, .string LN, .int .i64 (ix : Int)] 51)) m (m + 1) C2 LN (ix : Int) []) := ⟨_, _, X5, .inl rfl, World.ownsRow_nil _ _ _ _⟩
    have hpm : Hid (p ≤ m) := by have := B4.out.size; rw [hp.out, hm.out] at this; exact this
    have B5 := hid (show Below p w (w4.alloc (.cells #[.pointer none, .slice none 0 0, .string ⟨#[58, 32]⟩, .string LN, .int .i64 (ix : Int)] 51)) by rw [← hp.out]; exact B4.out.trans (q5.mono B4.out.size))
    have V5 := hid (hon'.out.kept (S' := fun c => c < m) (fun c _ h => by have := hpm.out; have h' : c < w.heap.size := h; rw [hp.out] at h'; exact Nat.lt_of_lt_of_le h' this) ⟨B5.out.size, fun c h _ => B5.out.block c (by have h' : c < w.heap.size := h; rw [hp.out] at h'; exact h')⟩)
    clear q5 X5 A4 B4
    go_upto_region 7 with fail
    rw [hm.out]
    clear a1' a1
    generalize w4.alloc (.cells #[.pointer none, .slice none 0 0, .string ⟨#[58, 32]⟩, .string LN, .int .i64 (ix : Int)] 51) = W5 at A5 D5 B5 V5 z5 ⊢
    have d0 := A5.out.cell 0
    have d1 := A5.out.cell 1
    have d2 := A5.out.cell 2
    have d3 := A5.out.cell 3
    have d4 := A5.out.cell 4
    have d5 := A5.out.cell 5
    simp only [List.getElem?_toArray, List.getElem?_cons_zero, List.getElem?_cons_succ] at d0 d1 d2 d3 d4 d5
    go_wp2_with fail
    refine Calls.mono (hki2.out W5) ?_
    rintro e w6 ⟨rfl, hb6⟩
    have D6 := hid (D5.out.kept hb6)
    have V6 := hid (V5.out.keptB hb6)
    have hpm' := hpm.out
    have B6 := hid (B5.out.trans (hb6.mono (by rw [z5.out]; omega)))
    have hB6 : m + 1 ≤ w6.heap.size := by have := hb6.size; rw [z5.out] at this; exact this
    clear hb6 hki2 D5 V5 B5 d0 d1 d2 d3 d4 d5 A5
    go_wp2_with fail
    refine Calls.mono (hput2.out m _ _ w6 V6.out D6.out hB6) ?_
    rintro e w7 ⟨rfl, hd7, hf7⟩
    have D7 := hid hd7
    have B7 := hid (B6.out.trans (hf7.low.mono (by omega)))
    have hB7 : m + 1 ≤ w7.heap.size := Nat.le_trans hB6 hf7.low.size
    clear hd7 hf7 D6 V6 B6 hB6 hput2
    have hst := hid (wstring_calls C2 LN (ix : Int) m (m + 1) p _ w7 D7.out (by omega) hB7)
    go_wp2_with fail
    refine Calls.mono hst.out ?_
    rintro e w8 ⟨rfl, hb8, -⟩
    have B8 := hid (B7.out.trans hb8)
    clear hst hb8 D7 B7 hpm' hB7
    go_wp2
    rw [hp.out]
    refine bodyPost_ret (v := .tuple #[.string ⟨CL.toArray⟩, .int .i64 0]) (by simp [results, Tryz.results13, go_sem]) rfl ⟨by rw [hCL.out], B8.out⟩
end Go.Proofs.YtlhbgfhmcjaabaaGreatDoor
