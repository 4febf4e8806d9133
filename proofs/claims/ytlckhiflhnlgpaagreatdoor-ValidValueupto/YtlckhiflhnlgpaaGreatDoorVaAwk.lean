/-
  VaAwake, VaBegFacts, one behind the other.
-/
import Derived.Test.YtlckhiflhnlgpaaGreatDoorVaP
import Derived.Test.YtlckhiflhnlgpaaGreatDoorVaC
/- What the laws of valid ask first: answers that are fixed; the code of a verdict. -/
namespace Go.Proofs.YtlckhiflhnlgpaaGreatDoor
open Go.RowKit Go.Shelf

set_option maxRecDepth 20000 in
theorem eqVer (a b c e : Int) (u : World) : (Op.equalIn 10000 23 (.agg #[.int .i64 a, .int .i64 b]) (.agg #[.int .i64 c, .int .i64 e])).run Tryz.prog u = .ok (a == c && b == e) u := by
  have hf : ((Tryz.prog.fieldsOf 23).toList.map fun f => (decide (f.name ≠ "_"), f.type, f.offset)) = [(true, 3, 0), (true, 3, 1)] := by kernel_rfl
  rw [run_equalIn_struct u 9999 23 _ _ Tryz.underlying23 (by kernel_rfl)]
  generalize (Tryz.prog.fieldsOf 23).toList = fs at hf
  obtain ⟨f0, fs1, rfl, h0, hf1⟩ := List.map_eq_cons_iff.1 hf
  obtain ⟨f1, fs2, rfl, h1, hf2⟩ := List.map_eq_cons_iff.1 hf1
  obtain rfl := List.map_eq_nil_iff.1 hf2
  simp only [Prod.mk.injEq] at h0 h1
  obtain ⟨n0, t0, o0⟩ := h0
  obtain ⟨n1, t1, o1⟩ := h1
  have q0 : ∀ v0 v1, (Go.part 3 #[v0, v1] 0).run Tryz.prog u = .ok v0 u := fun _ _ => by kernel_rfl
  have q1 : ∀ v0 v1, (Go.part 3 #[v0, v1] 1).run Tryz.prog u = .ok v1 u := fun _ _ => by kernel_rfl
  have b0 := run_equalIn_int (P := Tryz.prog) u 9998 3 .i64 .i64 a c Tryz.underlying3
  have b1 := run_equalIn_int (P := Tryz.prog) u 9998 3 .i64 .i64 b e Tryz.underlying3
  simp only [Nat.reduceAdd] at b0 b1
  simp only [Op.eqFields, if_pos (of_decide_eq_true n0), if_pos (of_decide_eq_true n1), t0, o0, t1, o1, Sem.run_bind, q0, Result.andThen_ok, b0]
  cases (a == c)
  · simp
  · simp only [Bool.not_true, Bool.false_eq_true, if_false, Sem.run_bind, q1, Result.andThen_ok, b1, Bool.true_and]
    cases (b == e) <;> simp
/-- A document that was run through, whose depths are known. -/
theorem chk_valid {s : ByteArray} {d : Int} (m : Mc) (h1 : 1 ≤ d) (h2 : d ≤ 1024) (hr : runM mc0 (byts s) = (s.size, m)) (hw : wholeM m = true) (hd : ∀ j, j < s.size → ((depS s (j + 1) : Nat) : Int) ≤ d) : IsChk s d 1 s.size 0 :=
  .inr ⟨⟨h1, h2⟩, rfl, _, m, hr, .inr ⟨rfl, hw, .inr ⟨hd, rfl, rfl⟩⟩⟩
def awkA : ByteArray := ⟨#[123, 34, 97, 34, 58, 32, 91, 49, 44, 32, 50, 46, 53, 101, 51, 93, 125, 32]⟩
def awkB : ByteArray := ⟨#[91, 49, 44, 93]⟩
def awkC : ByteArray := ⟨#[91, 91, 93, 93]⟩
def awkV : ByteArray := ⟨#[91, 49, 44, 50, 51, 93]⟩
def awkS : ByteArray := ⟨#[32, 49, 32]⟩
theorem run_eq {l : List Nat} {k : Nat} (h : (runM mc0 l).1 = k) : runM mc0 l = (k, (runM mc0 l).2) := Prod.ext h rfl
theorem chkA : IsChk awkA 5 1 18 0 := chk_valid _ (by decide) (by decide) (run_eq (by decide +kernel)) (by decide +kernel) (by decide +kernel)
theorem chkB : IsChk awkB 5 2 3 0 := .inr ⟨⟨by decide, by decide⟩, rfl, 3, _, run_eq (by decide +kernel), .inl ⟨.inl (by decide), rfl, rfl⟩⟩
theorem chkC : IsChk awkC 1 3 1 0 := .inr ⟨⟨by decide, by decide⟩, rfl, 4, _, run_eq (by decide +kernel), .inr ⟨rfl, by decide +kernel, .inl ⟨1, by decide, by decide +kernel, by decide +kernel, rfl, rfl⟩⟩⟩
theorem chkV : IsChk awkV 1024 1 6 0 := chk_valid _ (by decide) (by decide) (run_eq (by decide +kernel)) (by decide +kernel) (by decide +kernel)
theorem chkS : IsChk awkS 1024 1 3 0 := chk_valid _ (by decide) (by decide) (run_eq (by decide +kernel)) (by decide +kernel) (by decide +kernel)
theorem scanV : IsScan awkV (3 + 1) 5 := ⟨by decide, by decide, fun q h1 h2 => by
  obtain rfl : q = 4 := by omega
  decide +kernel, .inr (by decide +kernel)⟩
theorem valV : IsVal awkV 3 5 0 :=
  ⟨1, 6, 0, chkV, .inr ⟨rfl, .inr ⟨3, rfl, by decide, .inr ⟨.inr (.inr ⟨by decide +kernel, by decide +kernel, by decide +kernel⟩), .inr (.inr ⟨by decide +kernel, by decide +kernel, 5, scanV, rfl⟩), rfl⟩⟩⟩⟩
theorem depT : maxD (depS awkS) awkS.size = 0 := by decide +kernel

set_option maxRecDepth 10000 in
set_option maxHeartbeats 4000000 in
theorem awake16_calls (w : World) (h16 : Ok16 w) : Calls Tryz.prog 13 #[] w fun e w' => e = .returned (.bool true) ∧ Below w.heap.size w w' := by
  have hEq := eqVer
  have h16' := hid h16
  have cA := hid (ck_calls awkA (by decide) 5 (by decide) w h16)
  clear h16
  go_enter Tryz.func13, Tryz.ntmps13
  go_wp2_with fail
  refine Calls.mono cA.out ?_
  rintro e w1 ⟨C, A, E, rfl, hI, hb1⟩
  obtain ⟨rfl, rfl, rfl⟩ := hI.uniq chkA
  have A1 := hid (At.new w1 #[.int .i64 1, .int .i64 18] 23)
  have B1 := hid (hb1.alloc hb1.size (.cells #[.int .i64 1, .int .i64 18] 23))
  obtain ⟨a1, ha1⟩ : ∃ x, w1.heap.size = x := ⟨_, rfl⟩
  obtain ⟨W1, hW1⟩ : ∃ x, w1.alloc (.cells #[.int .i64 1, .int .i64 18] 23) = x := ⟨_, rfl⟩
  rw [hW1] at B1
  rw [hW1, ha1] at A1
  have cB := hid (ck_calls awkB (by decide) 5 (by decide) W1 (h16'.out.below B1.out))
  clear cA hI hb1
  go_wp2_with fail
  refine Calls.mono cB.out ?_
  clear hW1 ha1
  rintro e w2 ⟨C, A, E, rfl, hI, hb2⟩
  obtain ⟨rfl, rfl, rfl⟩ := hI.uniq chkB
  have A1b := hid ((A1.out.keptAll hb2).alloc (.cells #[.int .i64 2, .int .i64 3] 23))
  have A2 := hid (At.new w2 #[.int .i64 2, .int .i64 3] 23)
  have B2 := hid ((B1.out.trans (hb2.mono B1.out.size)).alloc (Nat.le_trans B1.out.size hb2.size) (.cells #[.int .i64 2, .int .i64 3] 23))
  obtain ⟨a2, ha2⟩ : ∃ x, w2.heap.size = x := ⟨_, rfl⟩
  obtain ⟨W2, hW2⟩ : ∃ x, w2.alloc (.cells #[.int .i64 2, .int .i64 3] 23) = x := ⟨_, rfl⟩
  rw [hW2] at B2 A1b
  rw [hW2, ha2] at A2
  have cC := hid (ck_calls awkC (by decide) 1 (by decide) W2 (h16'.out.below B2.out))
  clear cB hI hb2 A1 B1
  go_wp2_with fail
  refine Calls.mono cC.out ?_
  clear hW2 ha2
  rintro e w3 ⟨C, A, E, rfl, hI, hb3⟩
  obtain ⟨rfl, rfl, rfl⟩ := hI.uniq chkC
  have A1c := hid ((A1b.out.keptAll hb3).alloc (.cells #[.int .i64 3, .int .i64 1] 23))
  have A2c := hid ((A2.out.keptAll hb3).alloc (.cells #[.int .i64 3, .int .i64 1] 23))
  have A3 := hid (At.new w3 #[.int .i64 3, .int .i64 1] 23)
  have B3 := hid ((B2.out.trans (hb3.mono B2.out.size)).alloc (Nat.le_trans B2.out.size hb3.size) (.cells #[.int .i64 3, .int .i64 1] 23))
  obtain ⟨a3, ha3⟩ : ∃ x, w3.heap.size = x := ⟨_, rfl⟩
  obtain ⟨W3, hW3⟩ : ∃ x, w3.alloc (.cells #[.int .i64 3, .int .i64 1] 23) = x := ⟨_, rfl⟩
  rw [hW3] at B3 A1c A2c
  rw [hW3, ha3] at A3
  have cV := hid (vl_calls awkV (by decide) 3 (by decide) 5 0 (hid valV) W3 (h16'.out.below B3.out))
  clear cC hI hb3 A1b A2 B2
  go_wp2_with fail
  refine Calls.mono cV.out ?_
  clear hW3 ha3
  rintro e w4 ⟨rfl, hb4⟩
  have k1 := A1c.out.keptAll hb4
  have k2 := A2c.out.keptAll hb4
  have k3 := A3.out.keptAll hb4
  have c10 := k1.cell 0
  have c11 := k1.cell 1
  have c20 := k2.cell 0
  have c21 := k2.cell 1
  have c30 := k3.cell 0
  have c31 := k3.cell 1
  simp only [List.getElem?_toArray, List.getElem?_cons_zero, List.getElem?_cons_succ] at c10 c11 c20 c21 c30 c31
  have B4 := hid (B3.out.trans (hb4.mono B3.out.size))
  have cS := hid (sc_calls awkS (by decide) 1 3 0 (hid chkS) true (hid (by rw [depT]; rfl)) w4 (h16'.out.below B4.out))
  clear cV hb4 A1c A2c A3 B3 k1 k2 k3
  go_wp2_with fail
  refine Calls.mono cS.out ?_
  rintro e w5 ⟨rfl, hb5⟩
  have B5 := hid (B4.out.trans (hb5.mono B4.out.size))
  clear cS hb5 c10 c11 c20 c21 c30 c31
  go_wp2
  go_ret
  exact ⟨rfl, B5.out⟩

set_option maxRecDepth 10000 in
theorem code16_calls (s : ByteArray) (hs : s.size ≤ 8388608) (C A : Nat) (E : Int) (hC : Hid (IsChk s 1024 C A E)) (w : World) (h16 : Ok16 w) : Calls Tryz.prog 19 #[.string s] w fun e w' => e = .returned (.int .i64 (C : Int)) ∧ Below w.heap.size w w' := by
  have cA := hid (ck_calls s hs 1024 (by decide) w h16)
  clear h16
  go_enter Tryz.func19, Tryz.ntmps19
  go_wp2_with fail
  refine Calls.mono cA.out ?_
  rintro e w1 ⟨C', A', E', rfl, hI, hb1⟩
  obtain ⟨rfl, rfl, rfl⟩ := hI.uniq hC.out
  have k1 := At.new w1 #[.int .i64 (C' : Int), .int .i64 (A' : Int)] 23
  have c0 := k1.cell 0
  simp only [List.getElem?_toArray, List.getElem?_cons_zero] at c0
  have B1 := hid (hb1.alloc hb1.size (.cells #[.int .i64 (C' : Int), .int .i64 (A' : Int)] 23))
  clear cA hI hb1 hC k1
  go_wp2
  go_ret
  exact ⟨rfl, B1.out⟩
end Go.Proofs.YtlckhiflhnlgpaaGreatDoor

/- The code of a verdict, and what it means. -/
namespace Go.Proofs.YtlckhiflhnlgpaaGreatDoor
open Go.RowKit Go.Shelf

theorem cellK16 {w w' : World} {a : Addr} {v : Value} (h : w.cell? a = some v) (hb : Below w.heap.size w w') : w'.cell? a = some v := (hb.cell (by
  unfold World.cell? at h
  cases ho : w.heap[a.block]? with
  | none => simp [ho] at h
  | some o => exact (Array.getElem?_eq_some_iff.1 ho).1)).trans h
theorem doc_code {s : ByteArray} {d : Int} {C A : Nat} {E : Int} (h : IsChk s d C A E) (hd : docM (byts s)) : C ≠ 2 := by
  intro e
  rcases h with ⟨-, h, -⟩ | ⟨-, -, k, m, hr, h⟩
  · omega
  · obtain ⟨q, hq, hw⟩ := hd
    rw [run_all _ _ _ hq, byts_length] at hr
    simp only [Prod.mk.injEq] at hr
    obtain ⟨rfl, rfl⟩ := hr
    rcases h with ⟨h, -⟩ | ⟨-, -, ⟨i, -, -, -, h, -⟩ | ⟨-, h, -⟩⟩
    · rcases h with h | h
      · omega
      · rw [hw] at h; cases h
    · omega
    · omega
theorem chk_codes {s : ByteArray} {C A : Nat} {E : Int} (h : IsChk s 1024 C A E) : E = 0 ∧ ((C = 2) ∨ (C = 1 ∧ A = s.size) ∨ (C = 3 ∧ A < s.size)) := by
  rcases h with ⟨h, -⟩ | ⟨-, hE, k, m, hr, ⟨-, h, -⟩ | ⟨-, -, ⟨i, h1, -, -, h, h2⟩ | ⟨-, h, h2⟩⟩⟩
  · omega
  · exact ⟨hE, .inl h⟩
  · exact ⟨hE, .inr (.inr ⟨h, by omega⟩)⟩
  · exact ⟨hE, .inr (.inl ⟨h, h2⟩)⟩
end Go.Proofs.YtlckhiflhnlgpaaGreatDoor
