/-
  Stage 15's plain laws: what the document's own texts come to (awake); TextsMeans, TextsWrites, TextsSames, TextsEnds.
-/
import Derived.Test.YtlcihopklnnhdaaTxAwake
import Derived.Test.YtlcihopklnnhdaaRefTx5
namespace Go.Proofs.Ytlcihopklnnhdaa
open Go.RowKit Go.Shelf

set_option maxRecDepth 10000 in
theorem textsMeans_walk (a0 : ByteArray) (h0 : a0.size ≤ 1048576) (w : World) (h15 : Ok15 w) :
    Calls Try.prog 3 #[.string a0] w fun e w' => e = .returned (.bool true) ∧ Below w.heap.size w w' := by
  have h15' := hid h15
  obtain ⟨T, E, hU⟩ : ∃ T E, Hid (unS a0 = (T, E)) := ⟨_, _, rfl⟩
  go_enter Try.func3, Try.ntmps3
  go_wp2_with fail
  refine (un_calls a0 (by omega) T E hU _ h15'.out).mono ?_
  rintro e w1 ⟨rfl, hb1⟩
  have hb1' := hid hb1
  clear hb1
  go_wp2_with fail
  refine (refUn_calls a0 (by omega) T E hU _).mono ?_
  rintro e w2 ⟨rfl, hb2⟩
  have hb2' := hid (hb1'.out.trans (hb2.mono hb1'.out.size))
  clear hb2
  go_wp2_with fail
  refine (awake15_calls _ (h15'.out.below hb2'.out)).mono ?_
  rintro e w3 ⟨rfl, hb3⟩
  have hb3' := hid (hb2'.out.trans (hb3.mono hb2'.out.size))
  clear hb3
  go_wp2
  go_ret
  exact ⟨rfl, hb3'.out⟩

set_option maxRecDepth 10000 in
theorem textsWrites_walk (a0 : ByteArray) (h0 : a0.size ≤ 1048576) (w : World) (h15 : Ok15 w) :
    Calls Try.prog 4 #[.string a0] w fun e w' => e = .returned (.bool true) ∧ Below w.heap.size w w' := by
  have h15' := hid h15
  obtain ⟨T, E, hU⟩ : ∃ T E, Hid (wrS a0 = (T, E)) := ⟨_, _, rfl⟩
  go_enter Try.func4, Try.ntmps4
  go_wp2_with fail
  refine (es_calls a0 (by omega) T E hU _ h15'.out).mono ?_
  rintro e w1 ⟨rfl, hb1⟩
  have hb1' := hid hb1
  clear hb1
  go_wp2_with fail
  refine (refEs_calls a0 (by omega) T E hU _).mono ?_
  rintro e w2 ⟨rfl, hb2⟩
  have hb2' := hid (hb1'.out.trans (hb2.mono hb1'.out.size))
  clear hb2
  go_wp2_with fail
  refine (awake15_calls _ (h15'.out.below hb2'.out)).mono ?_
  rintro e w3 ⟨rfl, hb3⟩
  have hb3' := hid (hb2'.out.trans (hb3.mono hb2'.out.size))
  clear hb3
  go_wp2
  go_ret
  exact ⟨rfl, hb3'.out⟩

set_option maxRecDepth 10000 in
theorem textsSames_walk (a0 : ByteArray) (h0 : a0.size ≤ 1048576) (a1 : ByteArray) (_h1 : a1.size ≤ 1048576) (w : World) (h15 : Ok15 w) :
    Calls Try.prog 5 #[.string a0, .string a1] w fun e w' => e = .returned (.bool true) ∧ Below w.heap.size w w' := by
  have h15' := hid h15
  obtain ⟨T, E, hU⟩ : ∃ T E, Hid (unS a0 = (T, E)) := ⟨_, _, rfl⟩
  obtain ⟨B, hB⟩ : ∃ B : Bool, Hid ((E = 0 ∧ T = a1) ↔ B = true) := ⟨decide (E = 0 ∧ T = a1), hid (by simp)⟩
  obtain ⟨C, hC⟩ : ∃ C : Bool, Hid (E = 0 ↔ C = true) := ⟨decide (E = 0), hid (by simp)⟩
  go_enter Try.func5, Try.ntmps5
  go_wp2_with fail
  refine (refUn_calls a0 (by omega) T E hU _).mono ?_
  rintro e w1 ⟨rfl, hb1⟩
  have hb1' := hid hb1
  clear hb1
  go_wp2_with fail
  refine (sm_calls a0 a1 (by omega) T E hU B hB _ (h15'.out.below hb1'.out)).mono ?_
  rintro e w2 ⟨rfl, hb2⟩
  have hb2' := hid (hb1'.out.trans (hb2.mono hb1'.out.size))
  clear hb2
  go_wp2_with fail
  refine (refSm_calls a0 a1 (by omega) T E hU B hB _).mono ?_
  rintro e w3 ⟨rfl, hb3⟩
  have hb3' := hid (hb2'.out.trans (hb3.mono hb2'.out.size))
  clear hb3
  go_wp2_with fail
  refine (sm_calls a0 T (by omega) T E hU C (hid (show (E = 0 ∧ T = T) ↔ C = true by have := hC.out; simpa using this)) _ (h15'.out.below hb3'.out)).mono ?_
  rintro e w4 ⟨rfl, hb4⟩
  have hb4' := hid (hb3'.out.trans (hb4.mono hb3'.out.size))
  clear hb4
  go_wp2_with fail
  refine (refSm_calls a0 T (by omega) T E hU C (hid (show (E = 0 ∧ T = T) ↔ C = true by have := hC.out; simpa using this)) _).mono ?_
  rintro e w5 ⟨rfl, hb5⟩
  have hb5' := hid (hb4'.out.trans (hb5.mono hb4'.out.size))
  clear hb5
  go_wp2_with fail
  refine (sm_calls _ ⟨#[97]⟩ (by decide) _ _ (hid un_a) true (hid (by simp)) _ (h15'.out.below hb5'.out)).mono ?_
  rintro e w6 ⟨rfl, hb6⟩
  have hb6' := hid (hb5'.out.trans (hb6.mono hb5'.out.size))
  clear hb6
  go_wp2
  go_ret
  exact ⟨rfl, hb6'.out⟩

theorem end_a : IsEnd ⟨#[97, 34]⟩ 0 1 0 := .inr ⟨0, rfl, by decide, .inl ⟨1, by decide, by decide, by decide +kernel, fun j hj => by
  obtain rfl : j = 0 := by omega
  decide, rfl, rfl⟩⟩

set_option maxRecDepth 10000 in
theorem textsEnds_walk (a0 : ByteArray) (h0r : a0.size ≤ reachBytes) (a1 : Int) (h1 : (Lit.int .i64 a1).wf = true) (w : World) (h15 : Ok15 w) :
    Calls Try.prog 6 #[.string a0, .int .i64 a1] w fun e w' => e = .returned (.bool true) ∧ Below w.heap.size w w' := by
  have h0 : a0.size ≤ 140737488351232 := h0r
  clear h0r
  have h15' := hid h15
  have h1' := hid h1
  clear h1
  go_enter Try.func6, Try.ntmps6
  go_wp2_with fail
  refine (end_calls a0 (by omega) a1 h1'.out _ h15'.out).mono ?_
  rintro e w1 ⟨⟨n, E, rfl, hn⟩, hb1⟩
  have hb1' := hid hb1
  clear hb1
  go_wp2_with fail
  refine (refEnd_calls a0 (by omega) a1 h1'.out _).mono ?_
  rintro e w2 ⟨⟨n', E', rfl, hn'⟩, hb2⟩
  obtain ⟨rfl, rfl⟩ := hn.uniq hn'
  have hb2' := hid (hb1'.out.trans (hb2.mono hb1'.out.size))
  clear hb2 hn hn'
  go_wp2_with fail
  refine (end_calls ⟨#[97, 34]⟩ (by decide) 0 (by decide) _ (h15'.out.below hb2'.out)).mono ?_
  rintro e w3 ⟨⟨n2, E2, rfl, hn⟩, hb3⟩
  obtain ⟨rfl, rfl⟩ := hn.uniq end_a
  have hb3' := hid (hb2'.out.trans (hb3.mono hb2'.out.size))
  clear hb3 hn
  go_wp2
  go_ret
  exact ⟨rfl, hb3'.out⟩
end Go.Proofs.Ytlcihopklnnhdaa
