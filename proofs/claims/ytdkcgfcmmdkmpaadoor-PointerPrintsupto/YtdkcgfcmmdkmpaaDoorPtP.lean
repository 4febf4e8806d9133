/-
 The law PointerPrints, walked.
-/
import Derived.Test.YtdkcgfcmmdkmpaaDoorPtO
namespace Go.Proofs.YtdkcgfcmmdkmpaaDoor
open Go.RowKit Go.Shelf
theorem wrL_len : ∀ L : List (List UInt8), (wrL L).length ≤ 2 * sizesS (L.map mkL)
 | [] => by simp [wrL]
 | a :: r => by
  have h1 := wrN_len a
  have h2 := wrL_len r
  rw [wrL, List.map_cons, sizesS, mkL_size]
  simp only [List.length_cons, List.length_append]
  omega
theorem each_sizes : ∀ (L : List (List UInt8)), ∀ a ∈ L, a.length ≤ sizesS (L.map mkL)
 | [], a, h => by simp at h
 | b :: r, a, h => by
  rw [List.map_cons, sizesS, mkL_size]
  simp at h
  rcases h with rfl | h
  ·omega
  ·have := each_sizes r a h; omega
theorem len_sizes : ∀ (L : List (List UInt8)), L.length ≤ sizesS (L.map mkL)
 | [] => Nat.zero_le _
 | b :: r => by
  rw [List.map_cons, sizesS, mkL_size, List.length_cons]
  have := len_sizes r
  omega
theorem map_data (ss : List ByteArray) : (ss.map (fun s : ByteArray => s.data.toList)).map mkL = ss := by
 rw [List.map_map]
 conv => rhs; rw [← List.map_id ss]
 apply List.map_congr_left
 intro s _
 exact mkL_data s
theorem TextsOf.keys {w : World} {ao : Option Addr} {L : List (List UInt8)} (h : TextsOf w ao (L.map mkL)) (hb : sizesS (L.map mkL) ≤ 1048576) : KeysAt w ao (L.map mkL) := fun i s hi => by
 refine ⟨?_, h i s hi⟩
 rw [List.getElem?_map] at hi
 cases ha : L[i]? with
 | none => rw [ha] at hi; cases hi
 | some a =>
  rw [ha] at hi
  cases hi
  have := each_sizes L a (List.mem_of_getElem? ha)
  rw [mkL_size]
  unfold capT
  omega
set_option maxRecDepth 10000 in
set_option maxHeartbeats 2000000 in
theorem pointerPrints_walk (ao : Option Addr) (cap : Nat) (ss : List ByteArray) (hb : sizesS ss ≤ 1048576) (w : World) (hM : MxI w) (hin : TextsOf w ao ss) :
  Calls Tryd.prog 3 #[.slice ao ss.length cap] w fun e w' => e = .returned (.bool true) ∧ Below w.heap.size w w' := by
 obtain ⟨L, rfl⟩ : ∃ L : List (List UInt8), ss = L.map mkL := ⟨_, (map_data ss).symm⟩
 have hk := hin.keys hb
 have l1 := wrL_len L
 have l2 := each_sizes L
 have l3 := len_sizes L
 obtain ⟨N, hN⟩ : ∃ N, Hid (L.length = N) := ⟨_, rfl⟩
 have hNN : (L.map mkL).length = N := by rw [List.length_map, hN.out]
 rw [hNN]
 rw [hN.out] at l3
 have al : Below w.heap.size w (w.alloc (.cells #[.string ⟨#[97, 47, 98]⟩, .string ⟨#[126]⟩] 9)) := (Below.refl _ _).alloc (Nat.le_refl _) _
 have hA := At.new w #[.string ⟨#[97, 47, 98]⟩, .string ⟨#[126]⟩] 9
 have k2 : KeysAt (w.alloc (.cells #[.string ⟨#[97, 47, 98]⟩, .string ⟨#[126]⟩] 9)) (some ⟨w.heap.size, 0, none⟩) ([[97, 47, 98], [126]].map mkL) := by
  intro i s hi
  match i, hi with
  | 0, hi => cases hi; exact ⟨by decide, _, _, rfl, hA.lt, hA.cell 0⟩
  | 1, hi => cases hi; exact ⟨by decide, _, _, rfl, hA.lt, hA.cell 1⟩
 have c1 := print_calls [[97, 47, 98], [126]] (some ⟨w.heap.size, 0, none⟩) 2 2 (hid rfl) (by decide) (hid (by decide)) (hid (by decide)) _ (hid k2) (hid (hM.kept al))
 have c1' : Hid (Calls Tryd.prog 4 #[.slice (some ⟨w.heap.size, 0, none⟩) 2 2] (w.alloc (.cells #[.string ⟨#[97, 47, 98]⟩, .string ⟨#[126]⟩] 9)) fun e w' => e = .returned (.string ⟨#[47, 97, 126, 49, 98, 47, 126, 48]⟩) ∧ Below (w.alloc (.cells #[.string ⟨#[97, 47, 98]⟩, .string ⟨#[126]⟩] 9)).heap.size (w.alloc (.cells #[.string ⟨#[97, 47, 98]⟩, .string ⟨#[126]⟩] 9)) w') := c1
 have c2 := hid (fun (u : World) (bb : Below w.heap.size w u) => print_calls L ao N cap hN (by omega) (hid (fun a ha => by have := l2 a ha; omega)) (hid (by omega)) u (hid (hk.kept bb)) (hid (hM.kept bb)))
 have c3 := hid (fun (u : World) (bb : Below w.heap.size w u) => printR_calls L ao N cap hN (by omega) (hid (fun a ha => by have := l2 a ha; omega)) (hid (by omega)) u (hid (hk.kept bb)))
 generalize mkL (wrL L) = T at c2 c3
 have al' := hid al
 have heq : (T.toList == T.toList) = true := beq_self_eq_true _
 clear c1 k2 hA al hM hin hk l1 l2 l3 hNN hb
 go_enter Tryd.func3, Tryd.ntmps3
 go_wp2_with fail
 refine Calls.mono c1'.out ?_
 rintro e w1 ⟨rfl, b1⟩
 have B1 := hid (al'.out.trans (b1.mono al'.out.size))
 clear b1 c1' al'
 go_wp2_with fail
 refine Calls.mono (c2.out _ B1.out) ?_
 rintro e w2 ⟨rfl, b2⟩
 have B2 := hid (B1.out.trans (b2.mono B1.out.size))
 clear b2 c2 B1
 go_wp2_with fail
 refine Calls.mono (c3.out _ B2.out) ?_
 rintro e w3 ⟨rfl, b3⟩
 have B3 := hid (B2.out.trans (b3.mono B2.out.size))
 clear b3 c3 B2
 go_wp2
 go_ret
 exact ⟨by simp, B3.out⟩
end Go.Proofs.YtdkcgfcmmdkmpaaDoor
