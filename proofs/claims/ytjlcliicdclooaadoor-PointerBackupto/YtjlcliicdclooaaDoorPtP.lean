/-
 The law PointerPrints, walked.
-/
import Derived.Test.YtjlcliicdclooaaDoorPtO
namespace Go.Proofs.YtjlcliicdclooaaDoor
open Go.RowKit Go.Shelf
theorem wrL_len : ∀ L : List (List UInt8), (wrL L).length ≤ 2 * sizesS (L.map mkL)
 | [] => by simp [wrL]
 | a :: r => by
  have h1 := wrN_len a
  have h2 := wrL_len r
  rw [wrL, List.map_cons, sizesS, mkL_size]
  simp only [List.length_cons, List.length_append]
  omega
theorem each_sizes : ∀ (L : List (List UInt8)), ∀ a ∈ L, a.length ≤ sizesS (L.map mkL)
 | [], a, h => by simp at h
 | b :: r, a, h => by
  rw [List.map_cons, sizesS, mkL_size]
  simp at h
  rcases h with rfl | h
  ·omega
  ·have := each_sizes r a h; omega
theorem len_sizes : ∀ (L : List (List UInt8)), L.length ≤ sizesS (L.map mkL)
 | [] => Nat.zero_le _
 | b :: r => by
  rw [List.map_cons, sizesS, mkL_size, List.length_cons]
  have := len_sizes r
  omega
theorem map_data (ss : List ByteArray) : (ss.map (fun s : ByteArray => s.data.toList)).map mkL = ss := by
 rw [List.map_map]
 conv => rhs; rw [← List.map_id ss]
 apply List.map_congr_left
 intro s _
 exact mkL_data s
theorem TextsOf.keys {w : World} {ao : Option Addr} {L : List (List UInt8)} (h : TextsOf w ao (L.map mkL)) (hb : sizesS (L.map mkL) ≤ 1048576) : KeysAt w ao (L.map mkL) := fun i s hi => by
 refine ⟨?_, h i s hi⟩
 rw [List.getElem?_map] at hi
 cases ha : L[i]? with
 | none => rw [ha] at hi; cases hi
 | some a =>
  rw [ha] at hi
  cases hi
  have := each_sizes L a (List.mem_of_getElem? ha)
  rw [mkL_size]
  unfold capT
  omega
end Go.Proofs.YtjlcliicdclooaaDoor
