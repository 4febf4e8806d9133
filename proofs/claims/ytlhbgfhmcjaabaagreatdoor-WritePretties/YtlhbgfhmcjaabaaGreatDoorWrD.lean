/-
 The writer's feed, next, last (by gen_wrd.py).
-/
import Derived.Test.YtlhbgfhmcjaabaaGreatDoorWrC
namespace Go.Proofs.YtlhbgfhmcjaabaaGreatDoor
open Go.RowKit Go.Shelf
/-- What begins a line of a depth. -/
def fdL (ln : ByteArray) (ix d : Nat) : List UInt8 := if ln.size = 0 then [] else (ln.extract 0 (1 + ix * d)).data.toList
/-- There are spaces enough for that depth. -/
def Fits (ln : ByteArray) (ix d : Nat) : Prop := ln.size = 0 ∨ (1 + ix * d ≤ ln.size ∧ ln.size ≤ 1099511627776)
theorem WdI.at_ {W : World} {m B : Nat} {cl ln : ByteArray} {ix : Int} {l : List UInt8} (h : WdI W m B cl ln ix l) : W.cell? ⟨m, 2, none⟩ = some (.string cl) ∧ W.cell? ⟨m, 3, none⟩ = some (.string ln) ∧ W.cell? ⟨m, 4, none⟩ = some (.int .i64 ix) := by
 obtain ⟨p, v, h1, -⟩ := h
 exact ⟨h1.cell 2, h1.cell 3, h1.cell 4⟩
theorem wrapJ_id {x : Int} (h1 : -9223372036854775808 ≤ x) (h2 : x < 9223372036854775808) : IntKind.i64.wrap x = x := by rw [IntKind.wrap_i64]; omega
theorem mulfit {ix d n : Nat} (h : 1 + ix * d ≤ n) (hn : n ≤ 1099511627776) : (ix : Int) * (d : Int) = ((ix * d : Nat) : Int) ∧ ((ix * d : Nat) : Int) + 1 ≤ 1099511627776 := ⟨by push_cast; rfl, by omega⟩
set_option maxRecDepth 10000 in
set_option maxHeartbeats 4000000 in
theorem feed_calls (m B : Nat) (cl ln : ByteArray) (ix : Nat) (l : List UInt8) (L : List UInt8) (d : Nat) (hL : l ++ fdL ln ix d = L) (hf : Hid (Fits ln ix d)) (hm : m < B) (hn : L.length ≤ 140737488355328) (w : World) (h : Hid (WdI w m B cl ln (ix : Int) l)) (hB : B ≤ w.heap.size) :
  Calls Tryz.prog 77 #[.pointer (some ⟨m, 0, none⟩), .int .i64 (d : Int)] w fun e w' => e = .returned (.tuple #[]) ∧ WdI w' m B cl ln (ix : Int) L ∧ WrF m w w' := by
 obtain ⟨-, c3, -⟩ := h.out.at_
 by_cases h0 : ln.size = 0
 ·obtain rfl : l = L := by rw [← hL, fdL, if_pos h0]; simp
  obtain rfl : ln = ⟨#[]⟩ := by
   apply ByteArray.ext
   apply Array.eq_empty_of_size_eq_zero
   exact h0
  clear hf h0 hL
  go_enter Tryz.func77, Tryz.ntmps77
  go_wp2
  go_end0
  exact ⟨rfl, h.out, WrF.refl _ _⟩
 ·obtain ⟨h1, h2⟩ : 1 + ix * d ≤ ln.size ∧ ln.size ≤ 1099511627776 := by
   rcases hf.out with h | h
   ·exact absurd h h0
   ·exact h
  rw [fdL, if_neg h0] at hL
  have hem : ln.toList.isEmpty = false := by
   rw [ByteArray.toList_eq]
   cases he : ln.data.toList with
   | nil => exfalso; apply h0; show ln.data.size = 0; rw [← Array.length_toList, he]; rfl
   | cons x r => rfl
  obtain ⟨g1, g2⟩ := mulfit h1 h2
  obtain ⟨J, hJ⟩ : ∃ J, ix * d = J := ⟨_, rfl⟩
  rw [hJ] at g1 g2 h1 hL
  have h3 : (1 : Int) + (J : Int) ≤ (ln.size : Int) := by omega
  have h4 : (ln.size : Int) ≤ 1099511627776 := by omega
  have hw1 : IntKind.i64.wrap ((ix : Int) * (d : Int)) = (J : Int) := by rw [g1]; exact wrapJ_id (by omega) (by omega)
  have hw2 : IntKind.i64.wrap (1 + (J : Int)) = 1 + (J : Int) := wrapJ_id (by omega) (by omega)
  have h5 : (0 : Int) ≤ 1 + (J : Int) := by omega
  have h6 : (1 + (J : Int)).toNat = 1 + J := by omega
  clear hf h0 hJ g1 g2
  go_enter Tryz.func77, Tryz.ntmps77
  go_upto_region 1 with fail
  have hx0 : w.drew.cell? ⟨m, 3, none⟩ = some (.string ln) ∧ w.drew.cell? ⟨m, 4, none⟩ = some (.int .i64 (ix : Int)) := ⟨h.out.at_.2.1, h.out.at_.2.2⟩
  have q0 := show Below w.heap.size w w.drew from (Below.refl _ _).drew
  have D1 := hid (h.out.kept q0)
  have F1 := hid (WrF.of_below (m := m) q0 (Nat.le_trans (Nat.le_of_lt hm) hB))
  have hB1 : B ≤ w.drew.heap.size := hB
  have hs := hid (fun u (hu : WdI u m B cl ln (ix : Int) l) (hb : B ≤ u.heap.size) => wput_calls m B cl ln (ix : Int) l (ln.extract 0 (1 + J)) L hL hm hn u hu hb)
  refine wp_region_held_drew (S := fun w' => w'.cell? ⟨m, 3, none⟩ = some (.string ln) ∧ w'.cell? ⟨m, 4, none⟩ = some (.int .i64 (ix : Int))) (by kernel_rfl) hx0 (fun hHeld => ?_)
  clear hHeld q0 h c3
  generalize w.drew = v0 at *
  (refine' wpAnyH_take (i := 0) rfl (by kernel_rfl) (by kernel_rfl) (by kernel_rfl) (fun _ _ _ h => h) (Or.inl ⟨by rfl, ?_⟩) (by assumption) ?_; rotate_left; (· (intro wq hq; (try dsimp only at hq); go_simp; first | done | with_reducible rfl)); simp only [Act.put, List.getElem_toArray, List.getElem_cons_zero, List.setIfInBounds_toArray, List.set_cons_zero, List.set_cons_succ])
  (refine' wpAnyH_take (i := 1) rfl (by kernel_rfl) (by kernel_rfl) (by kernel_rfl) (fun _ _ _ h => h) (Or.inl ⟨by rfl, ?_⟩) (by assumption) ?_; rotate_left; (· (intro wq hq; (try dsimp only at hq); go_simp; first | done | with_reducible rfl)); simp only [Act.put, List.getElem_toArray, List.getElem_cons_zero, List.getElem_cons_succ, List.setIfInBounds_toArray, List.set_cons_zero, List.set_cons_succ])
  (refine' wpAnyH_take (i := 2) rfl (by kernel_rfl) (by kernel_rfl) (by kernel_rfl) (fun _ _ _ h => h) (Or.inl ⟨by rfl, ?_⟩) (by assumption) ?_; rotate_left; (· (intro wq hq; (try dsimp only at hq); go_simp; first | done | with_reducible rfl)); simp only [Act.put, List.getElem_toArray, List.getElem_cons_zero, List.getElem_cons_succ, List.setIfInBounds_toArray, List.set_cons_zero, List.set_cons_succ])
  (refine' wpAnyH_take (i := 3) rfl (by kernel_rfl) (by kernel_rfl) (by kernel_rfl) (fun _ _ _ h => h) (Or.inl ⟨by rfl, ?_⟩) (by assumption) ?_; rotate_left; (· (intro wq hq; (try dsimp only at hq); go_simp; first | done | with_reducible rfl)); simp only [Act.put, List.getElem_toArray, List.getElem_cons_zero, List.getElem_cons_succ, List.setIfInBounds_toArray, List.set_cons_zero, List.set_cons_succ])
  (refine' wpAnyH_take (i := 4) rfl (by kernel_rfl) (by kernel_rfl) (by kernel_rfl) (fun _ _ _ h => h) (Or.inl ⟨by rfl, ?_⟩) (by assumption) ?_; rotate_left; (· (intro wq hq; (try dsimp only at hq); go_simp; first | done | with_reducible rfl)); simp only [Act.put, List.getElem_toArray, List.getElem_cons_zero, List.getElem_cons_succ, List.setIfInBounds_toArray, List.set_cons_zero, List.set_cons_succ])
  (refine' wpAnyH_take (i := 5) rfl (by kernel_rfl) (by kernel_rfl) (by kernel_rfl) (fun _ _ _ h => h) (Or.inl ⟨by rfl, ?_⟩) (by assumption) ?_; rotate_left; (· (intro wq hq; (try dsimp only at hq); go_simp; first | done | with_reducible rfl)); simp only [Act.put, List.getElem_toArray, List.getElem_cons_zero, List.getElem_cons_succ, List.setIfInBounds_toArray, List.set_cons_zero, List.set_cons_succ])
  (refine' wpAnyH_take (i := 6) rfl (by kernel_rfl) (by kernel_rfl) (by kernel_rfl) (fun _ _ _ h => h) (Or.inl ⟨by rfl, ?_⟩) (by assumption) ?_; rotate_left; (· (intro wq hq; (try dsimp only at hq); go_simp; first | done | with_reducible rfl)); simp only [Act.put, List.getElem_toArray, List.getElem_cons_zero, List.getElem_cons_succ, List.setIfInBounds_toArray, List.set_cons_zero, List.set_cons_succ])
  (refine' wpAnyH_take (i := 7) rfl (by kernel_rfl) (by kernel_rfl) (by kernel_rfl) (fun _ _ _ h => h) (Or.inl ⟨by rfl, ?_⟩) (by assumption) ?_; rotate_left; (· (intro wq hq; (try dsimp only at hq); go_simp; first | done | with_reducible rfl)); simp only [Act.put, List.getElem_toArray, List.getElem_cons_zero, List.getElem_cons_succ, List.setIfInBounds_toArray, List.set_cons_zero, List.set_cons_succ])
  (refine' wpAnyH_take (i := 8) rfl (by kernel_rfl) (by kernel_rfl) (by kernel_rfl) (fun _ _ _ h => h) (Or.inl ⟨by rfl, ?_⟩) (by assumption) ?_; rotate_left; (· (intro wq hq; (try dsimp only at hq); go_simp; first | done | with_reducible rfl)); simp only [Act.put, List.getElem_toArray, List.getElem_cons_zero, List.getElem_cons_succ, List.setIfInBounds_toArray, List.set_cons_zero, List.set_cons_succ])
  (refine' wpAnyH_take (i := 9) rfl (by kernel_rfl) (by kernel_rfl) (by kernel_rfl) (fun _ _ _ h => h) (Or.inl ⟨by rfl, ?_⟩) (by assumption) ?_; rotate_left; (· (intro wq hq; (try dsimp only at hq); go_simp; first | done | with_reducible rfl)); simp only [Act.put, List.getElem_toArray, List.getElem_cons_zero, List.getElem_cons_succ, List.setIfInBounds_toArray, List.set_cons_zero, List.set_cons_succ])
  (refine' wpAnyH_take (i := 10) rfl (by kernel_rfl) (by kernel_rfl) (by kernel_rfl) (fun _ _ _ h => h) (Or.inl ⟨by rfl, ?_⟩) (by assumption) ?_; rotate_left; (· (intro wq hq; (try dsimp only at hq); go_simp; first | done | with_reducible rfl)); simp only [Act.put, List.getElem_toArray, List.getElem_cons_zero, List.getElem_cons_succ, List.setIfInBounds_toArray, List.set_cons_zero, List.set_cons_succ])
  (refine' wpAnyH_take (i := 11) rfl (by kernel_rfl) (by kernel_rfl) (by kernel_rfl) (fun _ _ _ h => h) (Or.inl ⟨by rfl, ?_⟩) (by assumption) ?_; rotate_left; (· (intro wq hq; (try dsimp only at hq); go_simp; first | done | with_reducible rfl)); simp only [Act.put, List.getElem_toArray, List.getElem_cons_zero, List.getElem_cons_succ, List.setIfInBounds_toArray, List.set_cons_zero, List.set_cons_succ])
  (refine' wpAnyH_take (i := 12) rfl (by kernel_rfl) (by kernel_rfl) (by kernel_rfl) (fun _ _ _ h => h) (Or.inl ⟨by rfl, ?_⟩) (by assumption) ?_; rotate_left; (· (intro wq hq; (try dsimp only at hq); go_simp; first | done | with_reducible rfl)); simp only [Act.put, List.getElem_toArray, List.getElem_cons_zero, List.getElem_cons_succ, List.setIfInBounds_toArray, List.set_cons_zero, List.set_cons_succ])
  (refine' wpAnyH_take (i := 13) rfl (by kernel_rfl) (by kernel_rfl) (by kernel_rfl) (fun _ _ _ h => h) (Or.inl ⟨by rfl, ?_⟩) (by assumption) ?_; rotate_left; (· (intro wq hq; (try dsimp only at hq); go_simp; first | done | with_reducible rfl)); simp only [Act.put, List.getElem_toArray, List.getElem_cons_zero, List.getElem_cons_succ, List.setIfInBounds_toArray, List.set_cons_zero, List.set_cons_succ])
  (refine' wpAnyH_take (i := 14) rfl (by kernel_rfl) (by kernel_rfl) (by kernel_rfl) (fun _ _ _ h => h) (Or.inl ⟨by rfl, ?_⟩) (by assumption) ?_; rotate_left; (· (intro wq hq; (try dsimp only at hq); go_simp; first | done | with_reducible rfl)); simp only [Act.put, List.getElem_toArray, List.getElem_cons_zero, List.getElem_cons_succ, List.setIfInBounds_toArray, List.set_cons_zero, List.set_cons_succ])
  refine wpAnyH_ready (rs := [15]) (by kernel_rfl) (by simp) ?_
  refine AllReadyH.cons rfl (fun K hK => ?_) ?_
  ·rw [if_pos (by rfl)]
   go_simp
   refine Calls.mono (hs.out v0 D1.out hB1) ?_
   rintro e v1 ⟨rfl, hd, hf⟩
   refine hK.out _ _ ⟨hd.at_.2.1, hd.at_.2.2⟩ (fun _ => ?_)
   clear hK K
   refine wpAnyH_done (by kernel_rfl) ?_ _
   go_wp2
   go_end0
   exact ⟨rfl, hd, F1.out.trans hf⟩
  exact AllReadyH.nil
set_option maxRecDepth 10000 in
set_option maxHeartbeats 4000000 in
theorem next_calls (m B : Nat) (cl ln : ByteArray) (ix : Nat) (l : List UInt8) (L : List UInt8) (i d : Nat) (hd : (d : Int) ≤ 1048576) (hL : l ++ ((if 0 < i then [44] else []) ++ fdL ln ix (d + 1)) = L) (hf : Hid (Fits ln ix (d + 1))) (hm : m < B) (hn : L.length ≤ 140737488355328) (w : World) (h : Hid (WdI w m B cl ln (ix : Int) l)) (hB : B ≤ w.heap.size) :
  Calls Tryz.prog 50 #[.pointer (some ⟨m, 0, none⟩), .int .i64 (i : Int), .int .i64 (d : Int)] w fun e w' => e = .returned (.tuple #[]) ∧ WdI w' m B cl ln (ix : Int) L ∧ WrF m w w' := by
 have hfd := hid (fun l2 (e : l2 ++ fdL ln ix (d + 1) = L) u (hu : WdI u m B cl ln (ix : Int) l2) (hb : B ≤ u.heap.size) => feed_calls m B cl ln ix l2 L (d + 1) e hf hm hn u (hid hu) hb)
 push_cast at hfd
 by_cases hi : 0 < i
 ·have e0 : decide ((0 : Int) < (i : Int)) = true := by simp; omega
  have e1 : decide (0 < i) = true := by simp [hi]
  rw [if_pos hi] at hL
  have hn1 : l.length + 1 ≤ 140737488355328 := by rw [← hL] at hn; simp at hn; omega
  clear hi hf
  go_enter Tryz.func50, Tryz.ntmps50
  go_wp2_with fail
  refine Calls.mono (wbyte_calls m B cl ln (ix : Int) l 44 44 rfl hm hn1 w h.out hB) ?_
  rintro e w1 ⟨rfl, hd1, hf1⟩
  have hB1 : B ≤ w1.heap.size := Nat.le_trans hB hf1.low.size
  have D1 := hid hd1
  have F1 := hid hf1
  clear hd1 hf1
  go_wp2_with (go_at_call 77; refine Calls.mono (hfd.out (l ++ [44]) (by rw [← hL]; simp) w1 D1.out hB1) ?_; rintro e w2 ⟨rfl, hd2, hf2⟩)
  go_end0
  exact ⟨rfl, hd2, F1.out.trans hf2⟩
 ·have e0 : decide ((0 : Int) < (i : Int)) = false := by simp; omega
  have e1 : decide (0 < i) = false := by simp [hi]
  rw [if_neg hi] at hL
  clear hi hf
  go_enter Tryz.func50, Tryz.ntmps50
  go_wp2_with (go_at_call 77; refine Calls.mono (hfd.out l (by rw [← hL]; simp) w h.out hB) ?_; rintro e w2 ⟨rfl, hd2, hf2⟩)
  go_end0
  exact ⟨rfl, hd2, hf2⟩
set_option maxRecDepth 10000 in
set_option maxHeartbeats 4000000 in
theorem last_calls (m B : Nat) (cl ln : ByteArray) (ix : Nat) (l : List UInt8) (L : List UInt8) (i d : Nat) (hL : l ++ (if 0 < i then fdL ln ix d else []) = L) (hf : Hid (Fits ln ix d)) (hm : m < B) (hn : L.length ≤ 140737488355328) (w : World) (h : Hid (WdI w m B cl ln (ix : Int) l)) (hB : B ≤ w.heap.size) :
  Calls Tryz.prog 51 #[.pointer (some ⟨m, 0, none⟩), .int .i64 (i : Int), .int .i64 (d : Int)] w fun e w' => e = .returned (.tuple #[]) ∧ WdI w' m B cl ln (ix : Int) L ∧ WrF m w w' := by
 have hfd := hid (fun (e : l ++ fdL ln ix d = L) => feed_calls m B cl ln ix l L d e hf hm hn w h hB)
 by_cases hi : 0 < i
 ·have e0 : decide ((0 : Int) < (i : Int)) = true := by simp; omega
  have e1 : decide (0 < i) = true := by simp [hi]
  rw [if_pos hi] at hL
  clear hi hf
  go_enter Tryz.func51, Tryz.ntmps51
  go_wp2_with (go_at_call 77; refine Calls.mono (hfd.out hL) ?_; rintro e w2 ⟨rfl, hd2, hf2⟩)
  go_end0
  exact ⟨rfl, hd2, hf2⟩
 ·have e0 : decide ((0 : Int) < (i : Int)) = false := by simp; omega
  have e1 : decide (0 < i) = false := by simp [hi]
  rw [if_neg hi] at hL
  obtain rfl : l = L := by rw [← hL]; simp
  clear hi hf hfd hL
  go_enter Tryz.func51, Tryz.ntmps51
  go_wp2
  go_end0
  exact ⟨rfl, h.out, WrF.refl _ _⟩
end Go.Proofs.YtlhbgfhmcjaabaaGreatDoor
