/-
  What quarrykit.LentBits and quarrykit.KeptBits answer.
-/
import Derived.Test.YtkdcloiepeenoaaDoorLentWords
import Derived.Test.YtkdcloiepeenoaaDoorGivesKit
import Derived.Deep.RegionHeld
namespace Go.Proofs.YtkdcloiepeenoaaDoor
open Go.RowKit

theorem cell_set2 {w : World} {p : Addr} {b : Nat} (hp : p.block ≠ b) (x y : Value) : ((w.setCell ⟨b, 0, none⟩ x).setCell ⟨b, 1, none⟩ y).cell? p = w.cell? p :=
  (World.cell?_of_block (Below.heap_setCell _ ⟨b, 1, none⟩ y p.block hp)).trans (World.cell?_of_block (Below.heap_setCell w ⟨b, 0, none⟩ x p.block hp))
/-- A row of words that was lent. -/
abbrev LentB (w : World) (g c k : Nat) (X : Nat → Nat) : Prop := LentW w g c k (fun j => ((X j : Nat) : Int))
theorem LentB.wds {w : World} {g c k : Nat} {X : Nat → Nat} (h : LentB w g c k X) (hX : ∀ j, j < k → X j < 18446744073709551616) : Wds w (some ⟨g, 0, none⟩) k X := fun j hj => by
  refine ⟨hX j hj, g, 0, rfl, ?_⟩
  rw [Nat.zero_add, h.cell (by omega), zmW, if_pos hj]
theorem Wds.ints {w : World} {ao : Option Addr} {k : Nat} {X : Nat → Nat} (h : Wds w ao k X) : ∀ j, j < k → (Lit.int .u64 ((X j : Nat) : Int)).wf = true ∧ ∃ g off, ao = some ⟨g, off, none⟩ ∧ w.cell? ⟨g, off + j, none⟩ = some (.int .u64 ((X j : Nat) : Int)) := fun j hj => by
  obtain ⟨h1, h2⟩ := h j hj
  refine ⟨?_, h2⟩
  exact WalkArith.wf_u64 (by omega)

set_option maxRecDepth 10000 in
set_option maxHeartbeats 1000000 in
theorem lentB_calls (n : Int) (ao : Option Addr) (k cap : Nat) (X : Nat → Nat) (hk : k ≤ 17592186043904) (w : World) (hW : Wds w ao k X) :
    Calls Tryd.prog 8 #[bv n ao k cap] w fun e w' => ∃ g c, e = .returned (bv n (some ⟨g, 0, none⟩) k c) ∧ w.heap.size ≤ g ∧ LentB w' g c k X ∧ Below w.heap.size w w' := by
  have hl : Hid _ := fun (w1 : World) (hb : Below w.heap.size w w1) => lentW_calls ao k cap (fun j => ((X j : Nat) : Int)) hk (Nat.zero_le _) w1 (hW.kept hb).ints
  clear hW
  go_enter Tryd.func8, Tryd.ntmps8
  go_wp2
  have a1 := (At.new w #[.int .i64 n, .slice ao k cap] 24).alloc (.cells #[.int .i64 0, .slice none 0 0] 24)
  have a2 : At ((w.alloc (.cells #[.int .i64 n, .slice ao k cap] 24)).alloc (.cells #[.int .i64 0, .slice none 0 0] 24)) (w.heap.size + 1) #[.int .i64 0, .slice none 0 0] 24 := by
    have := At.new (w.alloc (.cells #[.int .i64 n, .slice ao k cap] 24)) #[.int .i64 0, .slice none 0 0] 24
    simpa using this
  refine wp_region_held_drew (S := fun w' => (w'.cell? ⟨w.heap.size, 0, none⟩ = some (.int .i64 n) ∧ w'.cell? ⟨w.heap.size, 1, none⟩ = some (.slice ao k cap)) ∧ (∃ x y, At w' (w.heap.size + 1) #[x, y] 24) ∧ Below w.heap.size w w') (by kernel_rfl) ⟨⟨a1.cell 0, a1.cell 1⟩, ⟨_, _, a2⟩, by repeat (first | with_reducible exact Below.refl _ _ | with_reducible refine Below.setCell ?_ (by first | (simp; done) | (simp; omega)) _ | with_reducible refine below_drewN ?_ _ | with_reducible refine Below.alloc ?_ (by first | (simp; done) | (simp; omega)) _ | with_reducible refine Below.drew ?_)⟩ (fun hH => ?_)
  clear a1 a2
  (refine' wpAnyH_take (i := 0) rfl (by kernel_rfl) (by kernel_rfl) (by kernel_rfl) (fun _ _ _ h => h) (Or.inl ⟨by rfl, ?_⟩) (by assumption) ?_; rotate_left; (· (intro wq hq; (try dsimp only at hq); go_simp; first | done | with_reducible rfl)); simp only [Act.put, List.getElem_toArray, List.getElem_cons_zero, List.setIfInBounds_toArray, List.set_cons_zero, List.set_cons_succ])
  (refine' wpAnyH_take (i := 1) rfl (by kernel_rfl) (by kernel_rfl) (by kernel_rfl) (fun _ _ _ h => h) (Or.inl ⟨by rfl, ?_⟩) (by assumption) ?_; rotate_left; (· (intro wq hq; (try dsimp only at hq); go_simp; first | done | with_reducible rfl)); simp only [Act.put, List.getElem_toArray, List.getElem_cons_zero, List.getElem_cons_succ, List.setIfInBounds_toArray, List.set_cons_zero, List.set_cons_succ])
  (refine' wpAnyH_take (i := 2) rfl (by kernel_rfl) (by kernel_rfl) (by kernel_rfl) (fun _ _ _ h => h) (Or.inl ⟨by rfl, ?_⟩) (by assumption) ?_; rotate_left; (· (intro wq hq; (try dsimp only at hq); go_simp; first | done | with_reducible rfl)); simp only [Act.put, List.getElem_toArray, List.getElem_cons_zero, List.getElem_cons_succ, List.setIfInBounds_toArray, List.set_cons_zero, List.set_cons_succ])
  (refine' wpAnyH_take (i := 3) rfl (by kernel_rfl) (by kernel_rfl) (by kernel_rfl) (fun _ _ _ h => h) (Or.inl ⟨by rfl, ?_⟩) (by assumption) ?_; rotate_left; (· (intro wq hq; (try dsimp only at hq); go_simp; first | done | with_reducible rfl)); simp only [Act.put, List.getElem_toArray, List.getElem_cons_zero, List.getElem_cons_succ, List.setIfInBounds_toArray, List.set_cons_zero, List.set_cons_succ])
  refine wpAnyH_ready (rs := [4]) (by kernel_rfl) (by simp) ?_
  refine AllReadyH.cons rfl (fun K hK => ?_) ?_
  · go_simp
    (go_at_call 31; refine Calls.mono (hl.out _ hH.2.2) ?_; rintro e w3 ⟨g, c, rfl, hg, hL, hb3⟩; (try dsimp only))
    obtain ⟨x0, y0, a0⟩ := hH.2.1
    have hg' : w.heap.size + 2 ≤ g := by have := a0.lt; omega
    have a3 := a0.keptAll hb3
    refine hK.out _ _ ⟨⟨(hb3.cell (p := ⟨w.heap.size, 0, none⟩) (by have := a0.lt; show w.heap.size < _; omega)).trans hH.1.1, (hb3.cell (p := ⟨w.heap.size, 1, none⟩) (by have := a0.lt; show w.heap.size < _; omega)).trans hH.1.2⟩, ⟨x0, y0, a3⟩, hH.2.2.trans (hb3.mono hH.2.2.size)⟩ (fun hH3 => ?_)
    obtain ⟨c0, c1, f0, f1⟩ := a3.facts
    have a3' := hid a3
    have hL' := hid hL
    clear hK hb3 hH hl a3 hL hg a0
    (refine' wpAnyH_take (i := 5) rfl (by kernel_rfl) (by kernel_rfl) (by kernel_rfl) (fun _ _ _ h => h) (Or.inl ⟨by rfl, ?_⟩) (by assumption) ?_; rotate_left; (· (intro wq hq; (try dsimp only at hq); go_simp; first | done | with_reducible rfl)); simp only [Act.put, List.getElem_toArray, List.getElem_cons_zero, List.getElem_cons_succ, List.setIfInBounds_toArray, List.set_cons_zero, List.set_cons_succ])
    have hB3 := hH3.2.2
    have hcl := hH3.1
    clear hH3
    refine wpAnyH_ready (rs := [6]) (by kernel_rfl) (by simp) ?_
    refine AllReadyH.cons rfl (fun K hK => ?_) ?_
    · go_simp
      refine hK.out _ _ ⟨⟨?_, ?_⟩, ⟨_, _, a3'.out.two⟩, (hB3.setCell (p := ⟨w.heap.size + 1, 0, none⟩) (by show w.heap.size ≤ w.heap.size + 1; omega) _).setCell (p := ⟨w.heap.size + 1, 1, none⟩) (by show w.heap.size ≤ w.heap.size + 1; omega) _⟩ (fun hH4 => ?_)
      · exact (cell_set2 (by show w.heap.size ≠ w.heap.size + 1; omega) _ _).trans hcl.1
      · exact (cell_set2 (by show w.heap.size ≠ w.heap.size + 1; omega) _ _).trans hcl.2
      refine wpAnyH_done (by kernel_rfl) ?_ _
      clear hK hH4 hcl
      go_wp2
      refine ret_bits1 rfl rfl a3'.out.two rfl ⟨g, c, rfl, by omega, ?_, (hB3.setCell (p := ⟨w.heap.size + 1, 0, none⟩) (by show w.heap.size ≤ w.heap.size + 1; omega) _).setCell (p := ⟨w.heap.size + 1, 1, none⟩) (by show w.heap.size ≤ w.heap.size + 1; omega) _⟩
      obtain ⟨cur, h1, h2⟩ := hL'.out
      exact ⟨cur, (h1.other (p := ⟨w.heap.size + 1, 0, none⟩) (by show g ≠ w.heap.size + 1; omega) _).other (p := ⟨w.heap.size + 1, 1, none⟩) (by show g ≠ w.heap.size + 1; omega) _, h2⟩
    · exact AllReadyH.nil
  · exact AllReadyH.nil

set_option maxRecDepth 10000 in
set_option maxHeartbeats 1000000 in
theorem keptB_calls (n : Int) (ao : Option Addr) (k cap g c : Nat) (X : Nat → Nat) (hk : k ≤ 17592186043904) (w : World) (hL : LentB w g c k X) (hW : Wds w ao k X) :
    Calls Tryd.prog 17 #[bv n (some ⟨g, 0, none⟩) k c, bv n ao k cap] w fun e w' => e = .returned (.bool true) ∧ Below w.heap.size w w' := by
  have hl : Hid _ := fun (w1 : World) (hb : Below w.heap.size w w1) => keptW_calls ao k cap g c (fun j => ((X j : Nat) : Int)) hk w1 (LentW.kept hL hb) (hW.kept hb).ints
  have e1 : (n == n) = true := by simp
  clear hW hL
  go_enter Tryd.func17, Tryd.ntmps17
  go_wp2_with fail
  refine Calls.mono (hl.out _ (by repeat (first | with_reducible exact Below.refl _ _ | with_reducible refine Below.setCell ?_ (by first | (simp; done) | (simp; omega)) _ | with_reducible refine below_drewN ?_ _ | with_reducible refine Below.alloc ?_ (by first | (simp; done) | (simp; omega)) _ | with_reducible refine Below.drew ?_))) ?_
  rintro e w3 ⟨rfl, hb3⟩
  have hB3 : Below w.heap.size w w3 := Below.trans (by repeat (first | with_reducible exact Below.refl _ _ | with_reducible refine Below.setCell ?_ (by first | (simp; done) | (simp; omega)) _ | with_reducible refine below_drewN ?_ _ | with_reducible refine Below.alloc ?_ (by first | (simp; done) | (simp; omega)) _ | with_reducible refine Below.drew ?_)) (hb3.mono (by simp; omega))
  clear hl hb3
  go_wp2
  go_ret
  exact ⟨rfl, hB3⟩
end Go.Proofs.YtkdcloiepeenoaaDoor
