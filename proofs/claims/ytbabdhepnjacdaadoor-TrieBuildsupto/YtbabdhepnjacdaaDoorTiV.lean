/-
  quarryref00.SameSteps, SamePaths; quarrylaw23.small; the law TriePaths, walked.
-/
import Derived.Test.YtbabdhepnjacdaaDoorTiU
import Derived.Test.YtbabdhepnjacdaaDoorTiN
namespace Go.Proofs.YtbabdhepnjacdaaDoor
open Go.RowKit Go.Shelf
set_option maxRecDepth 10000 in
set_option maxHeartbeats 8000000 in
theorem sameStZ_calls (ss : List Stp) (ao bo : Option Addr) (N cap cap' : Nat) (hN : Hid (ss.length = N)) (hNi : N ≤ 1073741824) (w : World) (hL : Hid (StepsAt w ao ss)) (hk : Hid (StepsAt w bo ss)) :
    Calls Tryd.prog 33 #[.slice ao N cap, .slice bo N cap'] w fun e w' => e = .returned (.bool true) ∧ Below w.heap.size w w' := by
  have hNi' : (N : Int) ≤ 1073741824 := by omega
  go_enter Tryd.func33, Tryd.ntmps33
  go_wp2
  go_loopw [5] (fun ii wr => ∃ i : Nat, i ≤ N ∧ ii = .int .i64 (i : Int) ∧ Hid (Below w.heap.size w wr)) (fun ii _ => N - (intOf ii).toNat)
  case atStart => exact ⟨0, Nat.zero_le _, rfl, hid (Below.refl _ _)⟩
  case round =>
    obtain ⟨i, hi, rfl, hb⟩ := hrel
    by_cases hlt : i < N
    · have hlt' := hid (show i + 1 ≤ N by omega)
      have hli : (i : Int) < (N : Int) := by omega
      obtain ⟨s, hs⟩ : ∃ s, Hid (ss[i]? = some s) := ⟨_, List.getElem?_eq_getElem (by rw [hN.out]; exact hlt)⟩
      obtain ⟨g1, o1, rfl, -, hr1⟩ := steps_at (hL.out.kept hb.out) hs.out
      obtain ⟨g2, o2, rfl, -, hr2⟩ := steps_at (hk.out.kept hb.out) hs.out
      obtain ⟨k, nm, pl⟩ := s
      have R1 := hid (show wr.rangeAt g1 (o1 + i * 3) [.int .i64 k, .string nm, .int .i64 pl] from hr1)
      have R2 := hid (show wr.rangeAt g2 (o2 + i * 3) [.int .i64 k, .string nm, .int .i64 pl] from hr2)
      have eqs : ∀ u, (Op.equalIn 10000 53 (.agg #[.int .i64 k, .string nm, .int .i64 pl]) (.agg #[.int .i64 k, .string nm, .int .i64 pl])).run Tryd.prog u = .ok true u := fun u => by rw [eqStp]; simp
      have e1 : decide ((i : Int) < (N : Int)) = true := by simp; omega
      clear hs hr1 hr2 hL hk hN
      go_wp2
      refine wp_region_quiet (C := (fun w' => Below wr.heap.size wr w')) (by kernel_rfl) (by kernel_rfl) ((Below.refl _ _).drew) ?_
      dsimp only
      repeat (first
        | go_big_quiet_skip
        | (refine' wpQuiet_take (by rfl) ?_ ?_
           rotate_left
           · (intro wq hq; (try dsimp only at hq); go_simp
              first
                | done
                | with_reducible rfl
             )
           simp only [Act.put, List.setIfInBounds_toArray, List.set_cons_zero, List.set_cons_succ])
        | (refine wpQuiet_load 53 _ (g1) (o1 + i * 3) [.int .i64 k, .string nm, .int .i64 pl] _ (fun wq hq => range_kept R1.out hq) Tryd.underlying53 sizeStp rfl rfl rfl (by rfl) ?_; simp only [Act.put, List.setIfInBounds_toArray, List.set_cons_zero, List.set_cons_succ])
        | (refine wpQuiet_load 53 _ (g2) (o2 + i * 3) [.int .i64 k, .string nm, .int .i64 pl] _ (fun wq hq => range_kept R2.out hq) Tryd.underlying53 sizeStp rfl rfl rfl (by rfl) ?_; simp only [Act.put, List.setIfInBounds_toArray, List.set_cons_zero, List.set_cons_succ]))
      refine wpQuiet_nil ?_
      intro wz hwz
      have hfin := hid (hb.out.trans (Below.mono hwz hb.out.size))
      clear hwz
      go_wp2
      go_roundw
      case rel => exact ⟨i + 1, hlt'.out, by simp, hfin⟩
      case measure => simp [intOf]; have := hlt'.out; omega
    · obtain rfl : i = N := by omega
      clear hL hk hN
      go_wp2
      go_ret
      exact ⟨rfl, hb.out⟩
theorem pths_at {w : World} {ao : Option Addr} {L : List (List Stp)} (h : PthsAt w ao L) {i : Nat} {p : List Stp} (hi : L[i]? = some p) : ∃ b off so sc, ao = some ⟨b, off, none⟩ ∧ StepsAt w so p ∧ ∀ u, Below w.heap.size w u → u.cell? ⟨b, off + i, none⟩ = some (.slice so p.length sc) := by
  obtain ⟨b, off, so, sc, h1, h2, h3, h4⟩ := h i p hi
  exact ⟨b, off, so, sc, h1, h4, fun u hu => (hu.cell (p := ⟨b, off + i, none⟩) h2).trans h3⟩
/-- The law's own paths. -/
def smP : List (List Stp) := [[sA, sB], [sA]]
theorem two_steps {w : World} {b : Nat} {s u : Stp} (h : At w b #[.int .i64 s.kind, .string s.name, .int .i64 s.place, .int .i64 u.kind, .string u.name, .int .i64 u.place] 53) (hs : s.name.size ≤ capT) (hu : u.name.size ≤ capT) : StepsAt w (some ⟨b, 0, none⟩) [s, u] := fun i x hi => by
  match i, hi with
  | 0, hi =>
    simp at hi; subst hi
    refine ⟨hs, b, 0, rfl, h.lt, fun j y hj => ?_⟩
    match j, hj with
    | 0, hj => rw [show (0 + 0 * 3 + 0 : Nat) = 0 from rfl, h.cell 0]; exact hj
    | 1, hj => rw [show (0 + 0 * 3 + 1 : Nat) = 1 from rfl, h.cell 1]; exact hj
    | 2, hj => rw [show (0 + 0 * 3 + 2 : Nat) = 2 from rfl, h.cell 2]; exact hj
    | j + 3, hj => simp at hj
  | 1, hi =>
    simp at hi; subst hi
    refine ⟨hu, b, 0, rfl, h.lt, fun j y hj => ?_⟩
    match j, hj with
    | 0, hj => rw [show (0 + 1 * 3 + 0 : Nat) = 3 from rfl, h.cell 3]; exact hj
    | 1, hj => rw [show (0 + 1 * 3 + 1 : Nat) = 4 from rfl, h.cell 4]; exact hj
    | 2, hj => rw [show (0 + 1 * 3 + 2 : Nat) = 5 from rfl, h.cell 5]; exact hj
    | j + 3, hj => simp at hj
  | i + 2, hi => simp at hi
theorem two_pths {w : World} {b : Nat} {so1 so2 : Option Addr} {sc1 sc2 : Nat} {p q : List Stp} (h : At w b #[.slice so1 p.length sc1, .slice so2 q.length sc2] 45) (hp : StepsAt w so1 p) (hq : StepsAt w so2 q) : PthsAt w (some ⟨b, 0, none⟩) [p, q] := fun i x hi => by
  match i, hi with
  | 0, hi => simp at hi; subst hi; exact ⟨b, 0, so1, sc1, rfl, h.lt, h.cell 0, hp⟩
  | 1, hi => simp at hi; subst hi; exact ⟨b, 0, so2, sc2, rfl, h.lt, h.cell 1, hq⟩
  | i + 2, hi => simp at hi
set_option maxRecDepth 10000 in
set_option maxHeartbeats 4000000 in
theorem smallP_calls (w : World) : Calls Tryd.prog 10 #[] w fun e w' => (∃ b, e = .returned (.slice (some ⟨b, 0, none⟩) 2 2) ∧ PthsAt w' (some ⟨b, 0, none⟩) smP) ∧ Below w.heap.size w w' := by
  go_enter Tryd.func10, Tryd.ntmps10
  go_wp2
  go_ret
  refine ⟨⟨_, rfl, ?_⟩, by repeat (first | with_reducible exact Below.refl _ _ | with_reducible refine Below.setCell ?_ (by first | (simp; done) | (simp; omega)) _ | with_reducible refine below_drewN ?_ _ | with_reducible refine Below.alloc ?_ (by first | (simp; done) | (simp; omega)) _ | with_reducible refine Below.drew ?_)⟩
  refine two_pths (b := w.heap.size + 1 + 1 + 1 + 1) (sc1 := 2) (sc2 := 1) ?_ (two_steps (s := sA) (u := sB) (b := w.heap.size + 1 + 1) ?_ (by decide) (by decide)) (one_steps (s := sA) (b := w.heap.size + 1 + 1 + 1) ?_ (by decide))
  all_goals repeat (first | (refine at_newB ?_; simp only [World.size_alloc]; done) | refine At.alloc ?_ _)
end Go.Proofs.YtbabdhepnjacdaaDoor
