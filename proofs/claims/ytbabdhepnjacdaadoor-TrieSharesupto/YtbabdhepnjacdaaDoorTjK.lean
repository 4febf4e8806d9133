/-
  quarrylaw23.begins; quarrykit.Pick; a list of paths that grows.
-/
import Derived.Test.YtbabdhepnjacdaaDoorTjI
namespace Go.Proofs.YtbabdhepnjacdaaDoor
open Go.ChangeShapes Go.WideShapes Go.ChangeAt Go.RowKit Go.Shelf
def pkN (i : Int) (M : Nat) : Nat := if i.tmod (M : Int) < 0 then (i.tmod (M : Int) + M).toNat else (i.tmod (M : Int)).toNat
theorem pkN_lt (i : Int) {M : Nat} (hM : 0 < M) : pkN i M < M := by
  have h0 := Int.tmod_lt_of_pos i (show (0 : Int) < (M : Int) by omega)
  unfold pkN
  split <;> omega
set_option maxRecDepth 10000 in
theorem pick23_calls (i : Int) (M : Nat) (hM : 0 < M) (hM2 : M ≤ 4611686018427387904) (w : World) :
    Calls Tryd.prog 27 #[.int .i64 i, .int .i64 (M : Int)] w fun e w' => e = .returned (.int .i64 ((pkN i M : Nat) : Int)) ∧ w' = w := by
  obtain ⟨P, hP⟩ : ∃ P, Hid (pkN i M = P) := ⟨_, rfl⟩
  rw [hP.out]
  obtain ⟨r, hr⟩ : ∃ r, Hid (i.tmod (M : Int) = r) := ⟨_, rfl⟩
  have hne : ((M : Int) == 0) = false := by simp; omega
  have hr2 : -(M : Int) < r ∧ r < (M : Int) := by
    rw [← hr.out]
    refine ⟨?_, Int.tmod_lt_of_pos i (by omega)⟩
    have h1 := Int.tmod_lt_of_pos (-i) (show (0 : Int) < (M : Int) by omega)
    rw [Int.neg_tmod] at h1
    omega
  have hPr : Hid (P = if r < 0 then (r + M).toNat else r.toNat) := hid (by rw [← hP.out, ← hr.out]; rfl)
  have hrm : i.tmod (M : Int) = r := hr.out
  go_enter Tryd.func27, Tryd.ntmps27
  by_cases h0 : r < 0
  · go_wp2
    go_ret
    refine ⟨?_, rfl⟩
    have := hPr.out
    rw [if_pos h0] at this
    rw [this, show (((r + M).toNat : Nat) : Int) = r + M by omega]
    rfl
  · go_wp2
    go_ret
    refine ⟨?_, rfl⟩
    have := hPr.out
    rw [if_neg (by omega)] at this
    rw [this, show ((r.toNat : Nat) : Int) = r by omega]
    rfl
set_option maxRecDepth 10000 in
set_option maxHeartbeats 8000000 in
theorem begins23_calls (a b : List Stp) (ao bo : Option Addr) (A B cap cap' : Nat) (hA : Hid (a.length = A)) (hB : Hid (b.length = B)) (hAi : A ≤ 1073741824) (hBi : B ≤ 1073741824) (w : World) (ha : Hid (StepsAt w ao a)) (hb : Hid (StepsAt w bo b)) :
    Calls Tryd.prog 26 #[.slice ao A cap, .slice bo B cap'] w fun e w' => (∃ n : Nat, e = .returned (.int .i64 (n : Int)) ∧ IsB a b n) ∧ Below w.heap.size w w' := by
  have hAi' : (A : Int) ≤ 1073741824 := by omega
  have hBi' : (B : Int) ≤ 1073741824 := by omega
  go_enter Tryd.func26, Tryd.ntmps26
  go_wp2
  go_loopw [5] (fun ii wr => ∃ i : Nat, i ≤ A ∧ ii = .int .i64 (i : Int) ∧ Hid (a.take i = b.take i) ∧ Hid (Below w.heap.size w wr)) (fun ii _ => A - (intOf ii).toNat)
  case atStart => exact ⟨0, Nat.zero_le _, rfl, hid (by simp), hid (Below.refl _ _)⟩
  case round =>
    obtain ⟨i, hi, rfl, ht, hbw⟩ := hrel
    have done : ∀ (wz : World), Below w.heap.size w wz → Hid ((i = A ∨ B ≤ i ∨ a[i]? ≠ b[i]?) → (∃ n : Nat, Ending.returned (.int .i64 (i : Int)) = Ending.returned (.int .i64 (n : Int)) ∧ IsB a b n) ∧ Below w.heap.size w wz) := fun wz hz => hid (fun h => ⟨⟨i, rfl, isB_end (by rw [hA.out]; exact hi) ht.out (by rw [hA.out, hB.out]; exact h)⟩, hz⟩)
    have done' := hid done
    clear done
    by_cases hlA : i < A
    · have hli : (i : Int) < (A : Int) := by omega
      have e1 : decide ((i : Int) < (A : Int)) = true := decide_eq_true hli
      have hlt' := hid (show i + 1 ≤ A by omega)
      by_cases hlB : i < B
      · have hlj : (i : Int) < (B : Int) := by omega
        have e2 : decide ((i : Int) < (B : Int)) = true := decide_eq_true hlj
        obtain ⟨s, hs⟩ : ∃ s, Hid (a[i]? = some s) := ⟨_, List.getElem?_eq_getElem (by rw [hA.out]; exact hlA)⟩
        obtain ⟨u, hu⟩ : ∃ s, Hid (b[i]? = some s) := ⟨_, List.getElem?_eq_getElem (by rw [hB.out]; exact hlB)⟩
        obtain ⟨g1, o1, rfl, -, hr1⟩ := steps_at (ha.out.kept hbw.out) hs.out
        obtain ⟨g2, o2, rfl, -, hr2⟩ := steps_at (hb.out.kept hbw.out) hu.out
        obtain ⟨D, hD⟩ : ∃ D : Bool, Hid (decide (s = u) = D) := ⟨_, rfl⟩
        obtain ⟨k, nm, pl⟩ := s
        obtain ⟨k', nm', pl'⟩ := u
        have R1 := hid (show wr.rangeAt g1 (o1 + i * 3) [.int .i64 k, .string nm, .int .i64 pl] from hr1)
        have R2 := hid (show wr.rangeAt g2 (o2 + i * 3) [.int .i64 k', .string nm', .int .i64 pl'] from hr2)
        have eqs : ∀ u, (Op.equalIn 10000 53 (.agg #[.int .i64 k, .string nm, .int .i64 pl]) (.agg #[.int .i64 k', .string nm', .int .i64 pl'])).run Tryd.prog u = .ok D u := fun u => by
          rw [eqStp, ← hD.out, eq_str]
          congr 1
          rw [Bool.eq_iff_iff]
          simp [Stp.mk.injEq]
        clear hr1 hr2 ha hb hA hB
        go_wp2
        refine wp_region_quiet (C := (fun w' => Below wr.heap.size wr w')) (by kernel_rfl) (by kernel_rfl) ((Below.refl _ _).drew) ?_
        dsimp only
        repeat (first
          | go_big_quiet_skip
          | (refine' wpQuiet_take (by rfl) ?_ ?_
             rotate_left
             · (intro wq hq; (try dsimp only at hq); go_simp
                first
                  | done
                  | with_reducible rfl
               )
             simp only [Act.put, List.setIfInBounds_toArray, List.set_cons_zero, List.set_cons_succ])
          | (refine wpQuiet_load 53 _ (g1) (o1 + i * 3) [.int .i64 k, .string nm, .int .i64 pl] _ (fun wq hq => range_kept R1.out hq) Tryd.underlying53 sizeStp rfl rfl rfl (by rfl) ?_; simp only [Act.put, List.setIfInBounds_toArray, List.set_cons_zero, List.set_cons_succ])
          | (refine wpQuiet_load 53 _ (g2) (o2 + i * 3) [.int .i64 k', .string nm', .int .i64 pl'] _ (fun wq hq => range_kept R2.out hq) Tryd.underlying53 sizeStp rfl rfl rfl (by rfl) ?_; simp only [Act.put, List.setIfInBounds_toArray, List.set_cons_zero, List.set_cons_succ]))
        refine wpQuiet_nil ?_
        intro wz hwz
        have hfin := hid (hbw.out.trans (Below.mono hwz hbw.out.size))
        clear hwz eqs
        cases D with
        | true =>
          have htk : Hid (a.take (i + 1) = b.take (i + 1)) := hid (by
            have h1 := of_decide_eq_true hD.out
            rw [List.take_add_one, List.take_add_one, hs.out, hu.out, ht.out, h1])
          clear hD hs hu ht
          go_wp2
          go_roundw
          case rel => exact ⟨i + 1, hlt'.out, by simp, htk, hfin⟩
          case measure => simp [intOf]; have := hlt'.out; omega
        | false =>
          have hne := hid (show i = A ∨ B ≤ i ∨ a[i]? ≠ b[i]? from .inr (.inr (by
            rw [hs.out, hu.out]
            intro h
            exact of_decide_eq_false hD.out (by simpa using h))))
          clear hD hs hu ht
          go_wp2
          go_ret
          exact (done'.out _ hfin.out).out hne.out
      · have e2 : decide ((i : Int) < (B : Int)) = false := decide_eq_false (by omega)
        have hne := hid (show i = A ∨ B ≤ i ∨ a[i]? ≠ b[i]? from .inr (.inl (by omega)))
        clear ha hb hA hB ht
        go_wp2
        refine wp_region_quiet (C := (fun w' => Below wr.heap.size wr w')) (by kernel_rfl) (by kernel_rfl) ((Below.refl _ _).drew) ?_
        dsimp only
        repeat (first
          | go_big_quiet_skip
          | (refine' wpQuiet_take (by rfl) ?_ ?_
             rotate_left
             · (intro wq hq; (try dsimp only at hq); go_simp
                first
                  | done
                  | with_reducible rfl
               )
             simp only [Act.put, List.setIfInBounds_toArray, List.set_cons_zero, List.set_cons_succ]))
        refine wpQuiet_nil ?_
        intro wz hwz
        have hfin := hid (hbw.out.trans (Below.mono hwz hbw.out.size))
        clear hwz
        go_wp2
        go_ret
        exact (done'.out _ hfin.out).out hne.out
    · have e1 : decide ((i : Int) < (A : Int)) = false := decide_eq_false (by omega)
      have hne := hid (show i = A ∨ B ≤ i ∨ a[i]? ≠ b[i]? from .inl (by omega))
      clear ha hb hA hB ht
      go_wp2
      refine wp_region_quiet (C := (fun w' => Below wr.heap.size wr w')) (by kernel_rfl) (by kernel_rfl) ((Below.refl _ _).drew) ?_
      dsimp only
      repeat (first
        | go_big_quiet_skip
        | (refine' wpQuiet_take (by rfl) ?_ ?_
           rotate_left
           · (intro wq hq; (try dsimp only at hq); go_simp
              first
                | done
                | with_reducible rfl
             )
           simp only [Act.put, List.setIfInBounds_toArray, List.set_cons_zero, List.set_cons_succ]))
      refine wpQuiet_nil ?_
      intro wz hwz
      have hfin := hid (hbw.out.trans (Below.mono hwz hbw.out.size))
      clear hwz
      go_wp2
      go_ret
      exact (done'.out _ hfin.out).out hne.out
end Go.Proofs.YtbabdhepnjacdaaDoor
