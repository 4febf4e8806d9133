/-
  What quarryref00.SameLevels answers of rows that are the same.
-/
import Derived.Test.YthhgojdnpkcaaaaDoorLvB
import Derived.Test.YthhgojdnpkcaaaaDoorSameWalk
import Derived.Deep.RegionHeld
namespace Go.Proofs.YthhgojdnpkcaaaaDoor
open Go.RowKit Go.Shelf

theorem cellB {w w' : World} {a : Addr} {v : Value} (h : w.cell? a = some v) (hb : Below w.heap.size w w') : w'.cell? a = some v := (hb.cell (cell_block h)).trans h
/-- The list's rows: m of them, of n bits each. -/
def RdL (W : World) (lo : Option Addr) (m n : Nat) (F : Nat → Nat → Nat) : Prop :=
  ∀ k, k < m → ∃ (G : Nat) (ao : Option Addr) (cap : Nat), lo = some ⟨G, 0, none⟩ ∧ W.cell? ⟨G, k * 2, none⟩ = some (.int .i64 (n : Int)) ∧ W.cell? ⟨G, k * 2 + 1, none⟩ = some (.slice ao (need n) cap) ∧ Wds W ao (need n) (F k)
theorem RdL.kept {W W' : World} {lo : Option Addr} {m n : Nat} {F : Nat → Nat → Nat} (h : RdL W lo m n F) (hb : Below W.heap.size W W') : RdL W' lo m n F := fun k hk => by
  obtain ⟨G, ao, cap, h1, h2, h3, h4⟩ := h k hk
  exact ⟨G, ao, cap, h1, cellB h2 hb, cellB h3 hb, h4.kept hb⟩
theorem LvAt.rd {W : World} {A m n : Nat} {F : Nat → Nat → Nat} (h : LvAt W A m n F) (hF : ∀ k j, F k j < 18446744073709551616) : RdL W (some ⟨A, 0, none⟩) m n F := fun k hk => by
  obtain ⟨c0, c1⟩ := h.cells hk
  exact ⟨A, _, _, rfl, c0, c1, (h.2 k hk).wds (fun j _ => hF k j) (Nat.le_refl _)⟩
theorem RdL.le {W : World} {lo : Option Addr} {m m' n : Nat} {F : Nat → Nat → Nat} (h : RdL W lo m n F) (hm : m' ≤ m) : RdL W lo m' n F := fun k hk => h k (by omega)
theorem RdL.congr {W : World} {lo : Option Addr} {m n : Nat} {F G : Nat → Nat → Nat} (h : RdL W lo m n F) (hG : ∀ k j, G k j = F k j) : RdL W lo m n G := by
  have : G = F := funext fun k => funext fun j => hG k j
  rw [this]; exact h

set_option maxRecDepth 10000 in
set_option maxHeartbeats 4000000 in
theorem sameLv_calls (m n : Nat) (hm : m ≤ 64) (hn : n ≤ 1099511627776) (lo1 lo2 lo3 lo4 : Option Addr) (e1 e2 e3 e4 : Nat) (F G : Nat → Nat → Nat) (w : World) (h1 : RdL w lo1 m n F) (h2 : RdL w lo2 m n G) (h3 : RdL w lo3 m n F) (h4 : RdL w lo4 m n G) :
    Calls Tryd.prog 28 #[.agg #[.slice lo1 m e1, .slice lo2 m e2], .agg #[.slice lo3 m e3, .slice lo4 m e4]] w fun e w' => e = .returned (.bool true) ∧ Below w.heap.size w w' := by
  have hmi : (m : Int) ≤ 64 := by omega
  have hw1 := hid h1
  have hw2 := hid h2
  have hw3 := hid h3
  have hw4 := hid h4
  have hnw : Hid ((Lit.int .i64 (n : Int)).wf = true) := WalkArith.wf_i64 (by omega)
  have hnd : Hid (need n ≤ 17592186044416) := by show _ ≤ _; unfold need; omega
  have en : ((m : Int) != (m : Int)) = false := by simp
  obtain ⟨V, hV⟩ : ∃ V, (w.alloc (.cells #[.slice lo1 m e1, .slice lo2 m e2] 47)).alloc (.cells #[.slice lo3 m e3, .slice lo4 m e4] 47) = V := ⟨_, rfl⟩
  have hbV : Hid (Below w.heap.size w V) := by show Below _ _ _; rw [← hV]; repeat (first | with_reducible exact Below.refl _ _ | with_reducible refine Below.setCell ?_ (by first | (simp; done) | (simp; omega)) _ | with_reducible refine below_drewN ?_ _ | with_reducible refine Below.alloc ?_ (by first | (simp; done) | (simp; omega)) _ | with_reducible refine Below.drew ?_)
  have aV : Hid (At V w.heap.size #[.slice lo1 m e1, .slice lo2 m e2] 47) := by show At _ _ _ _; rw [← hV]; exact (At.new w _ _).alloc _
  have bV : Hid (At V (w.heap.size + 1) #[.slice lo3 m e3, .slice lo4 m e4] 47) := by
    have h := At.new (w.alloc (.cells #[.slice lo1 m e1, .slice lo2 m e2] 47)) #[.slice lo3 m e3, .slice lo4 m e4] 47
    rw [World.size_alloc] at h
    show At _ _ _ _
    rw [← hV]; exact h
  obtain ⟨c0, c1, -, -⟩ := aV.out.factsL
  obtain ⟨d0, d1, -, -⟩ := bV.out.factsL
  clear h1 h2 h3 h4 hn
  go_enter Tryd.func28, Tryd.ntmps28
  go_wp2
  clear c0 c1 d0 d1 hV
  go_loopw [5] (fun ii wr => ∃ k : Nat, k ≤ m ∧ ii = .int .i64 (k : Int) ∧ Hid (Below V.heap.size V wr)) (fun ii _ => m - (intOf ii).toNat)
  case atStart => exact ⟨0, Nat.zero_le _, rfl, Below.refl _ _⟩
  case round =>
    obtain ⟨k, hk, rfl, hb⟩ := hrel
    obtain ⟨c0, c1, -, -⟩ := (aV.out.keptAll hb.out).factsL
    obtain ⟨d0, d1, -, -⟩ := (bV.out.keptAll hb.out).factsL
    by_cases hlt : k < m
    · have hli : (k : Int) < (m : Int) := by omega
      have hbw : Below w.heap.size w wr := hbV.out.trans (hb.out.mono hbV.out.size)
      obtain ⟨G1, ao, cap, rfl, p0, p1, p2⟩ := hw1.out k hlt
      obtain ⟨G3, bo, cap', rfl, r0, r1, r2⟩ := hw3.out k hlt
      have x0 := cellB p0 hbw
      have x1 := cellB p1 hbw
      have y0 := cellB r0 hbw
      have y1 := cellB r1 hbw
      have hsame := hid (fun (u : World) (hu : Below wr.heap.size wr u) => same_calls (n : Int) (n : Int) ao bo (need n) (need n) cap cap' (F k) (F k) true hnw.out hnw.out hnd.out hnd.out ⟨fun _ => rfl, fun _ => ⟨rfl, rfl, fun _ _ => rfl⟩⟩ u ((p2.kept hbw).kept hu) ((r2.kept hbw).kept hu))
      have hheld := hid (show ((wr.drew.cell? ⟨w.heap.size, 0, none⟩ = some (.slice (some ⟨G1, 0, none⟩) m e1) ∧ wr.drew.cell? ⟨w.heap.size + 1, 0, none⟩ = some (.slice (some ⟨G3, 0, none⟩) m e3)) ∧ (wr.drew.cell? ⟨G1, k * 2, none⟩ = some (.int .i64 (n : Int)) ∧ wr.drew.cell? ⟨G1, k * 2 + 1, none⟩ = some (.slice ao (need n) cap))) ∧ (wr.drew.cell? ⟨G3, k * 2, none⟩ = some (.int .i64 (n : Int)) ∧ wr.drew.cell? ⟨G3, k * 2 + 1, none⟩ = some (.slice bo (need n) cap')) from ⟨⟨⟨c0, d0⟩, x0, x1⟩, y0, y1⟩)
      clear p0 p1 p2 r0 r1 r2 x0 x1 y0 y1
      go_wp2
      rename_i K6 hK6
      refine wp_region_held_drew (S := fun w' => ((w'.cell? ⟨w.heap.size, 0, none⟩ = some (.slice (some ⟨G1, 0, none⟩) m e1) ∧ w'.cell? ⟨w.heap.size + 1, 0, none⟩ = some (.slice (some ⟨G3, 0, none⟩) m e3)) ∧ (w'.cell? ⟨G1, k * 2, none⟩ = some (.int .i64 (n : Int)) ∧ w'.cell? ⟨G1, k * 2 + 1, none⟩ = some (.slice ao (need n) cap))) ∧ (w'.cell? ⟨G3, k * 2, none⟩ = some (.int .i64 (n : Int)) ∧ w'.cell? ⟨G3, k * 2 + 1, none⟩ = some (.slice bo (need n) cap'))) (by kernel_rfl) hheld.out (fun hHeld => ?_)
      clear c0 c1 d0 d1
      (refine' wpAnyH_take (i := 0) rfl (by kernel_rfl) (by kernel_rfl) (by kernel_rfl) (fun _ _ _ h => h) (Or.inl ⟨by rfl, ?_⟩) (by assumption) ?_; rotate_left; (· (intro wq hq; (try dsimp only at hq); go_simp; first | done | with_reducible rfl)); simp only [Act.put, List.getElem_toArray, List.getElem_cons_zero, List.setIfInBounds_toArray, List.set_cons_zero, List.set_cons_succ])
      (refine' wpAnyH_take (i := 1) rfl (by kernel_rfl) (by kernel_rfl) (by kernel_rfl) (fun _ _ _ h => h) (Or.inl ⟨by rfl, ?_⟩) (by assumption) ?_; rotate_left; (· (intro wq hq; (try dsimp only at hq); go_simp; first | done | with_reducible rfl)); simp only [Act.put, List.getElem_toArray, List.getElem_cons_zero, List.getElem_cons_succ, List.setIfInBounds_toArray, List.set_cons_zero, List.set_cons_succ])
      (refine' wpAnyH_take (i := 2) rfl (by kernel_rfl) (by kernel_rfl) (by kernel_rfl) (fun _ _ _ h => h) (Or.inl ⟨by rfl, ?_⟩) (by assumption) ?_; rotate_left; (· (intro wq hq; (try dsimp only at hq); go_simp; first | done | with_reducible rfl)); simp only [Act.put, List.getElem_toArray, List.getElem_cons_zero, List.getElem_cons_succ, List.setIfInBounds_toArray, List.set_cons_zero, List.set_cons_succ])
      (refine' wpAnyH_take (i := 3) rfl (by kernel_rfl) (by kernel_rfl) (by kernel_rfl) (fun _ _ _ h => h) (Or.inl ⟨by rfl, ?_⟩) (by assumption) ?_; rotate_left; (· (intro wq hq; (try dsimp only at hq); go_simp; first | done | with_reducible rfl)); simp only [Act.put, List.getElem_toArray, List.getElem_cons_zero, List.getElem_cons_succ, List.setIfInBounds_toArray, List.set_cons_zero, List.set_cons_succ])
      (refine' wpAnyH_take (i := 4) rfl (by kernel_rfl) (by kernel_rfl) (by kernel_rfl) (fun _ _ _ h => h) (Or.inl ⟨by rfl, ?_⟩) (by assumption) ?_; rotate_left; (· (intro wq hq; (try dsimp only at hq); go_simp; first | done | with_reducible rfl)); simp only [Act.put, List.getElem_toArray, List.getElem_cons_zero, List.getElem_cons_succ, List.setIfInBounds_toArray, List.set_cons_zero, List.set_cons_succ])
      (refine' wpAnyH_take (i := 5) rfl (by kernel_rfl) (by kernel_rfl) (by kernel_rfl) (fun _ _ _ h => h) (Or.inl ⟨by rfl, ?_⟩) (by assumption) ?_; rotate_left; (· (intro wq hq; (try dsimp only at hq); go_simp; first | done | with_reducible rfl)); simp only [Act.put, List.getElem_toArray, List.getElem_cons_zero, List.getElem_cons_succ, List.setIfInBounds_toArray, List.set_cons_zero, List.set_cons_succ])
      (refine' wpAnyH_take (i := 6) rfl (by kernel_rfl) (by kernel_rfl) (by kernel_rfl) (fun _ _ _ h => h) (Or.inl ⟨by rfl, ?_⟩) (by assumption) ?_; rotate_left; (· (intro wq hq; (try dsimp only at hq); go_simp; first | done | with_reducible rfl)); simp only [Act.put, List.getElem_toArray, List.getElem_cons_zero, List.getElem_cons_succ, List.setIfInBounds_toArray, List.set_cons_zero, List.set_cons_succ])
      (refine' wpAnyH_take (i := 7) rfl (by kernel_rfl) (by kernel_rfl) (by kernel_rfl) (fun _ _ _ h => h) (Or.inl ⟨by rfl, ?_⟩) (by assumption) ?_; rotate_left; (· (intro wq hq; (try dsimp only at hq); go_simp; first | done | with_reducible rfl)); simp only [Act.put, List.getElem_toArray, List.getElem_cons_zero, List.getElem_cons_succ, List.setIfInBounds_toArray, List.set_cons_zero, List.set_cons_succ])
      (refine' wpAnyH_take (i := 8) rfl (by kernel_rfl) (by kernel_rfl) (by kernel_rfl) (fun _ _ _ h => h) (Or.inl ⟨by rfl, ?_⟩) (by assumption) ?_; rotate_left; (· (intro wq hq; (try dsimp only at hq); go_simp; first | done | with_reducible rfl)); simp only [Act.put, List.getElem_toArray, List.getElem_cons_zero, List.getElem_cons_succ, List.setIfInBounds_toArray, List.set_cons_zero, List.set_cons_succ])
      (refine' wpAnyH_take (i := 9) rfl (by kernel_rfl) (by kernel_rfl) (by kernel_rfl) (fun _ _ _ h => h) (Or.inl ⟨by rfl, ?_⟩) (by assumption) ?_; rotate_left; (· (intro wq hq; (try dsimp only at hq); go_simp; first | done | with_reducible rfl)); simp only [Act.put, List.getElem_toArray, List.getElem_cons_zero, List.getElem_cons_succ, List.setIfInBounds_toArray, List.set_cons_zero, List.set_cons_succ])
      refine wpAnyH_ready (rs := [10]) (by kernel_rfl) (by simp) ?_
      refine AllReadyH.cons rfl (fun K hK => ?_) ?_
      · rw [if_pos (by rfl)]
        go_simp
        refine Calls.mono (hsame.out _ ((Below.refl _ _).drew)) ?_
        rintro e w7 ⟨rfl, q7⟩
        have hb7 : Below wr.heap.size wr w7 := ((Below.refl wr.heap.size wr).drew).trans q7
        have hq := hheld.out
        refine hK.out _ _ ⟨⟨⟨cellB hq.1.1.1 q7, cellB hq.1.1.2 q7⟩, cellB hq.1.2.1 q7, cellB hq.1.2.2 q7⟩, cellB hq.2.1 q7, cellB hq.2.2 q7⟩ (fun _ => ?_)
        clear hK K hq hHeld
        (refine' wpAnyH_take (i := 11) rfl (by kernel_rfl) (by kernel_rfl) (by kernel_rfl) (fun _ _ _ h => h) (Or.inl ⟨by rfl, ?_⟩) (by assumption) ?_; rotate_left; (· (intro wq hq; (try dsimp only at hq); go_simp; first | done | with_reducible rfl)); simp only [Act.put, List.getElem_toArray, List.getElem_cons_zero, List.getElem_cons_succ, List.setIfInBounds_toArray, List.set_cons_zero, List.set_cons_succ])
        refine wpAnyH_done (by kernel_rfl) ?_ _
        refine hK6 _ _ ?_
        have hb8 : Hid (Below V.heap.size V w7) := hb.out.trans (hb7.mono hb.out.size)
        clear hheld hsame q7 hb7
        go_wp2
        go_roundw
        case rel => exact ⟨k + 1, by omega, by go_num, hb8⟩
        case measure => simp [intOf]; omega
      exact AllReadyH.nil
    · have hk' : m = k := by omega
      subst hk'
      go_wp2
      clear c0 c1 d0 d1
      have hbX := hb
      go_loopw [6] (fun ii wr => ∃ k : Nat, k ≤ m ∧ ii = .int .i64 (k : Int) ∧ Hid (Below V.heap.size V wr)) (fun ii _ => m - (intOf ii).toNat)
      case atStart => exact ⟨0, Nat.zero_le _, rfl, hbX⟩
      case round =>
        obtain ⟨k, hk, rfl, hb⟩ := hrel
        obtain ⟨c0, c1, -, -⟩ := (aV.out.keptAll hb.out).factsL
        obtain ⟨d0, d1, -, -⟩ := (bV.out.keptAll hb.out).factsL
        by_cases hlt : k < m
        · have hli : (k : Int) < (m : Int) := by omega
          have hbw : Below w.heap.size w wr := hbV.out.trans (hb.out.mono hbV.out.size)
          obtain ⟨G1, ao, cap, rfl, p0, p1, p2⟩ := hw2.out k hlt
          obtain ⟨G3, bo, cap', rfl, r0, r1, r2⟩ := hw4.out k hlt
          have x0 := cellB p0 hbw
          have x1 := cellB p1 hbw
          have y0 := cellB r0 hbw
          have y1 := cellB r1 hbw
          have hsame := hid (fun (u : World) (hu : Below wr.heap.size wr u) => same_calls (n : Int) (n : Int) ao bo (need n) (need n) cap cap' (G k) (G k) true hnw.out hnw.out hnd.out hnd.out ⟨fun _ => rfl, fun _ => ⟨rfl, rfl, fun _ _ => rfl⟩⟩ u ((p2.kept hbw).kept hu) ((r2.kept hbw).kept hu))
          have hheld := hid (show ((wr.drew.cell? ⟨w.heap.size, 1, none⟩ = some (.slice (some ⟨G1, 0, none⟩) m e2) ∧ wr.drew.cell? ⟨w.heap.size + 1, 1, none⟩ = some (.slice (some ⟨G3, 0, none⟩) m e4)) ∧ (wr.drew.cell? ⟨G1, k * 2, none⟩ = some (.int .i64 (n : Int)) ∧ wr.drew.cell? ⟨G1, k * 2 + 1, none⟩ = some (.slice ao (need n) cap))) ∧ (wr.drew.cell? ⟨G3, k * 2, none⟩ = some (.int .i64 (n : Int)) ∧ wr.drew.cell? ⟨G3, k * 2 + 1, none⟩ = some (.slice bo (need n) cap')) from ⟨⟨⟨c1, d1⟩, x0, x1⟩, y0, y1⟩)
          clear p0 p1 p2 r0 r1 r2 x0 x1 y0 y1
          go_wp2
          rename_i K6 hK6
          refine wp_region_held_drew (S := fun w' => ((w'.cell? ⟨w.heap.size, 1, none⟩ = some (.slice (some ⟨G1, 0, none⟩) m e2) ∧ w'.cell? ⟨w.heap.size + 1, 1, none⟩ = some (.slice (some ⟨G3, 0, none⟩) m e4)) ∧ (w'.cell? ⟨G1, k * 2, none⟩ = some (.int .i64 (n : Int)) ∧ w'.cell? ⟨G1, k * 2 + 1, none⟩ = some (.slice ao (need n) cap))) ∧ (w'.cell? ⟨G3, k * 2, none⟩ = some (.int .i64 (n : Int)) ∧ w'.cell? ⟨G3, k * 2 + 1, none⟩ = some (.slice bo (need n) cap'))) (by kernel_rfl) hheld.out (fun hHeld => ?_)
          clear c0 c1 d0 d1
          (refine' wpAnyH_take (i := 0) rfl (by kernel_rfl) (by kernel_rfl) (by kernel_rfl) (fun _ _ _ h => h) (Or.inl ⟨by rfl, ?_⟩) (by assumption) ?_; rotate_left; (· (intro wq hq; (try dsimp only at hq); go_simp; first | done | with_reducible rfl)); simp only [Act.put, List.getElem_toArray, List.getElem_cons_zero, List.setIfInBounds_toArray, List.set_cons_zero, List.set_cons_succ])
          (refine' wpAnyH_take (i := 1) rfl (by kernel_rfl) (by kernel_rfl) (by kernel_rfl) (fun _ _ _ h => h) (Or.inl ⟨by rfl, ?_⟩) (by assumption) ?_; rotate_left; (· (intro wq hq; (try dsimp only at hq); go_simp; first | done | with_reducible rfl)); simp only [Act.put, List.getElem_toArray, List.getElem_cons_zero, List.getElem_cons_succ, List.setIfInBounds_toArray, List.set_cons_zero, List.set_cons_succ])
          (refine' wpAnyH_take (i := 2) rfl (by kernel_rfl) (by kernel_rfl) (by kernel_rfl) (fun _ _ _ h => h) (Or.inl ⟨by rfl, ?_⟩) (by assumption) ?_; rotate_left; (· (intro wq hq; (try dsimp only at hq); go_simp; first | done | with_reducible rfl)); simp only [Act.put, List.getElem_toArray, List.getElem_cons_zero, List.getElem_cons_succ, List.setIfInBounds_toArray, List.set_cons_zero, List.set_cons_succ])
          (refine' wpAnyH_take (i := 3) rfl (by kernel_rfl) (by kernel_rfl) (by kernel_rfl) (fun _ _ _ h => h) (Or.inl ⟨by rfl, ?_⟩) (by assumption) ?_; rotate_left; (· (intro wq hq; (try dsimp only at hq); go_simp; first | done | with_reducible rfl)); simp only [Act.put, List.getElem_toArray, List.getElem_cons_zero, List.getElem_cons_succ, List.setIfInBounds_toArray, List.set_cons_zero, List.set_cons_succ])
          (refine' wpAnyH_take (i := 4) rfl (by kernel_rfl) (by kernel_rfl) (by kernel_rfl) (fun _ _ _ h => h) (Or.inl ⟨by rfl, ?_⟩) (by assumption) ?_; rotate_left; (· (intro wq hq; (try dsimp only at hq); go_simp; first | done | with_reducible rfl)); simp only [Act.put, List.getElem_toArray, List.getElem_cons_zero, List.getElem_cons_succ, List.setIfInBounds_toArray, List.set_cons_zero, List.set_cons_succ])
          (refine' wpAnyH_take (i := 5) rfl (by kernel_rfl) (by kernel_rfl) (by kernel_rfl) (fun _ _ _ h => h) (Or.inl ⟨by rfl, ?_⟩) (by assumption) ?_; rotate_left; (· (intro wq hq; (try dsimp only at hq); go_simp; first | done | with_reducible rfl)); simp only [Act.put, List.getElem_toArray, List.getElem_cons_zero, List.getElem_cons_succ, List.setIfInBounds_toArray, List.set_cons_zero, List.set_cons_succ])
          (refine' wpAnyH_take (i := 6) rfl (by kernel_rfl) (by kernel_rfl) (by kernel_rfl) (fun _ _ _ h => h) (Or.inl ⟨by rfl, ?_⟩) (by assumption) ?_; rotate_left; (· (intro wq hq; (try dsimp only at hq); go_simp; first | done | with_reducible rfl)); simp only [Act.put, List.getElem_toArray, List.getElem_cons_zero, List.getElem_cons_succ, List.setIfInBounds_toArray, List.set_cons_zero, List.set_cons_succ])
          (refine' wpAnyH_take (i := 7) rfl (by kernel_rfl) (by kernel_rfl) (by kernel_rfl) (fun _ _ _ h => h) (Or.inl ⟨by rfl, ?_⟩) (by assumption) ?_; rotate_left; (· (intro wq hq; (try dsimp only at hq); go_simp; first | done | with_reducible rfl)); simp only [Act.put, List.getElem_toArray, List.getElem_cons_zero, List.getElem_cons_succ, List.setIfInBounds_toArray, List.set_cons_zero, List.set_cons_succ])
          (refine' wpAnyH_take (i := 8) rfl (by kernel_rfl) (by kernel_rfl) (by kernel_rfl) (fun _ _ _ h => h) (Or.inl ⟨by rfl, ?_⟩) (by assumption) ?_; rotate_left; (· (intro wq hq; (try dsimp only at hq); go_simp; first | done | with_reducible rfl)); simp only [Act.put, List.getElem_toArray, List.getElem_cons_zero, List.getElem_cons_succ, List.setIfInBounds_toArray, List.set_cons_zero, List.set_cons_succ])
          (refine' wpAnyH_take (i := 9) rfl (by kernel_rfl) (by kernel_rfl) (by kernel_rfl) (fun _ _ _ h => h) (Or.inl ⟨by rfl, ?_⟩) (by assumption) ?_; rotate_left; (· (intro wq hq; (try dsimp only at hq); go_simp; first | done | with_reducible rfl)); simp only [Act.put, List.getElem_toArray, List.getElem_cons_zero, List.getElem_cons_succ, List.setIfInBounds_toArray, List.set_cons_zero, List.set_cons_succ])
          refine wpAnyH_ready (rs := [10]) (by kernel_rfl) (by simp) ?_
          refine AllReadyH.cons rfl (fun K hK => ?_) ?_
          · rw [if_pos (by rfl)]
            go_simp
            refine Calls.mono (hsame.out _ ((Below.refl _ _).drew)) ?_
            rintro e w7 ⟨rfl, q7⟩
            have hb7 : Below wr.heap.size wr w7 := ((Below.refl wr.heap.size wr).drew).trans q7
            have hq := hheld.out
            refine hK.out _ _ ⟨⟨⟨cellB hq.1.1.1 q7, cellB hq.1.1.2 q7⟩, cellB hq.1.2.1 q7, cellB hq.1.2.2 q7⟩, cellB hq.2.1 q7, cellB hq.2.2 q7⟩ (fun _ => ?_)
            clear hK K hq hHeld
            (refine' wpAnyH_take (i := 11) rfl (by kernel_rfl) (by kernel_rfl) (by kernel_rfl) (fun _ _ _ h => h) (Or.inl ⟨by rfl, ?_⟩) (by assumption) ?_; rotate_left; (· (intro wq hq; (try dsimp only at hq); go_simp; first | done | with_reducible rfl)); simp only [Act.put, List.getElem_toArray, List.getElem_cons_zero, List.getElem_cons_succ, List.setIfInBounds_toArray, List.set_cons_zero, List.set_cons_succ])
            refine wpAnyH_done (by kernel_rfl) ?_ _
            refine hK6 _ _ ?_
            have hb8 : Hid (Below V.heap.size V w7) := hb.out.trans (hb7.mono hb.out.size)
            clear hheld hsame q7 hb7
            go_wp2
            go_roundw
            case rel => exact ⟨k + 1, by omega, by go_num, hb8⟩
            case measure => simp [intOf]; omega
          exact AllReadyH.nil
        · have hk' : m = k := by omega
          subst hk'
          go_wp2
          go_ret
          exact ⟨rfl, hbV.out.trans (hb.out.mono hbV.out.size)⟩
end Go.Proofs.YthhgojdnpkcaaaaDoor
