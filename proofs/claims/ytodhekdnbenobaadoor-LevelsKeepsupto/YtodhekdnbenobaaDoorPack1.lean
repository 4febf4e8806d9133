/-
  Texts of mine that others lean on, one behind the other.
-/
import Derived.Test.YtodhekdnbenobaaDoorLvB
import Derived.Test.YtodhekdnbenobaaDoorSameWalk
import Derived.Deep.RegionHeld
import Derived.Test.YtodhekdnbenobaaDoorLvC
import Derived.Test.YtodhekdnbenobaaDoorSameI
/-
  What quarryref00.SameLevels answers of rows that are the same.
-/
namespace Go.Proofs.YtodhekdnbenobaaDoor
open Go.RowKit Go.Shelf

theorem cellB {w w' : World} {a : Addr} {v : Value} (h : w.cell? a = some v) (hb : Below w.heap.size w w') : w'.cell? a = some v := (hb.cell (cell_block h)).trans h
/-- The list's rows: m of them, of n bits each. -/
def RdL (W : World) (lo : Option Addr) (m n : Nat) (F : Nat → Nat → Nat) : Prop :=
  ∀ k, k < m → ∃ (G : Nat) (ao : Option Addr) (cap : Nat), lo = some ⟨G, 0, none⟩ ∧ W.cell? ⟨G, k * 2, none⟩ = some (.int .i64 (n : Int)) ∧ W.cell? ⟨G, k * 2 + 1, none⟩ = some (.slice ao (need n) cap) ∧ Wds W ao (need n) (F k)
theorem RdL.kept {W W' : World} {lo : Option Addr} {m n : Nat} {F : Nat → Nat → Nat} (h : RdL W lo m n F) (hb : Below W.heap.size W W') : RdL W' lo m n F := fun k hk => by
  obtain ⟨G, ao, cap, h1, h2, h3, h4⟩ := h k hk
  exact ⟨G, ao, cap, h1, cellB h2 hb, cellB h3 hb, h4.kept hb⟩
theorem LvAt.rd {W : World} {A m n : Nat} {F : Nat → Nat → Nat} (h : LvAt W A m n F) (hF : ∀ k j, F k j < 18446744073709551616) : RdL W (some ⟨A, 0, none⟩) m n F := fun k hk => by
  obtain ⟨c0, c1⟩ := h.cells hk
  exact ⟨A, _, _, rfl, c0, c1, (h.2 k hk).wds (fun j _ => hF k j) (Nat.le_refl _)⟩
theorem RdL.le {W : World} {lo : Option Addr} {m m' n : Nat} {F : Nat → Nat → Nat} (h : RdL W lo m n F) (hm : m' ≤ m) : RdL W lo m' n F := fun k hk => h k (by omega)
theorem RdL.congr {W : World} {lo : Option Addr} {m n : Nat} {F G : Nat → Nat → Nat} (h : RdL W lo m n F) (hG : ∀ k j, G k j = F k j) : RdL W lo m n G := by
  have : G = F := funext fun k => funext fun j => hG k j
  rw [this]; exact h

set_option maxRecDepth 10000 in
set_option maxHeartbeats 4000000 in
theorem sameLv_calls (m n : Nat) (hm : m ≤ 64) (hn : n ≤ 1099511627776) (lo1 lo2 lo3 lo4 : Option Addr) (e1 e2 e3 e4 : Nat) (F G : Nat → Nat → Nat) (w : World) (h1 : RdL w lo1 m n F) (h2 : RdL w lo2 m n G) (h3 : RdL w lo3 m n F) (h4 : RdL w lo4 m n G) :
    Calls Tryd.prog 12 #[.agg #[.slice lo1 m e1, .slice lo2 m e2], .agg #[.slice lo3 m e3, .slice lo4 m e4]] w fun e w' => e = .returned (.bool true) ∧ Below w.heap.size w w' := by
  have hmi : (m : Int) ≤ 64 := by omega
  have hw1 := hid h1
  have hw2 := hid h2
  have hw3 := hid h3
  have hw4 := hid h4
  have hnw : Hid ((Lit.int .i64 (n : Int)).wf = true) := WalkArith.wf_i64 (by omega)
  have hnd : Hid (need n ≤ 17592186044416) := by show _ ≤ _; unfold need; omega
  have en : ((m : Int) != (m : Int)) = false := by simp
  obtain ⟨V, hV⟩ : ∃ V, (w.alloc (.cells #[.slice lo1 m e1, .slice lo2 m e2] 34)).alloc (.cells #[.slice lo3 m e3, .slice lo4 m e4] 34) = V := ⟨_, rfl⟩
  have hbV : Hid (Below w.heap.size w V) := by show Below _ _ _; rw [← hV]; repeat (first | with_reducible exact Below.refl _ _ | with_reducible refine Below.setCell ?_ (by first | (simp; done) | (simp; omega)) _ | with_reducible refine below_drewN ?_ _ | with_reducible refine Below.alloc ?_ (by first | (simp; done) | (simp; omega)) _ | with_reducible refine Below.drew ?_)
  have aV : Hid (At V w.heap.size #[.slice lo1 m e1, .slice lo2 m e2] 34) := by show At _ _ _ _; rw [← hV]; exact (At.new w _ _).alloc _
  have bV : Hid (At V (w.heap.size + 1) #[.slice lo3 m e3, .slice lo4 m e4] 34) := by
    have h := At.new (w.alloc (.cells #[.slice lo1 m e1, .slice lo2 m e2] 34)) #[.slice lo3 m e3, .slice lo4 m e4] 34
    rw [World.size_alloc] at h
    show At _ _ _ _
    rw [← hV]; exact h
  obtain ⟨c0, c1, -, -⟩ := aV.out.factsL
  obtain ⟨d0, d1, -, -⟩ := bV.out.factsL
  clear h1 h2 h3 h4 hn
  go_enter Tryd.func12, Tryd.ntmps12
  go_wp2
  clear c0 c1 d0 d1 hV
  go_loopw [5] (fun ii wr => ∃ k : Nat, k ≤ m ∧ ii = .int .i64 (k : Int) ∧ Hid (Below V.heap.size V wr)) (fun ii _ => m - (intOf ii).toNat)
  case atStart => exact ⟨0, Nat.zero_le _, rfl, Below.refl _ _⟩
  case round =>
    obtain ⟨k, hk, rfl, hb⟩ := hrel
    obtain ⟨c0, c1, -, -⟩ := (aV.out.keptAll hb.out).factsL
    obtain ⟨d0, d1, -, -⟩ := (bV.out.keptAll hb.out).factsL
    by_cases hlt : k < m
    · have hli : (k : Int) < (m : Int) := by omega
      have hbw : Below w.heap.size w wr := hbV.out.trans (hb.out.mono hbV.out.size)
      obtain ⟨G1, ao, cap, rfl, p0, p1, p2⟩ := hw1.out k hlt
      obtain ⟨G3, bo, cap', rfl, r0, r1, r2⟩ := hw3.out k hlt
      have x0 := cellB p0 hbw
      have x1 := cellB p1 hbw
      have y0 := cellB r0 hbw
      have y1 := cellB r1 hbw
      have hsame := hid (fun (u : World) (hu : Below wr.heap.size wr u) => same_calls (n : Int) (n : Int) ao bo (need n) (need n) cap cap' (F k) (F k) true hnw.out hnw.out hnd.out hnd.out ⟨fun _ => rfl, fun _ => ⟨rfl, rfl, fun _ _ => rfl⟩⟩ u ((p2.kept hbw).kept hu) ((r2.kept hbw).kept hu))
      have hheld := hid (show ((wr.drew.cell? ⟨w.heap.size, 0, none⟩ = some (.slice (some ⟨G1, 0, none⟩) m e1) ∧ wr.drew.cell? ⟨w.heap.size + 1, 0, none⟩ = some (.slice (some ⟨G3, 0, none⟩) m e3)) ∧ (wr.drew.cell? ⟨G1, k * 2, none⟩ = some (.int .i64 (n : Int)) ∧ wr.drew.cell? ⟨G1, k * 2 + 1, none⟩ = some (.slice ao (need n) cap))) ∧ (wr.drew.cell? ⟨G3, k * 2, none⟩ = some (.int .i64 (n : Int)) ∧ wr.drew.cell? ⟨G3, k * 2 + 1, none⟩ = some (.slice bo (need n) cap')) from ⟨⟨⟨c0, d0⟩, x0, x1⟩, y0, y1⟩)
      clear p0 p1 p2 r0 r1 r2 x0 x1 y0 y1
      go_wp2
      rename_i K6 hK6
      refine wp_region_held_drew (S := fun w' => ((w'.cell? ⟨w.heap.size, 0, none⟩ = some (.slice (some ⟨G1, 0, none⟩) m e1) ∧ w'.cell? ⟨w.heap.size + 1, 0, none⟩ = some (.slice (some ⟨G3, 0, none⟩) m e3)) ∧ (w'.cell? ⟨G1, k * 2, none⟩ = some (.int .i64 (n : Int)) ∧ w'.cell? ⟨G1, k * 2 + 1, none⟩ = some (.slice ao (need n) cap))) ∧ (w'.cell? ⟨G3, k * 2, none⟩ = some (.int .i64 (n : Int)) ∧ w'.cell? ⟨G3, k * 2 + 1, none⟩ = some (.slice bo (need n) cap'))) (by kernel_rfl) hheld.out (fun hHeld => ?_)
      clear c0 c1 d0 d1
      (refine' wpAnyH_take (i := 0) rfl (by kernel_rfl) (by kernel_rfl) (by kernel_rfl) (fun _ _ _ h => h) (Or.inl ⟨by rfl, ?_⟩) (by assumption) ?_; rotate_left; (· (intro wq hq; (try dsimp only at hq); go_simp; first | done | with_reducible rfl)); simp only [Act.put, List.getElem_toArray, List.getElem_cons_zero, List.setIfInBounds_toArray, List.set_cons_zero, List.set_cons_succ])
      (refine' wpAnyH_take (i := 1) rfl (by kernel_rfl) (by kernel_rfl) (by kernel_rfl) (fun _ _ _ h => h) (Or.inl ⟨by rfl, ?_⟩) (by assumption) ?_; rotate_left; (· (intro wq hq; (try dsimp only at hq); go_simp; first | done | with_reducible rfl)); simp only [Act.put, List.getElem_toArray, List.getElem_cons_zero, List.getElem_cons_succ, List.setIfInBounds_toArray, List.set_cons_zero, List.set_cons_succ])
      (refine' wpAnyH_take (i := 2) rfl (by kernel_rfl) (by kernel_rfl) (by kernel_rfl) (fun _ _ _ h => h) (Or.inl ⟨by rfl, ?_⟩) (by assumption) ?_; rotate_left; (· (intro wq hq; (try dsimp only at hq); go_simp; first | done | with_reducible rfl)); simp only [Act.put, List.getElem_toArray, List.getElem_cons_zero, List.getElem_cons_succ, List.setIfInBounds_toArray, List.set_cons_zero, List.set_cons_succ])
      (refine' wpAnyH_take (i := 3) rfl (by kernel_rfl) (by kernel_rfl) (by kernel_rfl) (fun _ _ _ h => h) (Or.inl ⟨by rfl, ?_⟩) (by assumption) ?_; rotate_left; (· (intro wq hq; (try dsimp only at hq); go_simp; first | done | with_reducible rfl)); simp only [Act.put, List.getElem_toArray, List.getElem_cons_zero, List.getElem_cons_succ, List.setIfInBounds_toArray, List.set_cons_zero, List.set_cons_succ])
      (refine' wpAnyH_take (i := 4) rfl (by kernel_rfl) (by kernel_rfl) (by kernel_rfl) (fun _ _ _ h => h) (Or.inl ⟨by rfl, ?_⟩) (by assumption) ?_; rotate_left; (· (intro wq hq; (try dsimp only at hq); go_simp; first | done | with_reducible rfl)); simp only [Act.put, List.getElem_toArray, List.getElem_cons_zero, List.getElem_cons_succ, List.setIfInBounds_toArray, List.set_cons_zero, List.set_cons_succ])
      (refine' wpAnyH_take (i := 5) rfl (by kernel_rfl) (by kernel_rfl) (by kernel_rfl) (fun _ _ _ h => h) (Or.inl ⟨by rfl, ?_⟩) (by assumption) ?_; rotate_left; (· (intro wq hq; (try dsimp only at hq); go_simp; first | done | with_reducible rfl)); simp only [Act.put, List.getElem_toArray, List.getElem_cons_zero, List.getElem_cons_succ, List.setIfInBounds_toArray, List.set_cons_zero, List.set_cons_succ])
      (refine' wpAnyH_take (i := 6) rfl (by kernel_rfl) (by kernel_rfl) (by kernel_rfl) (fun _ _ _ h => h) (Or.inl ⟨by rfl, ?_⟩) (by assumption) ?_; rotate_left; (· (intro wq hq; (try dsimp only at hq); go_simp; first | done | with_reducible rfl)); simp only [Act.put, List.getElem_toArray, List.getElem_cons_zero, List.getElem_cons_succ, List.setIfInBounds_toArray, List.set_cons_zero, List.set_cons_succ])
      (refine' wpAnyH_take (i := 7) rfl (by kernel_rfl) (by kernel_rfl) (by kernel_rfl) (fun _ _ _ h => h) (Or.inl ⟨by rfl, ?_⟩) (by assumption) ?_; rotate_left; (· (intro wq hq; (try dsimp only at hq); go_simp; first | done | with_reducible rfl)); simp only [Act.put, List.getElem_toArray, List.getElem_cons_zero, List.getElem_cons_succ, List.setIfInBounds_toArray, List.set_cons_zero, List.set_cons_succ])
      (refine' wpAnyH_take (i := 8) rfl (by kernel_rfl) (by kernel_rfl) (by kernel_rfl) (fun _ _ _ h => h) (Or.inl ⟨by rfl, ?_⟩) (by assumption) ?_; rotate_left; (· (intro wq hq; (try dsimp only at hq); go_simp; first | done | with_reducible rfl)); simp only [Act.put, List.getElem_toArray, List.getElem_cons_zero, List.getElem_cons_succ, List.setIfInBounds_toArray, List.set_cons_zero, List.set_cons_succ])
      (refine' wpAnyH_take (i := 9) rfl (by kernel_rfl) (by kernel_rfl) (by kernel_rfl) (fun _ _ _ h => h) (Or.inl ⟨by rfl, ?_⟩) (by assumption) ?_; rotate_left; (· (intro wq hq; (try dsimp only at hq); go_simp; first | done | with_reducible rfl)); simp only [Act.put, List.getElem_toArray, List.getElem_cons_zero, List.getElem_cons_succ, List.setIfInBounds_toArray, List.set_cons_zero, List.set_cons_succ])
      refine wpAnyH_ready (rs := [10]) (by kernel_rfl) (by simp) ?_
      refine AllReadyH.cons rfl (fun K hK => ?_) ?_
      · rw [if_pos (by rfl)]
        go_simp
        refine Calls.mono (hsame.out _ ((Below.refl _ _).drew)) ?_
        rintro e w7 ⟨rfl, q7⟩
        have hb7 : Below wr.heap.size wr w7 := ((Below.refl wr.heap.size wr).drew).trans q7
        have hq := hheld.out
        refine hK.out _ _ ⟨⟨⟨cellB hq.1.1.1 q7, cellB hq.1.1.2 q7⟩, cellB hq.1.2.1 q7, cellB hq.1.2.2 q7⟩, cellB hq.2.1 q7, cellB hq.2.2 q7⟩ (fun _ => ?_)
        clear hK K hq hHeld
        (refine' wpAnyH_take (i := 11) rfl (by kernel_rfl) (by kernel_rfl) (by kernel_rfl) (fun _ _ _ h => h) (Or.inl ⟨by rfl, ?_⟩) (by assumption) ?_; rotate_left; (· (intro wq hq; (try dsimp only at hq); go_simp; first | done | with_reducible rfl)); simp only [Act.put, List.getElem_toArray, List.getElem_cons_zero, List.getElem_cons_succ, List.setIfInBounds_toArray, List.set_cons_zero, List.set_cons_succ])
        refine wpAnyH_done (by kernel_rfl) ?_ _
        refine hK6 _ _ ?_
        have hb8 : Hid (Below V.heap.size V w7) := hb.out.trans (hb7.mono hb.out.size)
        clear hheld hsame q7 hb7
        go_wp2
        go_roundw
        case rel => exact ⟨k + 1, by omega, by go_num, hb8⟩
        case measure => simp [intOf]; omega
      exact AllReadyH.nil
    · have hk' : m = k := by omega
      subst hk'
      go_wp2
      clear c0 c1 d0 d1
      have hbX := hb
      go_loopw [6] (fun ii wr => ∃ k : Nat, k ≤ m ∧ ii = .int .i64 (k : Int) ∧ Hid (Below V.heap.size V wr)) (fun ii _ => m - (intOf ii).toNat)
      case atStart => exact ⟨0, Nat.zero_le _, rfl, hbX⟩
      case round =>
        obtain ⟨k, hk, rfl, hb⟩ := hrel
        obtain ⟨c0, c1, -, -⟩ := (aV.out.keptAll hb.out).factsL
        obtain ⟨d0, d1, -, -⟩ := (bV.out.keptAll hb.out).factsL
        by_cases hlt : k < m
        · have hli : (k : Int) < (m : Int) := by omega
          have hbw : Below w.heap.size w wr := hbV.out.trans (hb.out.mono hbV.out.size)
          obtain ⟨G1, ao, cap, rfl, p0, p1, p2⟩ := hw2.out k hlt
          obtain ⟨G3, bo, cap', rfl, r0, r1, r2⟩ := hw4.out k hlt
          have x0 := cellB p0 hbw
          have x1 := cellB p1 hbw
          have y0 := cellB r0 hbw
          have y1 := cellB r1 hbw
          have hsame := hid (fun (u : World) (hu : Below wr.heap.size wr u) => same_calls (n : Int) (n : Int) ao bo (need n) (need n) cap cap' (G k) (G k) true hnw.out hnw.out hnd.out hnd.out ⟨fun _ => rfl, fun _ => ⟨rfl, rfl, fun _ _ => rfl⟩⟩ u ((p2.kept hbw).kept hu) ((r2.kept hbw).kept hu))
          have hheld := hid (show ((wr.drew.cell? ⟨w.heap.size, 1, none⟩ = some (.slice (some ⟨G1, 0, none⟩) m e2) ∧ wr.drew.cell? ⟨w.heap.size + 1, 1, none⟩ = some (.slice (some ⟨G3, 0, none⟩) m e4)) ∧ (wr.drew.cell? ⟨G1, k * 2, none⟩ = some (.int .i64 (n : Int)) ∧ wr.drew.cell? ⟨G1, k * 2 + 1, none⟩ = some (.slice ao (need n) cap))) ∧ (wr.drew.cell? ⟨G3, k * 2, none⟩ = some (.int .i64 (n : Int)) ∧ wr.drew.cell? ⟨G3, k * 2 + 1, none⟩ = some (.slice bo (need n) cap')) from ⟨⟨⟨c1, d1⟩, x0, x1⟩, y0, y1⟩)
          clear p0 p1 p2 r0 r1 r2 x0 x1 y0 y1
          go_wp2
          rename_i K6 hK6
          refine wp_region_held_drew (S := fun w' => ((w'.cell? ⟨w.heap.size, 1, none⟩ = some (.slice (some ⟨G1, 0, none⟩) m e2) ∧ w'.cell? ⟨w.heap.size + 1, 1, none⟩ = some (.slice (some ⟨G3, 0, none⟩) m e4)) ∧ (w'.cell? ⟨G1, k * 2, none⟩ = some (.int .i64 (n : Int)) ∧ w'.cell? ⟨G1, k * 2 + 1, none⟩ = some (.slice ao (need n) cap))) ∧ (w'.cell? ⟨G3, k * 2, none⟩ = some (.int .i64 (n : Int)) ∧ w'.cell? ⟨G3, k * 2 + 1, none⟩ = some (.slice bo (need n) cap'))) (by kernel_rfl) hheld.out (fun hHeld => ?_)
          clear c0 c1 d0 d1
          (refine' wpAnyH_take (i := 0) rfl (by kernel_rfl) (by kernel_rfl) (by kernel_rfl) (fun _ _ _ h => h) (Or.inl ⟨by rfl, ?_⟩) (by assumption) ?_; rotate_left; (· (intro wq hq; (try dsimp only at hq); go_simp; first | done | with_reducible rfl)); simp only [Act.put, List.getElem_toArray, List.getElem_cons_zero, List.setIfInBounds_toArray, List.set_cons_zero, List.set_cons_succ])
          (refine' wpAnyH_take (i := 1) rfl (by kernel_rfl) (by kernel_rfl) (by kernel_rfl) (fun _ _ _ h => h) (Or.inl ⟨by rfl, ?_⟩) (by assumption) ?_; rotate_left; (· (intro wq hq; (try dsimp only at hq); go_simp; first | done | with_reducible rfl)); simp only [Act.put, List.getElem_toArray, List.getElem_cons_zero, List.getElem_cons_succ, List.setIfInBounds_toArray, List.set_cons_zero, List.set_cons_succ])
          (refine' wpAnyH_take (i := 2) rfl (by kernel_rfl) (by kernel_rfl) (by kernel_rfl) (fun _ _ _ h => h) (Or.inl ⟨by rfl, ?_⟩) (by assumption) ?_; rotate_left; (· (intro wq hq; (try dsimp only at hq); go_simp; first | done | with_reducible rfl)); simp only [Act.put, List.getElem_toArray, List.getElem_cons_zero, List.getElem_cons_succ, List.setIfInBounds_toArray, List.set_cons_zero, List.set_cons_succ])
          (refine' wpAnyH_take (i := 3) rfl (by kernel_rfl) (by kernel_rfl) (by kernel_rfl) (fun _ _ _ h => h) (Or.inl ⟨by rfl, ?_⟩) (by assumption) ?_; rotate_left; (· (intro wq hq; (try dsimp only at hq); go_simp; first | done | with_reducible rfl)); simp only [Act.put, List.getElem_toArray, List.getElem_cons_zero, List.getElem_cons_succ, List.setIfInBounds_toArray, List.set_cons_zero, List.set_cons_succ])
          (refine' wpAnyH_take (i := 4) rfl (by kernel_rfl) (by kernel_rfl) (by kernel_rfl) (fun _ _ _ h => h) (Or.inl ⟨by rfl, ?_⟩) (by assumption) ?_; rotate_left; (· (intro wq hq; (try dsimp only at hq); go_simp; first | done | with_reducible rfl)); simp only [Act.put, List.getElem_toArray, List.getElem_cons_zero, List.getElem_cons_succ, List.setIfInBounds_toArray, List.set_cons_zero, List.set_cons_succ])
          (refine' wpAnyH_take (i := 5) rfl (by kernel_rfl) (by kernel_rfl) (by kernel_rfl) (fun _ _ _ h => h) (Or.inl ⟨by rfl, ?_⟩) (by assumption) ?_; rotate_left; (· (intro wq hq; (try dsimp only at hq); go_simp; first | done | with_reducible rfl)); simp only [Act.put, List.getElem_toArray, List.getElem_cons_zero, List.getElem_cons_succ, List.setIfInBounds_toArray, List.set_cons_zero, List.set_cons_succ])
          (refine' wpAnyH_take (i := 6) rfl (by kernel_rfl) (by kernel_rfl) (by kernel_rfl) (fun _ _ _ h => h) (Or.inl ⟨by rfl, ?_⟩) (by assumption) ?_; rotate_left; (· (intro wq hq; (try dsimp only at hq); go_simp; first | done | with_reducible rfl)); simp only [Act.put, List.getElem_toArray, List.getElem_cons_zero, List.getElem_cons_succ, List.setIfInBounds_toArray, List.set_cons_zero, List.set_cons_succ])
          (refine' wpAnyH_take (i := 7) rfl (by kernel_rfl) (by kernel_rfl) (by kernel_rfl) (fun _ _ _ h => h) (Or.inl ⟨by rfl, ?_⟩) (by assumption) ?_; rotate_left; (· (intro wq hq; (try dsimp only at hq); go_simp; first | done | with_reducible rfl)); simp only [Act.put, List.getElem_toArray, List.getElem_cons_zero, List.getElem_cons_succ, List.setIfInBounds_toArray, List.set_cons_zero, List.set_cons_succ])
          (refine' wpAnyH_take (i := 8) rfl (by kernel_rfl) (by kernel_rfl) (by kernel_rfl) (fun _ _ _ h => h) (Or.inl ⟨by rfl, ?_⟩) (by assumption) ?_; rotate_left; (· (intro wq hq; (try dsimp only at hq); go_simp; first | done | with_reducible rfl)); simp only [Act.put, List.getElem_toArray, List.getElem_cons_zero, List.getElem_cons_succ, List.setIfInBounds_toArray, List.set_cons_zero, List.set_cons_succ])
          (refine' wpAnyH_take (i := 9) rfl (by kernel_rfl) (by kernel_rfl) (by kernel_rfl) (fun _ _ _ h => h) (Or.inl ⟨by rfl, ?_⟩) (by assumption) ?_; rotate_left; (· (intro wq hq; (try dsimp only at hq); go_simp; first | done | with_reducible rfl)); simp only [Act.put, List.getElem_toArray, List.getElem_cons_zero, List.getElem_cons_succ, List.setIfInBounds_toArray, List.set_cons_zero, List.set_cons_succ])
          refine wpAnyH_ready (rs := [10]) (by kernel_rfl) (by simp) ?_
          refine AllReadyH.cons rfl (fun K hK => ?_) ?_
          · rw [if_pos (by rfl)]
            go_simp
            refine Calls.mono (hsame.out _ ((Below.refl _ _).drew)) ?_
            rintro e w7 ⟨rfl, q7⟩
            have hb7 : Below wr.heap.size wr w7 := ((Below.refl wr.heap.size wr).drew).trans q7
            have hq := hheld.out
            refine hK.out _ _ ⟨⟨⟨cellB hq.1.1.1 q7, cellB hq.1.1.2 q7⟩, cellB hq.1.2.1 q7, cellB hq.1.2.2 q7⟩, cellB hq.2.1 q7, cellB hq.2.2 q7⟩ (fun _ => ?_)
            clear hK K hq hHeld
            (refine' wpAnyH_take (i := 11) rfl (by kernel_rfl) (by kernel_rfl) (by kernel_rfl) (fun _ _ _ h => h) (Or.inl ⟨by rfl, ?_⟩) (by assumption) ?_; rotate_left; (· (intro wq hq; (try dsimp only at hq); go_simp; first | done | with_reducible rfl)); simp only [Act.put, List.getElem_toArray, List.getElem_cons_zero, List.getElem_cons_succ, List.setIfInBounds_toArray, List.set_cons_zero, List.set_cons_succ])
            refine wpAnyH_done (by kernel_rfl) ?_ _
            refine hK6 _ _ ?_
            have hb8 : Hid (Below V.heap.size V w7) := hb.out.trans (hb7.mono hb.out.size)
            clear hheld hsame q7 hb7
            go_wp2
            go_roundw
            case rel => exact ⟨k + 1, by omega, by go_num, hb8⟩
            case measure => simp [intOf]; omega
          exact AllReadyH.nil
        · have hk' : m = k := by omega
          subst hk'
          go_wp2
          go_ret
          exact ⟨rfl, hbV.out.trans (hb.out.mono hbV.out.size)⟩
end Go.Proofs.YtodhekdnbenobaaDoor

/-
  What quarrylaw10.awake answers.
-/
namespace Go.Proofs.YtodhekdnbenobaaDoor
open Go.RowKit Go.Shelf

def aw10 : ByteArray := ⟨#[123, 34, 97, 34, 58, 91, 49, 44, 50, 93, 44, 34, 98, 58, 34, 58, 51, 125]⟩
theorem aw10_depth : depN aw10 6 = 2 := by decide +kernel
theorem aw10_close5 : IsCls aw10 5 9 := .inl ⟨5, rfl, by decide +kernel, .inl ⟨9, rfl, by decide +kernel, by decide +kernel, fun q hq => (show ∀ i : Fin 9, clsP aw10 5 i.val = false by decide +kernel) ⟨q, hq⟩⟩⟩
theorem aw10_close0 : IsCls aw10 0 17 := .inl ⟨0, rfl, by decide +kernel, .inl ⟨17, rfl, by decide +kernel, by decide +kernel, fun q hq => (show ∀ i : Fin 17, clsP aw10 0 i.val = false by decide +kernel) ⟨q, hq⟩⟩⟩
theorem aw10_colons : fl (fun i => lvS 58 aw10 1 i && (decide ((0 : Int) ≤ (i : Int)) && decide ((i : Int) < 99))) 18 = [4, 15] := by decide +kernel
theorem aw10_commas : fl (fun i => lvS 44 aw10 2 i && (decide ((0 : Int) ≤ (i : Int)) && decide ((i : Int) < 99))) 18 = [7] := by decide +kernel
theorem new_at (w : World) (L : List Nat) (t : TypeId) : IntsAt (w.alloc (.cells (ints L).toArray t)) (some ⟨w.heap.size, 0, none⟩) L := fun j p hj => by
  refine ⟨w.heap.size, rfl, by simp, ?_⟩
  rw [(At.new w _ _).cell j]
  simp [ints, hj]

set_option maxRecDepth 10000 in
set_option maxHeartbeats 4000000 in
theorem awake10_calls (w : World) (hT : Tab w) (hM : TabM w) (h0 : 1 < w.heap.size) :
    Calls Tryd.prog 9 #[] w fun e w' => e = .returned (.bool true) ∧ Below w.heap.size w w' := by
  have hBu := hid (build_calls aw10 (by decide) 2 (by decide) (by decide) w hT hM h0)
  have hDe := hid (fun (w1 : World) (hb : Below w.heap.size w w1) => depth_calls aw10 (by decide) 6 2 aw10_depth w1 (hT.below hb (by omega)) (hM.below hb h0) (by have := hb.size; omega))
  have hC5 := hid (fun (w1 : World) (hb : Below w.heap.size w w1) => close_calls aw10 (by decide) 5 (by decide) w1 (hT.below hb (by omega)) (hM.below hb h0) (by have := hb.size; omega))
  have hC0 := hid (fun (w1 : World) (hb : Below w.heap.size w w1) => close_calls aw10 (by decide) 0 (by decide) w1 (hT.below hb (by omega)) (hM.below hb h0) (by have := hb.size; omega))
  have hT' := hid hT
  have h0' := hid h0
  clear hT hM h0
  go_enter Tryd.func9, Tryd.ntmps9
  go_wp2_with fail
  refine Calls.mono hBu.out ?_
  rintro e w1 ⟨A, B, rfl, hL⟩
  obtain ⟨hA0, hAB, hA, hB, hb1⟩ := hL
  obtain ⟨V, hV⟩ : ∃ V, w1.alloc (.cells #[.slice (some ⟨A, 0, none⟩) 2 2, .slice (some ⟨B, 0, none⟩) 2 2] 34) = V := ⟨_, rfl⟩
  have aV : At V w1.heap.size #[.slice (some ⟨A, 0, none⟩) 2 2, .slice (some ⟨B, 0, none⟩) 2 2] 34 := by rw [← hV]; exact At.new w1 _ _
  have bV : Below w1.heap.size w1 V := by rw [← hV]; repeat (first | with_reducible exact Below.refl _ _ | with_reducible refine Below.setCell ?_ (by first | (simp; done) | (simp; omega)) _ | with_reducible refine below_drewN ?_ _ | with_reducible refine Below.alloc ?_ (by first | (simp; done) | (simp; omega)) _ | with_reducible refine Below.drew ?_)
  have hbV := hid (hb1.trans (bV.mono hb1.size))
  have hAV := hid (hA.kept bV)
  have hBV := hid (hB.kept bV)
  obtain ⟨b, hb⟩ : ∃ b, w1.heap.size = b := ⟨_, rfl⟩
  rw [hb] at aV
  have aV' := hid aV
  obtain ⟨c0, c1, -, -⟩ := aV.factsL
  clear hA hB hb1 bV aV hA0 hAB hBu
  go_wp2_with fail
  clear hV hb c0 c1
  refine Calls.mono (hDe.out _ hbV.out) ?_
  rintro e w2 ⟨rfl, q2⟩
  have hb2 := hid (hbV.out.trans (q2.mono hbV.out.size))
  have hA2 := hid (hAV.out.kept q2)
  have hB2 := hid (hBV.out.kept q2)
  have a2 := hid (aV'.out.keptAll q2)
  clear q2 hbV hAV hBV aV' hDe
  go_wp2_with fail
  refine Calls.mono (hC5.out _ hb2.out) ?_
  rintro e w3 ⟨c, rfl, hc, q3⟩
  obtain rfl := hc.uniq aw10_close5
  have hb3 := hid (hb2.out.trans (q3.mono hb2.out.size))
  have hA3 := hid (hA2.out.kept q3)
  have hB3 := hid (hB2.out.kept q3)
  have a3 := hid (a2.out.keptAll q3)
  clear q3 hb2 hA2 hB2 a2 hC5 hc
  go_wp2_with fail
  refine Calls.mono (hC0.out _ hb3.out) ?_
  rintro e w4 ⟨c, rfl, hc, q4⟩
  obtain rfl := hc.uniq aw10_close0
  have hb4 := hid (hb3.out.trans (q4.mono hb3.out.size))
  have hA4 := hid (hA3.out.kept q4)
  have hB4 := hid (hB3.out.kept q4)
  have a4 := hid (a3.out.keptAll q4)
  clear q4 hb3 hA3 hB3 a3 hC0 hc
  obtain ⟨c0, c1, -, -⟩ := a4.out.factsL
  have hcol := hid (colons_of (.slice (some ⟨A, 0, none⟩) 2 2) (.slice (some ⟨B, 0, none⟩) 2 2) 1 0 99 w4 (PlaW w4 [4, 15]) (fun W hW => by
    have h := within_lv A 2 18 _ (fun k => lvS 58 aw10 (k + 1)) 0 0 99 (by decide) (by decide) (by decide) (by decide) (by decide) (fun _ _ => rfl) w4 (hT'.out.below hb4.out (by have := h0'.out; omega)) (by have := h0'.out; have := hb4.out.size; omega) hA4.out W hW
    rw [aw10_colons] at h
    exact h))
  go_wp2_with fail
  refine Calls.mono hcol.out ?_
  rintro e w5 ⟨v5, rfl, hr5, q5⟩
  obtain ⟨ao5, cap5, rfl, hi5⟩ := ints_row hr5
  have hb5 := hid (hb4.out.trans (q5.mono hb4.out.size))
  have hB5 := hid (hB4.out.kept q5)
  have a5 := hid (a4.out.keptAll q5)
  have hi5' := hid hi5
  clear q5 hA4 hB4 a4 c0 c1 hcol hi5 hr5
  go_wp2_with fail
  refine Calls.mono (sameI_calls [4, 15] 2 rfl (by decide) ao5 _ cap5 2 _ (hi5'.out.kept (Nat.le_refl _) (by repeat (first | with_reducible exact Below.refl _ _ | with_reducible refine Below.setCell ?_ (by first | (simp; done) | (simp; omega)) _ | with_reducible refine below_drewN ?_ _ | with_reducible refine Below.alloc ?_ (by first | (simp; done) | (simp; omega)) _ | with_reducible refine Below.drew ?_))) (new_at w5 [4, 15] _)) ?_
  rintro e w6 ⟨rfl, q6⟩
  have bb : Below w5.heap.size w5 w6 := Below.trans (by repeat (first | with_reducible exact Below.refl _ _ | with_reducible refine Below.setCell ?_ (by first | (simp; done) | (simp; omega)) _ | with_reducible refine below_drewN ?_ _ | with_reducible refine Below.alloc ?_ (by first | (simp; done) | (simp; omega)) _ | with_reducible refine Below.drew ?_)) (q6.mono (by simp))
  have hb6 := hid (hb5.out.trans (bb.mono hb5.out.size))
  have hB6 := hid (hB5.out.kept bb)
  have a6 := hid (a5.out.keptAll bb)
  clear hb5 hB5 a5 hi5' q6 bb
  obtain ⟨c0, c1, -, -⟩ := a6.out.factsL
  have hcom := hid (commas_of (.slice (some ⟨A, 0, none⟩) 2 2) (.slice (some ⟨B, 0, none⟩) 2 2) 2 0 99 w6 (PlaW w6 [7]) (fun W hW => by
    have h := within_lv B 2 18 _ (fun k => lvS 44 aw10 (k + 1)) 1 0 99 (by decide) (by decide) (by decide) (by decide) (by decide) (fun _ _ => rfl) w6 (hT'.out.below hb6.out (by have := h0'.out; omega)) (by have := h0'.out; have := hb6.out.size; omega) hB6.out W hW
    rw [aw10_commas] at h
    exact h))
  go_wp2_with fail
  refine Calls.mono hcom.out ?_
  rintro e w7 ⟨v7, rfl, hr7, q7⟩
  obtain ⟨ao7, cap7, rfl, hi7⟩ := ints_row hr7
  have hb7 := hid (hb6.out.trans (q7.mono hb6.out.size))
  have hi7' := hid hi7
  clear q7 hB6 a6 c0 c1 hcom hi7 hr7 hb6
  go_wp2_with fail
  refine Calls.mono (sameI_calls [7] 1 rfl (by decide) ao7 _ cap7 1 _ (hi7'.out.kept (Nat.le_refl _) (by repeat (first | with_reducible exact Below.refl _ _ | with_reducible refine Below.setCell ?_ (by first | (simp; done) | (simp; omega)) _ | with_reducible refine below_drewN ?_ _ | with_reducible refine Below.alloc ?_ (by first | (simp; done) | (simp; omega)) _ | with_reducible refine Below.drew ?_))) (new_at w7 [7] _)) ?_
  rintro e w8 ⟨rfl, q8⟩
  have bb : Below w7.heap.size w7 w8 := Below.trans (by repeat (first | with_reducible exact Below.refl _ _ | with_reducible refine Below.setCell ?_ (by first | (simp; done) | (simp; omega)) _ | with_reducible refine below_drewN ?_ _ | with_reducible refine Below.alloc ?_ (by first | (simp; done) | (simp; omega)) _ | with_reducible refine Below.drew ?_)) (q8.mono (by simp))
  have hb8 := hid (hb7.out.trans (bb.mono hb7.out.size))
  clear hb7 hi7' q8 bb
  go_wp2
  go_ret
  exact ⟨rfl, hb8.out⟩
end Go.Proofs.YtodhekdnbenobaaDoor
