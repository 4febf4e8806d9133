/-
  Texts of mine that others lean on, one behind the other.
-/
import Derived.Test.YtomeaejjdjidlaaDoorBoolRow
import Derived.Test.YtomeaejjdjidlaaDoorBitsC
import Derived.Test.YtomeaejjdjidlaaDoorApartA
import Derived.Deep.RegionHeld
import Derived.Test.YtomeaejjdjidlaaDoorBitOpen
import Derived.Test.YtomeaejjdjidlaaDoorBulkKit
import Derived.Test.YtomeaejjdjidlaaDoorApartJ
import Derived.Test.YtomeaejjdjidlaaDoorLvC
import Derived.Test.YtomeaejjdjidlaaDoorSameI
/-
  What quarryref04.Set and quarryref04.Places answer.
-/
namespace Go.Proofs.YtomeaejjdjidlaaDoor
open Go.RowKit

/-- The first i truths, as cells. -/
def bl (G : Nat → Bool) (i : Nat) : List Value := (List.range i).map fun j => Value.bool (G j)
theorem bl_succ (G : Nat → Bool) (i : Nat) : bl G i ++ [.bool (G i)] = bl G (i + 1) := by simp [bl, List.range_succ]

/-- What Set has made. -/
theorem bools_of_row {W : World} {v : Value} {B N : Nat} {G : Nat → Bool} (h : W.ownsRow B 4 1 v N (bl G N)) : ∃ ao cap, v = .slice ao N cap ∧ (∀ j, j < N → ∃ g cur, ao = some ⟨g, 0, none⟩ ∧ B ≤ g ∧ At W g cur 4 ∧ N ≤ cur.size ∧ ∀ i, i < N → cur[i]? = some (.bool (G i))) := by
  rcases h.2 with ⟨rfl, h0⟩ | ⟨g, cap, cur, rfl, hb, hgb, h3, h4, h5, h6⟩
  · exact ⟨none, 0, by rw [h0], fun j hj => by omega⟩
  · refine ⟨_, cap, rfl, fun j hj => ⟨g, cur, rfl, hb, hgb, by omega, fun i hi => ?_⟩⟩
    have : (cur.toList.take (N * 1))[i]? = (bl G N)[i]? := by rw [h6]
    rw [List.getElem?_take, if_pos (by omega)] at this
    simp only [Array.getElem?_toList] at this
    rw [this]; simp [bl, hi]
end Go.Proofs.YtomeaejjdjidlaaDoor

/-
  Rows of truths that are turned in place; what the document's calls that answer rows of bits leave.
-/
namespace Go.Proofs.YtomeaejjdjidlaaDoor
open Go.RowKit

/-- The slice holds these truths, in a block from B on. -/
def BoolsAt (B : Nat) (W : World) (ao : Option Addr) (N : Nat) (G : Nat → Bool) : Prop := N = 0 ∨ ∃ g cur, ao = some ⟨g, 0, none⟩ ∧ B ≤ g ∧ At W g cur 4 ∧ ∀ i, i < N → cur[i]? = some (.bool (G i))
theorem BoolsAt.bls {B : Nat} {W : World} {ao : Option Addr} {N : Nat} {G : Nat → Bool} (h : BoolsAt B W ao N G) : Bls W ao N G := fun j hj => by
  rcases h with h | ⟨g, cur, h1, _, h3, h4⟩
  · omega
  · exact ⟨g, 0, h1, by rw [Nat.zero_add, h3.cell j, h4 j hj]⟩
theorem BoolsAt.kept {B : Nat} {W W' : World} {ao : Option Addr} {N : Nat} {G : Nat → Bool} (h : BoolsAt B W ao N G) (hb : Below W.heap.size W W') : BoolsAt B W' ao N G := by
  rcases h with h | ⟨g, cur, h1, h2, h3, h4⟩
  · exact .inl h
  · exact .inr ⟨g, cur, h1, h2, h3.keptAll hb, h4⟩
theorem BoolsAt.drew {B : Nat} {W : World} {ao : Option Addr} {N : Nat} {G : Nat → Bool} (h : BoolsAt B W ao N G) : BoolsAt B W.drew ao N G := h
theorem BoolsAt.other {B : Nat} {W : World} {ao : Option Addr} {N : Nat} {G : Nat → Bool} (h : BoolsAt B W ao N G) {p : Addr} (hp : ∀ g, ao = some ⟨g, 0, none⟩ → g ≠ p.block) (v : Value) : BoolsAt B (W.setCell p v) ao N G := by
  rcases h with h | ⟨g, cur, h1, h2, h3, h4⟩
  · exact .inl h
  · exact .inr ⟨g, cur, h1, h2, h3.other (hp g h1) v, h4⟩
theorem BoolsAt.got {B : Nat} {W : World} {ao : Option Addr} {N : Nat} {G : Nat → Bool} (h : BoolsAt B W ao N G) {i : Nat} (hi : i < N) : ∃ g cur, ao = some ⟨g, 0, none⟩ ∧ B ≤ g ∧ At W g cur 4 ∧ cur[i]? = some (.bool (G i)) := by
  rcases h with h | ⟨g, cur, h1, h2, h3, h4⟩
  · omega
  · exact ⟨g, cur, h1, h2, h3, h4 i hi⟩
theorem BoolsAt.set {B g : Nat} {W : World} {N : Nat} {G : Nat → Bool} (h : BoolsAt B W (some ⟨g, 0, none⟩) N G) (i : Nat) (q : Bool) : BoolsAt B (W.setCell ⟨g, i, none⟩ (.bool q)) (some ⟨g, 0, none⟩) N (fun j => if j = i then q else G j) := by
  rcases h with h | ⟨g', cur, h1, h2, h3, h4⟩
  · exact .inl h
  · cases h1
    refine .inr ⟨g, _, rfl, h2, h3.set i _, fun j hj => ?_⟩
    by_cases hji : j = i
    · subst hji
      have hlt : j < cur.size := by
        rcases Nat.lt_or_ge j cur.size with hl | hl
        · exact hl
        · have := h4 j hj; rw [Array.getElem?_eq_none hl] at this; cases this
      rw [Array.getElem?_setIfInBounds_self_of_lt hlt]; simp
    · rw [Array.getElem?_setIfInBounds_ne (by omega), h4 j hj]; simp [hji]
theorem BoolsAt.congr {B : Nat} {W : World} {ao : Option Addr} {N : Nat} {G G' : Nat → Bool} (h : BoolsAt B W ao N G) (hG : ∀ i, i < N → G i = G' i) : BoolsAt B W ao N G' := by
  rcases h with h | ⟨g, cur, h1, h2, h3, h4⟩
  · exact .inl h
  · exact .inr ⟨g, cur, h1, h2, h3, fun i hi => by rw [h4 i hi, hG i hi]⟩
theorem boolsAt_of_row {W : World} {v : Value} {B N : Nat} {G : Nat → Bool} (h : W.ownsRow B 4 1 v N (bl G N)) : ∃ ao cap, v = .slice ao N cap ∧ BoolsAt B W ao N G := by
  obtain ⟨ao, cap, h1, h2⟩ := bools_of_row h
  refine ⟨ao, cap, h1, ?_⟩
  by_cases hN : N = 0
  · exact .inl hN
  · obtain ⟨g, cur, h3, h4, h5, _, h6⟩ := h2 0 (by omega)
    exact .inr ⟨g, cur, h3, h4, h5, h6⟩
/-- The slice's cells hold these words, in a block from B on. -/
def Wdf (B : Nat) (w : World) (ao : Option Addr) (k : Nat) (X : Nat → Nat) : Prop :=
  ∀ j, j < k → X j < 18446744073709551616 ∧ ∃ g off, ao = some ⟨g, off, none⟩ ∧ B ≤ g ∧ w.cell? ⟨g, off + j, none⟩ = some (.int .u64 ((X j : Nat) : Int))
theorem Wdf.wds {B : Nat} {w : World} {ao : Option Addr} {k : Nat} {X : Nat → Nat} (h : Wdf B w ao k X) : Wds w ao k X := fun j hj => by
  obtain ⟨h1, g, off, h2, _, h3⟩ := h j hj
  exact ⟨h1, g, off, h2, h3⟩
theorem Wdf.kept {B : Nat} {w w' : World} {ao : Option Addr} {k : Nat} {X : Nat → Nat} (h : Wdf B w ao k X) (hb : Below w.heap.size w w') : Wdf B w' ao k X := fun j hj => by
  obtain ⟨h1, g, off, h2, h3, h4⟩ := h j hj
  exact ⟨h1, g, off, h2, h3, (hb.cell (p := ⟨g, off + j, none⟩) (cell_block h4)).trans h4⟩
theorem Wdf.mono {B B' : Nat} {w : World} {ao : Option Addr} {k : Nat} {X : Nat → Nat} (h : Wdf B w ao k X) (hB : B' ≤ B) : Wdf B' w ao k X := fun j hj => by
  obtain ⟨h1, g, off, h2, h3, h4⟩ := h j hj
  exact ⟨h1, g, off, h2, by omega, h4⟩
theorem wdf_none (B : Nat) (w : World) (ao : Option Addr) (X : Nat → Nat) : Wdf B w ao 0 X := fun j hj => by omega
theorem wdf_of_row {W : World} {v : Value} {B K : Nat} {Y : Nat → Nat} (h : W.ownsRow B 22 1 v K (wl Y K)) (hY : ∀ j, j < K → Y j < 18446744073709551616) : ∃ ao cap, v = .slice ao K cap ∧ Wdf B W ao K Y := by
  rcases h.2 with ⟨rfl, h0⟩ | ⟨g, cap, cur, rfl, hb, hgb, h3⟩
  · exact ⟨none, 0, by rw [h0], fun j hj => by omega⟩
  · refine ⟨_, cap, rfl, fun j hj => ⟨hY j hj, g, 0, rfl, hb, ?_⟩⟩
    have := h.cells (g := g) rfl j (.int .u64 ((Y j : Nat) : Int)) (by simp [wl, hj])
    rwa [show (⟨g, 0, none⟩ : Addr).add j = ⟨g, 0 + j, none⟩ by by_cases h : j = 0 <;> simp [Addr.add, h]] at this
/-- The document's row and error number come back. -/
def RGives (E q : Int) (r : Nat) (Z : Nat → Nat) (w : World) (e : Ending) (w' : World) : Prop := Below w.heap.size w w' ∧ ∃ so c, Wdf w.heap.size w' so r Z ∧ e = .returned (.tuple #[bv q so r c, .int .i64 E])
end Go.Proofs.YtomeaejjdjidlaaDoor

/-
  What quarryref04.Places and quarryref04.Get answer.
-/
namespace Go.Proofs.YtomeaejjdjidlaaDoor
open Go.RowKit

/-- The places, as cells. -/
def pl (X : Nat → Nat) (N : Nat) : List Value := (placesB X N).map fun p => Value.int .i64 ((p : Nat) : Int)
theorem pl_t {X : Nat → Nat} {i : Nat} (h : bitAt X i = true) : pl X i ++ [.int .i64 ((i : Nat) : Int)] = pl X (i + 1) := by simp [pl, placesB_t h]
theorem pl_f {X : Nat → Nat} {i : Nat} (h : bitAt X i = false) : pl X i = pl X (i + 1) := by simp [pl, placesB_f h]
/-- The slice lists the places. -/
def PlAt (W : World) (vo : Option Addr) (X : Nat → Nat) (N : Nat) : Prop := ∀ (j p : Nat), (placesB X N)[j]? = some p → p < N ∧ ∃ g, vo = some ⟨g, 0, none⟩ ∧ W.cell? ⟨g, j, none⟩ = some (.int .i64 ((p : Nat) : Int))
theorem PlAt.kept {W W' : World} {vo : Option Addr} {X : Nat → Nat} {N : Nat} (h : PlAt W vo X N) (hb : Below W.heap.size W W') : PlAt W' vo X N := fun j p hp => by
  obtain ⟨h1, g, h2, h3⟩ := h j p hp
  exact ⟨h1, g, h2, (hb.cell (p := ⟨g, j, none⟩) (cell_block h3)).trans h3⟩
theorem plAt_of_row {W : World} {v : Value} {B N : Nat} {X : Nat → Nat} (h : W.ownsRow B 3 1 v (cntB X N) (pl X N)) : ∃ vo cap, v = .slice vo (cntB X N) cap ∧ PlAt W vo X N := by
  rcases h.2 with ⟨rfl, h0⟩ | ⟨g, cap, cur, rfl, hb, hgb, h3⟩
  · refine ⟨none, 0, by rw [h0], fun j p hp => ?_⟩
    have := (List.getElem?_eq_some_iff.1 hp).1
    rw [placesB_len] at this
    omega
  · refine ⟨_, cap, rfl, fun j p hp => ⟨(placesB_rank hp).1, g, rfl, ?_⟩⟩
    have := h.cells (g := g) rfl j (.int .i64 ((p : Nat) : Int)) (by simp [pl, hp])
    rwa [show (⟨g, 0, none⟩ : Addr).add j = ⟨g, j, none⟩ by by_cases h : j = 0 <;> simp [Addr.add, h]] at this
theorem infoI : (Tryd.prog.info? 3).map (fun i => (i.zero, i.size, i.bytes)) = some (some (.int .i64 0), 1, 8) := by kernel_rfl

set_option maxRecDepth 10000 in
set_option maxHeartbeats 2000000 in
theorem refPlaces_calls (n : Int) (ao : Option Addr) (k cap : Nat) (X : Nat → Nat) (N : Nat) (hn : (Lit.int .i64 n).wf = true) (hk : k ≤ 1048576) (hE : Hid (Eff n k X N)) (w : World) (hW : Wds w ao k X) :
    Calls Tryd.prog 39 #[bv n ao k cap] w fun e w' => (∃ v, e = .returned v ∧ w'.ownsRow w.heap.size 3 1 v (cntB X N) (pl X N)) ∧ N ≤ 67108864 ∧ Below w.heap.size w w' := by
  obtain ⟨i0, hi, hz0, hz1, hz2⟩ := info_parts infoI
  obtain ⟨FA, hFA⟩ := formedB n k X
  have hfc : Hid _ := fun (w1 : World) (hb : Below w.heap.size w w1) => refFormed_calls n ao k cap X FA hn (by omega) hFA w1 (hW.kept hb)
  clear hn
  go_enter Tryd.func39, Tryd.ntmps39
  go_wp2_with fail
  refine Calls.mono (hfc.out _ (by repeat (first | with_reducible exact Below.refl _ _ | with_reducible refine Below.setCell ?_ (by first | (simp; done) | (simp; omega)) _ | with_reducible refine below_drewN ?_ _ | with_reducible refine Below.alloc ?_ (by first | (simp; done) | (simp; omega)) _ | with_reducible refine Below.drew ?_))) ?_
  rintro e w1 ⟨rfl, hb1⟩
  have a1 : At w1 w.heap.size #[.int .i64 n, .slice ao k cap] 34 := (At.new w _ _).keptAll hb1
  have hB1 : Below w.heap.size w w1 := Below.trans (by repeat (first | with_reducible exact Below.refl _ _ | with_reducible refine Below.setCell ?_ (by first | (simp; done) | (simp; omega)) _ | with_reducible refine below_drewN ?_ _ | with_reducible refine Below.alloc ?_ (by first | (simp; done) | (simp; omega)) _ | with_reducible refine Below.drew ?_)) (hb1.mono (by simp))
  have a1' := hid a1
  have hW' := hid hW
  clear hb1 hfc a1 hW
  cases FA
  · obtain rfl : N = 0 := by
      rcases hE.out with ⟨h, _⟩ | ⟨_, h⟩
      · have h' := hFA.out.1 h; cases h'
      · exact h
    clear hE hFA
    go_wp2
    go_ret
    exact ⟨⟨_, rfl, World.ownsRow_nil _ _ _ _⟩, Nat.zero_le _, hB1⟩
  · have hform : formed n k X := hFA.out.2 rfl
    obtain ⟨N', rfl⟩ := Int.eq_ofNat_of_zero_le hform.1
    obtain rfl : N = N' := by
      rcases hE.out with ⟨_, h⟩ | ⟨h, _⟩
      · simpa using h
      · exact (h hform).elim
    have hNk : N ≤ 64 * k := by have := hform.2.1; simp at this; unfold need at this; omega
    clear hE hFA hform
    go_wp2
    go_loopw [3, 4] (fun v ii wr => ∃ i L : Nat, i ≤ N ∧ L ≤ i ∧ Hid (cntB X i = L) ∧ ii = .int .i64 (i : Int) ∧ At wr w.heap.size #[.int .i64 (N : Int), .slice ao k cap] 34 ∧ wr.ownsRow (w.heap.size + 1) 3 1 v L (pl X i) ∧ Below w.heap.size w wr) (fun _ ii _ => N - (intOf ii).toNat)
    case atStart => exact ⟨0, 0, Nat.zero_le _, Nat.le_refl _, rfl, rfl, a1'.out, World.ownsRow_nil _ _ _ _, hB1⟩
    case round =>
      obtain ⟨i, L, hiN, hLi, hL, rfl, a2, hown, hb⟩ := hrel
      have hsz := a2.lt
      obtain ⟨c0, c1, -, -⟩ := a2.facts
      have a2' := hid a2
      have hown' := hid hown
      clear a2 hown a1'
      by_cases hlt : i < N
      · obtain ⟨q, hq⟩ : ∃ q, Hid (bitAt X i = q) := ⟨_, rfl⟩
        have hcall : Hid _ := refBit_calls i ao k cap X q (by omega) (by omega) hq wr (hW'.out.kept hb)
        go_wp2_with fail
        refine Calls.mono hcall.out ?_
        rintro e w' ⟨rfl, hw'⟩
        obtain rfl := hw'.symm
        clear hcall
        cases q
        · go_wp2
          go_roundw
          case rel => exact ⟨i + 1, L, by omega, by omega, by show _ = _; rw [cntB_succ, hq.out, hL.out]; rfl, by simp, a2'.out, pl_f hq.out ▸ hown'.out, hb⟩
          case measure => simp [intOf]; omega
        · go_wp2_with (first
            | (at_builtin; refine wpList_append_own _ rfl _ _ 23 rfl (w.heap.size + 1) 3 i0 (.int .i64 0) 1 8 Tryd.underlying23 hi hz0 hz1 hz2 rfl (by decide) _ _ _ rfl (World.ownsRow.alloc hown'.out _) ⟨wr.heap.size, 0, none⟩ 1 1 [.int .i64 (i : Int)] rfl rfl (fun j u hj => by match j, hj with | 0, hj => simp at hj; subst hj; simp [Addr.add]) (fun u hu => by simp at hu; subst hu; rfl) (by unfold maxLen; omega) (by omega) (by simp; omega) ?_)
            | go_in)
          intro v' w1' hown1 hgrow _
          have hlt' : ∀ r, u3.ownBlock = some r → w.heap.size + 1 ≤ r := fun r e => (hown'.out.lt r e).1
          have b1 := a2'.out.grown hgrow hlt' (by omega)
          have hb' : Below w.heap.size w w1' := (hb.alloc hb.size _).grown hgrow (by simp; omega) (fun b e => by have := hlt' b e; omega)
          rw [pl_t hq.out] at hown1
          have b1' := hid b1
          have hown1' := hid hown1
          clear hgrow hown1 b1 hlt' c0 c1 a2' hown'
          go_wp2
          go_roundw
          case rel => exact ⟨i + 1, L + 1, by omega, by omega, by show _ = _; rw [cntB_succ, hq.out, hL.out]; rfl, by simp, b1'.out, hown1'.out, hb'⟩
          case measure => simp [intOf]; omega
      · obtain rfl : i = N := by omega
        obtain rfl := hL.out
        go_wp2
        go_ret
        exact ⟨⟨_, rfl, row_base hown'.out (by omega)⟩, by omega, hb⟩

end Go.Proofs.YtomeaejjdjidlaaDoor

/-
  What quarrykit.LentBits and quarrykit.KeptBits answer.
-/
namespace Go.Proofs.YtomeaejjdjidlaaDoor
open Go.RowKit

theorem cell_set2 {w : World} {p : Addr} {b : Nat} (hp : p.block ≠ b) (x y : Value) : ((w.setCell ⟨b, 0, none⟩ x).setCell ⟨b, 1, none⟩ y).cell? p = w.cell? p :=
  (World.cell?_of_block (Below.heap_setCell _ ⟨b, 1, none⟩ y p.block hp)).trans (World.cell?_of_block (Below.heap_setCell w ⟨b, 0, none⟩ x p.block hp))
/-- A row of words that was lent. -/
abbrev LentB (w : World) (g c k : Nat) (X : Nat → Nat) : Prop := LentW w g c k (fun j => ((X j : Nat) : Int))
theorem LentB.wds {w : World} {g c k : Nat} {X : Nat → Nat} (h : LentB w g c k X) (hX : ∀ j, j < k → X j < 18446744073709551616) : Wds w (some ⟨g, 0, none⟩) k X := fun j hj => by
  refine ⟨hX j hj, g, 0, rfl, ?_⟩
  rw [Nat.zero_add, h.cell (by omega), zmW, if_pos hj]
theorem Wds.ints {w : World} {ao : Option Addr} {k : Nat} {X : Nat → Nat} (h : Wds w ao k X) : ∀ j, j < k → (Lit.int .u64 ((X j : Nat) : Int)).wf = true ∧ ∃ g off, ao = some ⟨g, off, none⟩ ∧ w.cell? ⟨g, off + j, none⟩ = some (.int .u64 ((X j : Nat) : Int)) := fun j hj => by
  obtain ⟨h1, h2⟩ := h j hj
  refine ⟨?_, h2⟩
  exact WalkArith.wf_u64 (by omega)

set_option maxRecDepth 10000 in
set_option maxHeartbeats 1000000 in
theorem lentB_calls (n : Int) (ao : Option Addr) (k cap : Nat) (X : Nat → Nat) (hk : k ≤ 17592186043904) (w : World) (hW : Wds w ao k X) :
    Calls Tryd.prog 19 #[bv n ao k cap] w fun e w' => ∃ g c, e = .returned (bv n (some ⟨g, 0, none⟩) k c) ∧ w.heap.size ≤ g ∧ LentB w' g c k X ∧ Below w.heap.size w w' := by
  have hl : Hid _ := fun (w1 : World) (hb : Below w.heap.size w w1) => lentW_calls ao k cap (fun j => ((X j : Nat) : Int)) hk (Nat.zero_le _) w1 (hW.kept hb).ints
  clear hW
  go_enter Tryd.func19, Tryd.ntmps19
  go_wp2
  have a1 := (At.new w #[.int .i64 n, .slice ao k cap] 34).alloc (.cells #[.int .i64 0, .slice none 0 0] 34)
  have a2 : At ((w.alloc (.cells #[.int .i64 n, .slice ao k cap] 34)).alloc (.cells #[.int .i64 0, .slice none 0 0] 34)) (w.heap.size + 1) #[.int .i64 0, .slice none 0 0] 34 := by
    have := At.new (w.alloc (.cells #[.int .i64 n, .slice ao k cap] 34)) #[.int .i64 0, .slice none 0 0] 34
    simpa using this
  refine wp_region_held_drew (S := fun w' => (w'.cell? ⟨w.heap.size, 0, none⟩ = some (.int .i64 n) ∧ w'.cell? ⟨w.heap.size, 1, none⟩ = some (.slice ao k cap)) ∧ (∃ x y, At w' (w.heap.size + 1) #[x, y] 34) ∧ Below w.heap.size w w') (by kernel_rfl) ⟨⟨a1.cell 0, a1.cell 1⟩, ⟨_, _, a2⟩, by repeat (first | with_reducible exact Below.refl _ _ | with_reducible refine Below.setCell ?_ (by first | (simp; done) | (simp; omega)) _ | with_reducible refine below_drewN ?_ _ | with_reducible refine Below.alloc ?_ (by first | (simp; done) | (simp; omega)) _ | with_reducible refine Below.drew ?_)⟩ (fun hH => ?_)
  clear a1 a2
  (refine' wpAnyH_take (i := 0) rfl (by kernel_rfl) (by kernel_rfl) (by kernel_rfl) (fun _ _ _ h => h) (Or.inl ⟨by rfl, ?_⟩) (by assumption) ?_; rotate_left; (· (intro wq hq; (try dsimp only at hq); go_simp; first | done | with_reducible rfl)); simp only [Act.put, List.getElem_toArray, List.getElem_cons_zero, List.setIfInBounds_toArray, List.set_cons_zero, List.set_cons_succ])
  (refine' wpAnyH_take (i := 1) rfl (by kernel_rfl) (by kernel_rfl) (by kernel_rfl) (fun _ _ _ h => h) (Or.inl ⟨by rfl, ?_⟩) (by assumption) ?_; rotate_left; (· (intro wq hq; (try dsimp only at hq); go_simp; first | done | with_reducible rfl)); simp only [Act.put, List.getElem_toArray, List.getElem_cons_zero, List.getElem_cons_succ, List.setIfInBounds_toArray, List.set_cons_zero, List.set_cons_succ])
  (refine' wpAnyH_take (i := 2) rfl (by kernel_rfl) (by kernel_rfl) (by kernel_rfl) (fun _ _ _ h => h) (Or.inl ⟨by rfl, ?_⟩) (by assumption) ?_; rotate_left; (· (intro wq hq; (try dsimp only at hq); go_simp; first | done | with_reducible rfl)); simp only [Act.put, List.getElem_toArray, List.getElem_cons_zero, List.getElem_cons_succ, List.setIfInBounds_toArray, List.set_cons_zero, List.set_cons_succ])
  (refine' wpAnyH_take (i := 3) rfl (by kernel_rfl) (by kernel_rfl) (by kernel_rfl) (fun _ _ _ h => h) (Or.inl ⟨by rfl, ?_⟩) (by assumption) ?_; rotate_left; (· (intro wq hq; (try dsimp only at hq); go_simp; first | done | with_reducible rfl)); simp only [Act.put, List.getElem_toArray, List.getElem_cons_zero, List.getElem_cons_succ, List.setIfInBounds_toArray, List.set_cons_zero, List.set_cons_succ])
  refine wpAnyH_ready (rs := [4]) (by kernel_rfl) (by simp) ?_
  refine AllReadyH.cons rfl (fun K hK => ?_) ?_
  · go_simp
    (go_at_call 36; refine Calls.mono (hl.out _ hH.2.2) ?_; rintro e w3 ⟨g, c, rfl, hg, hL, hb3⟩; (try dsimp only))
    obtain ⟨x0, y0, a0⟩ := hH.2.1
    have hg' : w.heap.size + 2 ≤ g := by have := a0.lt; omega
    have a3 := a0.keptAll hb3
    refine hK.out _ _ ⟨⟨(hb3.cell (p := ⟨w.heap.size, 0, none⟩) (by have := a0.lt; show w.heap.size < _; omega)).trans hH.1.1, (hb3.cell (p := ⟨w.heap.size, 1, none⟩) (by have := a0.lt; show w.heap.size < _; omega)).trans hH.1.2⟩, ⟨x0, y0, a3⟩, hH.2.2.trans (hb3.mono hH.2.2.size)⟩ (fun hH3 => ?_)
    obtain ⟨c0, c1, f0, f1⟩ := a3.facts
    have a3' := hid a3
    have hL' := hid hL
    clear hK hb3 hH hl a3 hL hg a0
    (refine' wpAnyH_take (i := 5) rfl (by kernel_rfl) (by kernel_rfl) (by kernel_rfl) (fun _ _ _ h => h) (Or.inl ⟨by rfl, ?_⟩) (by assumption) ?_; rotate_left; (· (intro wq hq; (try dsimp only at hq); go_simp; first | done | with_reducible rfl)); simp only [Act.put, List.getElem_toArray, List.getElem_cons_zero, List.getElem_cons_succ, List.setIfInBounds_toArray, List.set_cons_zero, List.set_cons_succ])
    have hB3 := hH3.2.2
    have hcl := hH3.1
    clear hH3
    refine wpAnyH_ready (rs := [6]) (by kernel_rfl) (by simp) ?_
    refine AllReadyH.cons rfl (fun K hK => ?_) ?_
    · go_simp
      refine hK.out _ _ ⟨⟨?_, ?_⟩, ⟨_, _, a3'.out.two⟩, (hB3.setCell (p := ⟨w.heap.size + 1, 0, none⟩) (by show w.heap.size ≤ w.heap.size + 1; omega) _).setCell (p := ⟨w.heap.size + 1, 1, none⟩) (by show w.heap.size ≤ w.heap.size + 1; omega) _⟩ (fun hH4 => ?_)
      · exact (cell_set2 (by show w.heap.size ≠ w.heap.size + 1; omega) _ _).trans hcl.1
      · exact (cell_set2 (by show w.heap.size ≠ w.heap.size + 1; omega) _ _).trans hcl.2
      refine wpAnyH_done (by kernel_rfl) ?_ _
      clear hK hH4 hcl
      go_wp2
      refine ret_bits1 rfl rfl a3'.out.two rfl ⟨g, c, rfl, by omega, ?_, (hB3.setCell (p := ⟨w.heap.size + 1, 0, none⟩) (by show w.heap.size ≤ w.heap.size + 1; omega) _).setCell (p := ⟨w.heap.size + 1, 1, none⟩) (by show w.heap.size ≤ w.heap.size + 1; omega) _⟩
      obtain ⟨cur, h1, h2⟩ := hL'.out
      exact ⟨cur, (h1.other (p := ⟨w.heap.size + 1, 0, none⟩) (by show g ≠ w.heap.size + 1; omega) _).other (p := ⟨w.heap.size + 1, 1, none⟩) (by show g ≠ w.heap.size + 1; omega) _, h2⟩
    · exact AllReadyH.nil
  · exact AllReadyH.nil

set_option maxRecDepth 10000 in
set_option maxHeartbeats 1000000 in
theorem keptB_calls (n : Int) (ao : Option Addr) (k cap g c : Nat) (X : Nat → Nat) (hk : k ≤ 17592186043904) (w : World) (hL : LentB w g c k X) (hW : Wds w ao k X) :
    Calls Tryd.prog 22 #[bv n (some ⟨g, 0, none⟩) k c, bv n ao k cap] w fun e w' => e = .returned (.bool true) ∧ Below w.heap.size w w' := by
  have hl : Hid _ := fun (w1 : World) (hb : Below w.heap.size w w1) => keptW_calls ao k cap g c (fun j => ((X j : Nat) : Int)) hk w1 (LentW.kept hL hb) (hW.kept hb).ints
  have e1 : (n == n) = true := by simp
  clear hW hL
  go_enter Tryd.func22, Tryd.ntmps22
  go_wp2_with fail
  refine Calls.mono (hl.out _ (by repeat (first | with_reducible exact Below.refl _ _ | with_reducible refine Below.setCell ?_ (by first | (simp; done) | (simp; omega)) _ | with_reducible refine below_drewN ?_ _ | with_reducible refine Below.alloc ?_ (by first | (simp; done) | (simp; omega)) _ | with_reducible refine Below.drew ?_))) ?_
  rintro e w3 ⟨rfl, hb3⟩
  have hB3 : Below w.heap.size w w3 := Below.trans (by repeat (first | with_reducible exact Below.refl _ _ | with_reducible refine Below.setCell ?_ (by first | (simp; done) | (simp; omega)) _ | with_reducible refine below_drewN ?_ _ | with_reducible refine Below.alloc ?_ (by first | (simp; done) | (simp; omega)) _ | with_reducible refine Below.drew ?_)) (hb3.mono (by simp; omega))
  clear hl hb3
  go_wp2
  go_ret
  exact ⟨rfl, hB3⟩
end Go.Proofs.YtomeaejjdjidlaaDoor

/-
  Levels that come in by value: two lists of rows of bits.
-/
namespace Go.Proofs.YtomeaejjdjidlaaDoor
open Go.ChangeShapes Go.WideShapes Go.ChangeAt Go.RowKit
set_option maxRecDepth 100000

/-- One row of bits, as it lies in a list. -/
structure Bt where
  n : Int
  ao : Option Addr
  k : Nat
  cap : Nat
  X : Nat → Nat
/-- The slice's cells hold these rows. -/
def BtsOf (w : World) (lo : Option Addr) (L : List Bt) : Prop := ∀ (i : Nat) (o : Bt), L[i]? = some o → (Lit.int .i64 o.n).wf = true ∧ Wds w o.ao o.k o.X ∧ ∃ b off, lo = some ⟨b, off, none⟩ ∧ b < w.heap.size ∧
  w.cell? ⟨b, off + i * 2, none⟩ = some (.int .i64 o.n) ∧ w.cell? ⟨b, off + i * 2 + 1, none⟩ = some (.slice o.ao o.k o.cap)
theorem BtsOf.kept {w w' : World} {lo : Option Addr} {L : List Bt} (h : BtsOf w lo L) (hb : Below w.heap.size w w') : BtsOf w' lo L := fun i o hi => by
  obtain ⟨h1, h2, b, off, h3, h4, h5, h6⟩ := h i o hi
  exact ⟨h1, h2.kept hb, b, off, h3, Nat.lt_of_lt_of_le h4 hb.size, (hb.cell (p := ⟨b, off + i * 2, none⟩) h4).trans h5, (hb.cell (p := ⟨b, off + i * 2 + 1, none⟩) h4).trans h6⟩
section
variable {H : Type} {enc : TypeId × Value → H} {w : World} {base : Nat} {spare : Nat → Bool} {held : Bool}
theorem cellsBt : Tryd.prog.cellsOf 34 = 2 := by kernel_rfl
theorem cellsLv : Tryd.prog.cellsOf 47 = 2 := by kernel_rfl
theorem cellsLs : Tryd.prog.cellsOf 45 = 1 := by kernel_rfl
theorem cellsSp : Tryd.prog.cellsOf 49 = 2 := by kernel_rfl
/-- What is read of a row's two cells. -/
theorem open_bit1 {fuel : Nat} {cs : List Value} {x : DataW H × List MemPlace} (h : DataW.trod enc Tryd.prog w base spare held fuel 34 cs = some x) :
    ∃ (o : Bt) (d1 : DataW H), cs = [.int .i64 o.n, .slice o.ao o.k o.cap] ∧ x.1 = .agg [.lit (.int .i64 o.n), d1] ∧ Long d1 o.k ∧ (Lit.int .i64 o.n).wf = true ∧ Wds w o.ao o.k o.X := by
  obtain ⟨xs, n, -, hx, hl, hxs, hf⟩ := DataW.trod_struct Tryd.underlying34 h
  rw [cellsBt] at hl
  obtain ⟨c0, c1, rfl⟩ : ∃ a b, cs = [a, b] := by
    match cs, hl with
    | [a, b], _ => exact ⟨a, b, rfl⟩
  have f0 : DataW.trod enc Tryd.prog w base spare held n 3 ((([c0, c1] : List Value).drop 0).take (Tryd.prog.cellsOf 3)) = xs[0]? := hf 0 _ rfl
  have f1 : DataW.trod enc Tryd.prog w base spare held n 32 ((([c0, c1] : List Value).drop 1).take (Tryd.prog.cellsOf 32)) = xs[1]? := hf 1 _ rfl
  rw [show Tryd.prog.cellsOf 3 = 1 by kernel_rfl] at f0
  rw [show Tryd.prog.cellsOf 32 = 1 by kernel_rfl] at f1
  have hxs2 : xs.length = 2 := hxs
  obtain ⟨y0, y1, rfl⟩ : ∃ a b, xs = [a, b] := by
    match xs, hxs2 with
    | [a, b], _ => exact ⟨a, b, rfl⟩
  obtain ⟨z, e0, x0, hw⟩ := DataW.trod_int Tryd.underlying3 (show DataW.trod enc Tryd.prog w base spare held n 3 [c0] = some y0 from f0)
  obtain ⟨ao, len, cap, Z, rfl, hlc, hm, hlong, hz⟩ := ints_slice Tryd.underlying32 Tryd.underlying22 cellsW (show DataW.trod enc Tryd.prog w base spare held n 32 [c1] = some y1 from f1)
  refine ⟨⟨z, ao, len, cap, fun j => (Z j).toNat⟩, y1.1, ?_, ?_, hlong, hw, fun j hj => ?_⟩
  · simp at e0
    rw [e0]
  · rw [hx, x0]
    rfl
  · obtain ⟨hw1, g, off, h3, h4⟩ := hz j hj
    obtain ⟨b0, b1⟩ := wf_u64 hw1
    have e : ((Z j).toNat : Int) = Z j := by omega
    refine ⟨show (Z j).toNat < _ by omega, g, off, h3, ?_⟩
    show _ = some (Value.int .u64 (((Z j).toNat : Nat) : Int))
    rw [e]
    exact h4
/-- What the list's datum tells of its rows. -/
def BtsD (d : DataW H) (L : List Bt) : Prop := L = [] ∨ ∃ el sp, d = .slice el sp ∧ el.length = L.length ∧ ∀ (i : Nat) (o : Bt), L[i]? = some o → ∃ d1, el[i]? = some (.agg [.lit (.int .i64 o.n), d1]) ∧ Long d1 o.k
theorem open_bts {fuel : Nat} {v : Value} {x : DataW H × List MemPlace} (hf : DataW.trod enc Tryd.prog w base spare held fuel 45 [v] = some x) :
    ∃ (ao : Option Addr) (cap : Nat) (L : List Bt), v = .slice ao L.length cap ∧ BtsOf w ao L ∧ BtsD x.1 L := by
  rcases DataW.trod_slice Tryd.underlying45 hf with ⟨hcs, _⟩ | ⟨a, len, cap, elems, rest, n, _, hcs, hx, hb, hl, hm, hlen, hel, -, -⟩
  · simp at hcs
    subst hcs
    exact ⟨none, 0, [], rfl, fun i o h => by simp at h, .inl rfl⟩
  · simp at hcs
    subst hcs
    have each : ∀ i, i < len → ∃ (o : Bt) (d1 : DataW H), w.cells? base (a.add (i * 2)) 2 = some [.int .i64 o.n, .slice o.ao o.k o.cap] ∧ (elems[i]?).map (·.1) = some (.agg [.lit (.int .i64 o.n), d1]) ∧ Long d1 o.k ∧ (Lit.int .i64 o.n).wf = true ∧ Wds w o.ao o.k o.X := by
      intro i hi
      have h := hel i hi
      rw [cellsBt, List.getElem?_eq_getElem (by omega), Option.bind_eq_some_iff] at h
      obtain ⟨cs, h1, h2⟩ := h
      obtain ⟨o, d1, rfl, ho, hlo, hw, hW⟩ := open_bit1 h2
      exact ⟨o, d1, h1, by rw [List.getElem?_eq_getElem (by omega)]; simp [ho], hlo, hw, hW⟩
    have key : ∀ k, k ≤ len → ∃ L : List Bt, L.length = k ∧ ∀ (i : Nat) (o : Bt), L[i]? = some o → w.cells? base (a.add (i * 2)) 2 = some [.int .i64 o.n, .slice o.ao o.k o.cap] ∧ (∃ d1, (elems[i]?).map (·.1) = some (.agg [.lit (.int .i64 o.n), d1]) ∧ Long d1 o.k) ∧ (Lit.int .i64 o.n).wf = true ∧ Wds w o.ao o.k o.X := by
      intro k
      induction k with
      | zero => exact fun _ => ⟨[], rfl, fun i o h => by simp at h⟩
      | succ k ih =>
        intro hk
        obtain ⟨L, hL, hall⟩ := ih (by omega)
        obtain ⟨o, d1, ho1, ho2, ho3, ho4, ho5⟩ := each k (by omega)
        refine ⟨L ++ [o], by simp [hL], fun i o' h => ?_⟩
        by_cases hi : i < k
        · rw [List.getElem?_append_left (by omega)] at h
          exact hall i o' h
        · have hi2 := (List.getElem?_eq_some_iff.1 h).1
          rw [List.length_append, List.length_cons, List.length_nil] at hi2
          obtain rfl : i = k := by omega
          rw [List.getElem?_append_right (by omega), hL] at h
          simp at h
          subst h
          exact ⟨ho1, ⟨d1, ho2, ho3⟩, ho4, ho5⟩
    obtain ⟨L, hL, hall⟩ := key len (Nat.le_refl _)
    refine ⟨some a, cap, L, by rw [hL], fun i o hi => ?_, .inr ⟨_, _, congrArg Prod.fst hx, ?_, ?_⟩⟩
    · obtain ⟨h1, -, hw, hW⟩ := hall i o hi
      have hc := World.cells?_some h1
      obtain ⟨b, off, spot⟩ := a
      have c0 := hc.2.2 0 (by decide)
      have c1 := hc.2.2 1 (by decide)
      have hspot : spot = none := by
        have hi2 := (List.getElem?_eq_some_iff.1 hi).1
        obtain ⟨o0, ho0⟩ : ∃ o0, L[0]? = some o0 := ⟨_, List.getElem?_eq_getElem (by omega)⟩
        have := World.cell?_spot ((World.cells?_some (hall 0 o0 ho0).1).2.2 0 (by decide))
        simpa [Addr.add] using this
      subst hspot
      have e : ∀ k, ((⟨b, off, none⟩ : Addr).add (i * 2)).add k = ⟨b, off + i * 2 + k, none⟩ := by
        intro k
        by_cases h : i * 2 = 0 <;> by_cases h' : k = 0 <;> simp [Addr.add, h, h']
      rw [e] at c0 c1
      exact ⟨hw, hW, b, off, rfl, cell_block c0, c0, c1⟩
    · rw [List.length_map, hL]
      omega
    · intro i o hi
      obtain ⟨-, ⟨d1, h2, h3⟩, -⟩ := hall i o hi
      refine ⟨d1, ?_, h3⟩
      rw [List.getElem?_map]
      exact h2
/-- Levels by value. -/
theorem open_levels {r : Reach} {b0 : Nat} {v : Value} {d : DataW H} {ps : List MemPlace} (hval : Value.okWide Tryd.prog w r b0 47 v) (hd : DataW.Trod enc Tryd.prog w base spare held 47 v d ps) :
    ∃ (lo1 : Option Addr) (c1 : Nat) (L1 : List Bt) (lo2 : Option Addr) (c2 : Nat) (L2 : List Bt) (d1 d2 : DataW H), v = .agg #[.slice lo1 L1.length c1, .slice lo2 L2.length c2] ∧ d = .agg [d1, d2] ∧ BtsOf w lo1 L1 ∧ BtsOf w lo2 L2 ∧ BtsD d1 L1 ∧ BtsD d2 L2 := by
  obtain ⟨cs, rfl, hs⟩ := okWide_strct Tryd.underlying47 hval
  obtain ⟨fuel, hf⟩ := hd
  obtain ⟨y0, y1, m, hx, hl, h0, h1⟩ := trod_struct2 Tryd.underlying47 hf
  rw [cellsLv] at hs hl
  obtain ⟨q0, q1, rfl⟩ : ∃ c0 c1, cs = #[c0, c1] := by
    obtain ⟨l⟩ := cs
    match l, hs with
    | [c0, c1], _ => exact ⟨c0, c1, rfl⟩
  have e0 : (((Value.agg #[q0, q1]).cells.toList.drop 0).take (Tryd.prog.cellsOf 45)) = [q0] := by rw [cellsLs]; rfl
  have e1 : (((Value.agg #[q0, q1]).cells.toList.drop 1).take (Tryd.prog.cellsOf 45)) = [q1] := by rw [cellsLs]; rfl
  have h0' : DataW.trod enc Tryd.prog w base spare held m 45 [q0] = some y0 := by rw [← e0]; exact h0
  have h1' : DataW.trod enc Tryd.prog w base spare held m 45 [q1] = some y1 := by rw [← e1]; exact h1
  obtain ⟨lo1, c1, L1, rfl, b1, g1⟩ := open_bts h0'
  obtain ⟨lo2, c2, L2, rfl, b2, g2⟩ := open_bts h1'
  refine ⟨lo1, c1, L1, lo2, c2, L2, y0.1, y1.1, rfl, ?_, b1, b2, g1, g2⟩
  have := congrArg Prod.fst hx
  simpa using this
/-- A span by value. -/
theorem open_span {r : Reach} {b0 : Nat} {v : Value} {d : DataW H} {ps : List MemPlace} (hval : Value.okWide Tryd.prog w r b0 49 v) (hd : DataW.Trod enc Tryd.prog w base spare held 49 v d ps) :
    ∃ (f t : Int), v = .agg #[.int .i64 f, .int .i64 t] ∧ (Lit.int .i64 f).wf = true ∧ (Lit.int .i64 t).wf = true := by
  obtain ⟨cs, rfl, hs⟩ := okWide_strct Tryd.underlying49 hval
  obtain ⟨fuel, hf⟩ := hd
  obtain ⟨y0, y1, m, hx, hl, h0, h1⟩ := trod_struct2 Tryd.underlying49 hf
  rw [cellsSp] at hs hl
  obtain ⟨q0, q1, rfl⟩ : ∃ c0 c1, cs = #[c0, c1] := by
    obtain ⟨l⟩ := cs
    match l, hs with
    | [c0, c1], _ => exact ⟨c0, c1, rfl⟩
  have e0 : (((Value.agg #[q0, q1]).cells.toList.drop 0).take (Tryd.prog.cellsOf 3)) = [q0] := by rw [cellsI]; rfl
  have e1 : (((Value.agg #[q0, q1]).cells.toList.drop 1).take (Tryd.prog.cellsOf 3)) = [q1] := by rw [cellsI]; rfl
  have h0' : DataW.trod enc Tryd.prog w base spare held m 3 [q0] = some y0 := by rw [← e0]; exact h0
  have h1' : DataW.trod enc Tryd.prog w base spare held m 3 [q1] = some y1 := by rw [← e1]; exact h1
  obtain ⟨f, hf, -, wf1⟩ := DataW.trod_int Tryd.underlying3 h0'
  obtain ⟨t, ht, -, wf2⟩ := DataW.trod_int Tryd.underlying3 h1'
  simp at hf ht
  subst hf ht
  exact ⟨f, t, rfl, wf1, wf2⟩
end
/-- What the second form's bound gives. -/
theorem bulk_bts {H : Type} {d : DataW H} {L : List Bt} (h : BtsD d L) : L.length ≤ Rows.uptoBulk d ∧ ∀ o ∈ L, o.k ≤ Rows.uptoBulk d := by
  rcases h with rfl | ⟨el, sp, rfl, hl, hall⟩
  · exact ⟨Nat.zero_le _, fun o h => by simp at h⟩
  · refine ⟨?_, fun o ho => ?_⟩
    · have := bulk_length el
      simp only [Rows.uptoBulk]
      omega
    · obtain ⟨i, hi⟩ := List.mem_iff_getElem?.1 ho
      obtain ⟨d1, h1, h2⟩ := hall i o hi
      have h3 := bulk_part (List.mem_of_getElem? h1)
      have h4 := bulk_long h2
      simp only [Rows.uptoBulk, Rows.uptoBulkAll] at h3 ⊢
      omega
theorem bulk_levels {H : Type} {l : List (DataW H)} (h : Rows.uptoBulkAll l ≤ 1048576) {d1 d2 : DataW H} {L1 L2 : List Bt} (hm : DataW.agg [d1, d2] ∈ l) (h1 : BtsD d1 L1) (h2 : BtsD d2 L2) : (L1.length ≤ 1048576 ∧ ∀ o ∈ L1, o.k ≤ 1048576) ∧ L2.length ≤ 1048576 ∧ ∀ o ∈ L2, o.k ≤ 1048576 := by
  have h3 := bulk_part hm
  simp only [Rows.uptoBulk, Rows.uptoBulkAll] at h3
  obtain ⟨a1, a2⟩ := bulk_bts h1
  obtain ⟨b1, b2⟩ := bulk_bts h2
  exact ⟨⟨by omega, fun o ho => by have := a2 o ho; omega⟩, by omega, fun o ho => by have := b2 o ho; omega⟩
end Go.Proofs.YtomeaejjdjidlaaDoor

/-
  Of LevelsWithin: what the reference's Within answers; lists of lent rows; what levels.within answers of them.
-/
namespace Go.Proofs.YtomeaejjdjidlaaDoor
open Go.RowKit Go.Shelf

/-- What a list of rows has of a level within a span. -/
def IsW (L : List Bt) (lv f t : Int) (R : List Nat) : Prop :=
  ((lv < 1 ∨ (L.length : Int) < lv) ∧ R = []) ∨ ∃ (i : Nat) (o : Bt) (N : Nat), lv = (i : Int) + 1 ∧ L[i]? = some o ∧ Eff o.n o.k o.X N ∧ R = fl (inW o.X f t) N
theorem isW_ex (L : List Bt) (lv f t : Int) : ∃ R, IsW L lv f t R := by
  by_cases h : lv < 1 ∨ (L.length : Int) < lv
  · exact ⟨[], .inl ⟨h, rfl⟩⟩
  · have hi : (lv - 1).toNat < L.length := by omega
    by_cases hf : formed (L[(lv - 1).toNat]'hi).n (L[(lv - 1).toNat]'hi).k (L[(lv - 1).toNat]'hi).X
    · exact ⟨_, .inr ⟨(lv - 1).toNat, _, _, by omega, List.getElem?_eq_getElem hi, .inl ⟨hf, rfl⟩, rfl⟩⟩
    · exact ⟨_, .inr ⟨(lv - 1).toNat, _, _, by omega, List.getElem?_eq_getElem hi, .inr ⟨hf, rfl⟩, rfl⟩⟩
/-- The places that lie in the span, of the first j ones. -/
def flp (X : Nat → Nat) (N : Nat) (f t : Int) (j : Nat) : List Nat := ((placesB X N).take j).filter (fun p => decide (f ≤ (p : Int)) && decide ((p : Int) < t))
theorem flp_all (X : Nat → Nat) (N : Nat) (f t : Int) : flp X N f t (cntB X N) = fl (inW X f t) N := by
  unfold flp fl placesB
  rw [List.take_of_length_le (by rw [show ((List.range N).filter (bitAt X)).length = cntB X N from placesB_len X N]; exact Nat.le_refl _), List.filter_filter]
  apply List.filter_congr
  intro p _
  unfold inW
  rw [Bool.and_comm]
theorem flp_next {X : Nat → Nat} {N j p : Nat} (f t : Int) (h : (placesB X N)[j]? = some p) : flp X N f t (j + 1) = flp X N f t j ++ if (decide (f ≤ (p : Int)) && decide ((p : Int) < t)) then [p] else [] := by
  unfold flp
  rw [List.take_add_one, h, List.filter_append]
  simp only [Option.toList_some, List.filter_cons, List.filter_nil]
theorem flp_len (X : Nat → Nat) (N : Nat) (f t : Int) (j : Nat) : (flp X N f t j).length ≤ j := by
  unfold flp
  refine Nat.le_trans (List.length_filter_le _ _) ?_
  rw [List.length_take]
  exact Nat.min_le_left _ _
theorem infoIL : (Tryd.prog.info? 3).map (fun i => (i.zero, i.size, i.bytes)) = some (some (.int .i64 0), 1, 8) := by kernel_rfl

set_option maxRecDepth 10000 in
set_option maxHeartbeats 4000000 in
theorem refWithin_calls (lo : Option Addr) (cap : Nat) (L : List Bt) (lv f t : Int) (R : List Nat) (hR : Hid (IsW L lv f t R)) (hL : L.length ≤ 1048576) (hk : ∀ o ∈ L, o.k ≤ 1048576) (w : World) (hB : BtsOf w lo L) :
    Calls Tryd.prog 23 #[.slice lo L.length cap, .int .i64 lv, .agg #[.int .i64 f, .int .i64 t]] w fun e w' => ∃ v, e = .returned v ∧ w'.ownsRow w.heap.size 3 1 v R.length (ints R) ∧ Below w.heap.size w w' := by
  rcases hR.out with ⟨h, rfl⟩ | ⟨i, o, N, rfl, ho, hE, rfl⟩
  · clear hB hk hR
    go_enter Tryd.func23, Tryd.ntmps23
    rcases h with h | h
    · go_wp2
      go_ret
      exact ⟨_, rfl, World.ownsRow_nil _ _ _ _, by repeat (first | with_reducible exact Below.refl _ _ | with_reducible refine Below.setCell ?_ (by first | (simp; done) | (simp; omega)) _ | with_reducible refine below_drewN ?_ _ | with_reducible refine Below.alloc ?_ (by first | (simp; done) | (simp; omega)) _ | with_reducible refine Below.drew ?_)⟩
    · have n1 : decide (lv < 1) = false := by simp; omega
      go_wp2
      go_ret
      exact ⟨_, rfl, World.ownsRow_nil _ _ _ _, by repeat (first | with_reducible exact Below.refl _ _ | with_reducible refine Below.setCell ?_ (by first | (simp; done) | (simp; omega)) _ | with_reducible refine below_drewN ?_ _ | with_reducible refine Below.alloc ?_ (by first | (simp; done) | (simp; omega)) _ | with_reducible refine Below.drew ?_)⟩
  · have hi := (List.getElem?_eq_some_iff.1 ho).1
    have hok := hk o (List.mem_of_getElem? ho)
    obtain ⟨b1, b2, g, off, rfl, hgl, k0, k1⟩ := hB i o ho
    have al := (Below.refl _ w).alloc (Nat.le_refl _) (.cells #[.int .i64 f, .int .i64 t] 49)
    have c0 : (w.alloc (.cells #[.int .i64 f, .int .i64 t] 49)).cell? ⟨g, off + i * 2, none⟩ = some (.int .i64 o.n) := (al.cell (p := ⟨g, off + i * 2, none⟩) hgl).trans k0
    have c1 : (w.alloc (.cells #[.int .i64 f, .int .i64 t] 49)).cell? ⟨g, off + i * 2 + 1, none⟩ = some (.slice o.ao o.k o.cap) := (al.cell (p := ⟨g, off + i * 2 + 1, none⟩) hgl).trans k1
    have hp := hid (refPlaces_calls o.n o.ao o.k o.cap o.X N b1 hok (hid hE) _ (b2.kept al))
    have a5 := hid (At.new w #[.int .i64 f, .int .i64 t] 49)
    have hBa := hid al
    have n1 : decide ((i : Int) + 1 < 1) = false := by simp; omega
    have n2 : decide ((L.length : Int) < (i : Int) + 1) = false := by simp; omega
    have hii : (i : Int) < (L.length : Int) := by omega
    have hli : (L.length : Int) ≤ 1048576 := by omega
    clear hB hk hR ho k0 k1 al b2 hE
    go_enter Tryd.func23, Tryd.ntmps23
    go_wp2_with fail
    refine Calls.mono hp.out ?_
    rintro e w1 ⟨⟨v, rfl, hown⟩, hN, hb⟩
    obtain ⟨vo, cp, rfl, hpl⟩ := plAt_of_row hown
    obtain ⟨C, hC⟩ : ∃ C, Hid (cntB o.X N = C) := ⟨_, rfl⟩
    have hCl : C ≤ 67108864 := by rw [← hC.out]; exact Nat.le_trans (cntB_le _ _) hN
    rw [hC.out]
    have hpl' := hid hpl
    have a51 := hid (a5.out.keptAll hb)
    have hB1 := hid (hBa.out.trans (hb.mono hBa.out.size))
    clear hp hown hb hpl c0 c1 n1 n2 a5 hBa
    go_wp2
    go_loopw [7, 9] (fun v ii wr => ∃ j : Nat, j ≤ C ∧ ii = .int .i64 (j : Int) ∧ Hid (wr.ownsRow w1.heap.size 3 1 v (flp o.X N f t j).length (ints (flp o.X N f t j))) ∧ Hid (Below w1.heap.size w1 wr)) (fun _ ii _ => C - (intOf ii).toNat)
    case atStart => exact ⟨0, Nat.zero_le _, rfl, hid (by simpa [flp, ints] using World.ownsRow_nil w1 w1.heap.size 3 1), hid (Below.refl _ _)⟩
    case round =>
      obtain ⟨j, hjC, rfl, hv, hbr⟩ := hrel
      by_cases hj : j < C
      · have hji : (j : Int) < (C : Int) := by omega
        obtain ⟨p, hp⟩ : ∃ p, (placesB o.X N)[j]? = some p := ⟨_, List.getElem?_eq_getElem (by rw [placesB_len, hC.out]; exact hj)⟩
        obtain ⟨hpN, gp, rfl, kp⟩ := hpl'.out j p hp
        have cp0 := (hbr.out.cell (p := ⟨gp, j, none⟩) (cell_block kp)).trans kp
        obtain ⟨cs0, cs1, -, -⟩ := (a51.out.keptAll hbr.out).factsL
        have hnx := hid (flp_next f t hp)
        have hpl2 : p ≤ 67108864 := by omega
        have hfl := hid (flp_len o.X N f t j)
        clear hp kp
        by_cases h1 : f ≤ (p : Int)
        · have d1 : decide (f ≤ (p : Int)) = true := by simp [h1]
          by_cases h2 : (p : Int) < t
          · have d2 : decide ((p : Int) < t) = true := by simp [h2]
            rw [d1, d2] at hnx
            go_wp2_with fail
            go_quiet (fail)
            have hb := hid (below_drewN (Below.refl wr.heap.size wr) nq)
            have hv2 := hid (rowz_kept hv.out hb.out)
            have hb2 := hid (hbr.out.trans (hb.out.mono hbr.out.size))
            have cp1 := (hb.out.cell (p := ⟨gp, j, none⟩) (cell_block cp0)).trans cp0
            obtain ⟨wd, ewd⟩ : ∃ x, wr.drewN nq = x := ⟨_, rfl⟩
            rw [ewd] at hv2 hb2 cp1 ⊢
            clear ewd hb cp0 cs0 cs1 hv
            obtain ⟨LL, hLL⟩ : ∃ LL, Hid ((flp o.X N f t j).length = LL) := ⟨_, rfl⟩
            rw [hLL.out] at hv2 hfl
            have hLLj : LL ≤ 67108864 := by have := hfl.out; omega
            have hz := hid hb2.out.size
            obtain ⟨i0, hi0, hz0, hz1, hz2⟩ := info_parts infoIL
            have hz0' := hid hz0
            have hz1' := hid hz1
            have hz2' := hid hz2
            have hi0' := hid hi0
            clear hz0 hz1 hz2 hi0
            go_wp2_with (first
              | (at_builtin; refine wpList_append_own _ rfl _ _ 23 rfl w1.heap.size 3 i0 (.int .i64 0) 1 8 Tryd.underlying23 hi0'.out hz0'.out hz1'.out hz2'.out rfl (by decide) _ _ _ rfl (World.ownsRow.alloc hv2.out _) ⟨wd.heap.size, 0, none⟩ 1 1 [.int .i64 (p : Int)] rfl rfl (fun j u hj => by match j, hj with | 0, hj => simp at hj; subst hj; simp [Addr.add]) (fun u hu => by simp at hu; subst hu; rfl) (by unfold maxLen; omega) (by omega) (by rw [World.size_alloc]; have := hz.out; omega) ?_)
              | go_in)
            intro v' w' hown1 hgrow _
            have hb3 := hid ((hb2.out.alloc hz.out (.cells #[.int .i64 (p : Int)] 3)).grown hgrow (by rw [World.size_alloc]; have := hz.out; omega) (fun b e => (hv2.out.lt b e).1))
            have hown2 : Hid (w'.ownsRow w1.heap.size 3 1 v' (flp o.X N f t (j + 1)).length (ints (flp o.X N f t (j + 1)))) := by
              rw [hnx.out, if_pos (by rfl), ints_snoc, List.length_append, hLL.out]
              exact hown1
            clear hown1 hgrow cp1
            go_wp2
            go_roundw
            case rel => exact ⟨j + 1, by omega, by simp, hown2, hb3⟩
            case measure => simp [intOf]; omega
          · have d2 : decide ((p : Int) < t) = false := by simp; omega
            rw [d1, d2] at hnx
            go_wp2_with fail
            go_quiet (fail)
            have hb := hid (below_drewN (Below.refl wr.heap.size wr) nq)
            have hv2 := hid (rowz_kept hv.out hb.out)
            have hb2 := hid (hbr.out.trans (hb.out.mono hbr.out.size))
            obtain ⟨wd, ewd⟩ : ∃ x, wr.drewN nq = x := ⟨_, rfl⟩
            rw [ewd] at hv2 hb2 ⊢
            clear ewd hb cp0 cs0 cs1
            go_wp2
            go_roundw
            case rel => exact ⟨j + 1, by omega, by simp, by rw [hnx.out]; simpa using hv2, hb2⟩
            case measure => simp [intOf]; omega
        · have d1 : decide (f ≤ (p : Int)) = false := by simp; omega
          rw [d1] at hnx
          go_wp2_with fail
          go_quiet (fail)
          have hb := hid (below_drewN (Below.refl wr.heap.size wr) nq)
          have hv2 := hid (rowz_kept hv.out hb.out)
          have hb2 := hid (hbr.out.trans (hb.out.mono hbr.out.size))
          obtain ⟨wd, ewd⟩ : ∃ x, wr.drewN nq = x := ⟨_, rfl⟩
          rw [ewd] at hv2 hb2 ⊢
          clear ewd hb cp0 cs0 cs1
          go_wp2
          go_roundw
          case rel => exact ⟨j + 1, by omega, by simp, by rw [hnx.out]; simpa using hv2, hb2⟩
          case measure => simp [intOf]; omega
      · obtain rfl : j = C := by omega
        have hfin : Hid (wr.ownsRow w.heap.size 3 1 u7 (fl (inW o.X f t) N).length (ints (fl (inW o.X f t) N))) := by
          have h1 := hv.out
          rw [← hC.out, flp_all] at h1
          exact rowz_base h1 hB1.out.size
        have hB2 := hid (hB1.out.trans (hbr.out.mono hB1.out.size))
        clear hv hbr
        go_wp2
        go_ret
        exact ⟨_, rfl, hfin.out, hB2.out⟩

/-- The cells of a list of lent rows. -/
def ltC (L : List Bt) (gs : List (Nat × Nat)) (i : Nat) : Value :=
  match L[i / 2]?, gs[i / 2]? with
  | some o, some p => if i % 2 = 0 then .int .i64 o.n else .slice (some ⟨p.1, 0, none⟩) o.k p.2
  | _, _ => undef
/-- The list v: the first j rows, each lent. -/
def LentL (W : World) (base : Nat) (v : Value) (L : List Bt) (j : Nat) : Prop :=
  ∃ gs : List (Nat × Nat), gs.length = j ∧ j ≤ L.length ∧ W.ownsRow base 34 2 v j (celL (j * 2) (ltC L gs)) ∧ ∀ (i : Nat) (o : Bt) (p : Nat × Nat), L[i]? = some o → gs[i]? = some p → LentB W p.1 p.2 o.k o.X
theorem infoLt : (Tryd.prog.info? 34).map (fun i => (i.zero, i.size, i.bytes)) = some (some (.agg #[.int .i64 0, .slice none 0 0]), 2, 32) := by kernel_rfl
section
variable {W W' : World} {base j : Nat} {v : Value} {L : List Bt}
theorem LentL.nil (W : World) (base : Nat) (L : List Bt) : LentL W base (.slice none 0 0) L 0 := ⟨[], rfl, Nat.zero_le _, by simpa [celL] using World.ownsRow_nil W base 34 2, fun i o p _ h => by simp at h⟩
theorem LentL.over (h : LentL W base v L j) (hA : ∀ b cs t, At W b cs t → t ≠ 47 → At W' b cs t) : LentL W' base v L j := by
  obtain ⟨gs, h1, h2, h3, h4⟩ := h
  refine ⟨gs, h1, h2, ⟨h3.1, ?_⟩, fun i o p ho hp => ?_⟩
  · rcases h3.2 with h5 | ⟨g, cap, cur, e, hb, hg, h6⟩
    · exact .inl h5
    · exact .inr ⟨g, cap, cur, e, hb, hA g cur _ hg (by decide), h6⟩
  · obtain ⟨cur, h5, h6⟩ := h4 i o p ho hp
    exact ⟨cur, hA _ _ _ h5 (by decide), h6⟩
theorem LentL.kept (h : LentL W base v L j) (hb : Below W.heap.size W W') : LentL W' base v L j := h.over (fun _ _ _ h1 _ => h1.keptAll hb)
theorem LentL.shape (h : LentL W base v L j) : ∃ so cap, v = .slice so j cap := by
  obtain ⟨gs, h1, h2, h3, h4⟩ := h
  rcases h3.2 with ⟨rfl, rfl⟩ | ⟨g, cap, cur, rfl, _⟩
  · exact ⟨_, _, rfl⟩
  · exact ⟨_, _, rfl⟩
theorem LentL.lt (h : LentL W base v L j) {g : Nat} (hg : v.ownBlock = some g) : base ≤ g ∧ g < W.heap.size := by
  obtain ⟨gs, h1, h2, h3, h4⟩ := h
  exact h3.lt g hg
/-- What isn't of the list's own type stays, when the list grows. -/
theorem LentL.apart (h : LentL W base v L j) (hg : W.grownBy W' v.ownBlock) {b : Nat} {cs : Array Value} {t : TypeId} (ha : At W b cs t) (ht : t ≠ 34) : At W' b cs t := by
  obtain ⟨gs, h1, h2, h3, h4⟩ := h
  refine ha.grow hg (fun e => ?_)
  rcases h3.2 with ⟨rfl, rfl⟩ | ⟨g, cap, cur, rfl, _, h5, _⟩
  · cases e
  · have e2 : g = b := Option.some.inj e
    subst e2
    have h6 : W.heap[g]? = some (.cells cs t) := ha
    rw [h5] at h6
    simp only [Option.some.injEq, Obj.cells.injEq] at h6
    exact ht h6.2.1.symm
theorem LentL.at (h : LentL W base v L j) {i : Nat} {o : Bt} (ho : L[i]? = some o) (hi : i < j) : ∃ G cap g c, v = .slice (some ⟨G, 0, none⟩) j cap ∧ G < W.heap.size ∧ W.cell? ⟨G, i * 2, none⟩ = some (.int .i64 o.n) ∧ W.cell? ⟨G, i * 2 + 1, none⟩ = some (.slice (some ⟨g, 0, none⟩) o.k c) ∧ LentB W g c o.k o.X := by
  obtain ⟨gs, h1, h2, h3, h4⟩ := h
  obtain ⟨p, hp⟩ : ∃ p, gs[i]? = some p := ⟨_, List.getElem?_eq_getElem (by omega)⟩
  obtain ⟨G, cap, cur, rfl, hb, hat, hc⟩ := rowz_new h3 (by omega)
  refine ⟨G, cap, p.1, p.2, rfl, hat.lt, ?_, ?_, h4 i o p ho hp⟩
  · rw [h3.cellAt (i * 2) (by omega), celL_get _ (by omega)]
    unfold ltC
    rw [show i * 2 / 2 = i by omega, ho, hp]
    simp
  · rw [h3.cellAt (i * 2 + 1) (by omega), celL_get _ (by omega)]
    unfold ltC
    rw [show (i * 2 + 1) / 2 = i by omega, ho, hp]
    simp
theorem ltC_app {L : List Bt} {gs : List (Nat × Nat)} {o : Bt} (g c : Nat) (ho : L[gs.length]? = some o) : celL (gs.length * 2) (ltC L gs) ++ [.int .i64 o.n, .slice (some ⟨g, 0, none⟩) o.k c] = celL ((gs.length + 1) * 2) (ltC L (gs ++ [(g, c)])) := by
  have e1 : celL (gs.length * 2) (ltC L gs) = celL (gs.length * 2) (ltC L (gs ++ [(g, c)])) := celL_congr (fun i hi => by
    unfold ltC
    rw [List.getElem?_append_left (by omega)])
  have e2 : [.int .i64 o.n, .slice (some ⟨g, 0, none⟩) o.k c] = celL 2 (fun r => ltC L (gs ++ [(g, c)]) (gs.length * 2 + r)) := by
    show _ = [ltC L (gs ++ [(g, c)]) (gs.length * 2), ltC L (gs ++ [(g, c)]) (gs.length * 2 + 1)]
    have h0 : (gs ++ [(g, c)])[gs.length]? = some (g, c) := by simp
    unfold ltC
    rw [show gs.length * 2 / 2 = gs.length by omega, show (gs.length * 2 + 1) / 2 = gs.length by omega, ho, h0]
    simp only []
    rw [if_pos (by omega), if_neg (by omega)]
  rw [e1, e2, celL_snoc, show gs.length * 2 + 2 = (gs.length + 1) * 2 by omega]
/-- One lent row more. -/
theorem LentL.app {ty : TypeId} {o : Bt} {g c : Nat} (h : LentL W base v L j) (ho : L[j]? = some o) (hl : LentB W g c o.k o.X) (ad : Addr) (c' : Nat) (hc0 : W.cell? (ad.add 0) = some (.int .i64 o.n)) (hc1 : W.cell? (ad.add 1) = some (.slice (some ⟨g, 0, none⟩) o.k c)) (hj : j ≤ 2000000) (hB : base ≤ W.heap.size) :
    ∃ v' W', (Builtin.append_ #[45, 45] ty #[v, .slice (some ad) 1 c']).run Tryd.prog W = .ok v' W' ∧ LentL W' base v' L (j + 1) ∧ W.grownBy W' v.ownBlock := by
  have h' := h
  obtain ⟨gs, rfl, h2, h3, h4⟩ := h
  obtain ⟨i0, hi, hz0, hz1, hz2⟩ := info_parts infoLt
  obtain ⟨v', W', hr, r1, r2⟩ := appendJ (P := Tryd.prog) (ty := ty) Tryd.underlying45 hi hz0 hz1 hz2 rfl (by decide) h3 ad 1 c' [.int .i64 o.n, .slice (some ⟨g, 0, none⟩) o.k c] rfl (fun j u hj => by
    match j, hj with
    | 0, hj => rw [hc0]; exact hj
    | 1, hj => rw [hc1]; exact hj) (fun u hu => by simp at hu; rcases hu with rfl | rfl <;> rfl) (by unfold maxLen; omega) (by omega) hB
  rw [ltC_app g c ho] at r1
  have hg : W.grownBy W' v.ownBlock := by
    rcases r2 with ⟨q, cap, rfl, rfl, h5⟩ | ⟨h5, h6⟩
    · exact h5
    · exact h6.but _
  refine ⟨v', W', hr, ⟨gs ++ [(g, c)], by simp, (List.getElem?_eq_some_iff.1 ho).1, r1, fun i o' p ho' hp => ?_⟩, hg⟩
  by_cases hi : i < gs.length
  · rw [List.getElem?_append_left hi] at hp
    obtain ⟨cur, h5, h6⟩ := h4 i o' p ho' hp
    exact ⟨cur, h'.apart hg h5 (by decide), h6⟩
  · have hi2 := (List.getElem?_eq_some_iff.1 hp).1
    rw [List.length_append, List.length_cons, List.length_nil] at hi2
    obtain rfl : i = gs.length := by omega
    rw [List.getElem?_append_right (by omega), Nat.sub_self] at hp
    simp at hp
    subst hp
    rw [ho] at ho'
    cases ho'
    obtain ⟨cur, h5, h6⟩ := hl
    exact ⟨cur, h'.apart hg h5 (by decide), h6⟩
/-- What levels.within answers of lent rows. -/
theorem withinL_calls (lv f t : Int) (R : List Nat) (hR : Hid (IsW L lv f t R)) (hf : (Lit.int .i64 f).wf = true) (ht : (Lit.int .i64 t).wf = true) (hL : L.length ≤ 1048576) (hk : ∀ o ∈ L, o.k ≤ 1048576 ∧ (Lit.int .i64 o.n).wf = true ∧ ∀ j, j < o.k → o.X j < 18446744073709551616) (w : World) (hT : Tab w) (h0 : 0 < w.heap.size) (hV : LentL w base v L L.length) (W : World) (hb : Below w.heap.size w W) :
    Calls Tryd.prog 37 #[v, .int .i64 lv, .agg #[.int .i64 f, .int .i64 t]] W fun e w' => ∃ v', e = .returned v' ∧ PlaW w R v' w' := by
  rcases hR.out with ⟨h, rfl⟩ | ⟨i, o, N, rfl, ho, hE, rfl⟩
  · obtain ⟨so, cap, rfl⟩ := hV.shape
    refine Calls.mono (within_off so L.length cap lv f t (by omega) h W) ?_
    rintro e w' ⟨rfl, hb2⟩
    exact ⟨_, rfl, World.ownsRow_nil _ _ _ _, hb.trans (hb2.mono hb.size)⟩
  · have hi := (List.getElem?_eq_some_iff.1 ho).1
    obtain ⟨k1, k2, k3⟩ := hk o (List.mem_of_getElem? ho)
    obtain ⟨G, cap, g, c, rfl, -, c0, c1, hl⟩ := (hV.kept hb).at ho hi
    have hkc : o.k ≤ c := by obtain ⟨cur, _, _, h, _⟩ := hl; omega
    refine Calls.mono (within_calls G L.length cap i f t o.n g o.k c o.X N (by omega) hi hf ht k2 (by omega) hkc (hid hE) W (hT.below hb h0) (by have := hb.size; omega) ⟨c0, c1⟩ (LentB.wds hl k3)) ?_
    rintro e w' ⟨v', rfl, hown, hb2⟩
    exact ⟨_, rfl, rowz_base hown hb.size, hb.trans (hb2.mono hb.size)⟩
end
/-- All but the variables of Levels is as it was. -/
def KeepL (A W : World) : Prop := A.heap.size ≤ W.heap.size ∧ ∀ b cs t, At A b cs t → t ≠ 47 → At W b cs t
section
variable {A W W' : World}
theorem KeepL.refl (A : World) : KeepL A A := ⟨Nat.le_refl _, fun _ _ _ h _ => h⟩
theorem KeepL.kept (h : KeepL A W) (hb : Below W.heap.size W W') : KeepL A W' := ⟨Nat.le_trans h.1 hb.size, fun b cs t h1 h2 => (h.2 b cs t h1 h2).keptAll hb⟩
theorem KeepL.grown (h : KeepL A W) {row : Option Nat} (hg : W.grownBy W' row) (hr : ∀ r, row = some r → A.heap.size ≤ r) : KeepL A W' := ⟨Nat.le_trans h.1 hg.size, fun b cs t h1 h2 => (h.2 b cs t h1 h2).grow hg (fun e => by have := hr b e; have := h1.lt; omega)⟩
theorem KeepL.put (h : KeepL A W) {b : Nat} {cs : Array Value} (hb : At W b cs 47) (i : Nat) (v : Value) : KeepL A (W.setCell ⟨b, i, none⟩ v) := ⟨by simpa using h.1, fun b' cs' t h1 h2 => (h.2 b' cs' t h1 h2).other (p := ⟨b, i, none⟩) (fun e => by
  have e2 : b' = b := e
  subst e2
  have h3 : W.heap[b']? = some (.cells cs' t) := h.2 b' cs' t h1 h2
  have h4 : W.heap[b']? = some (.cells cs 47) := hb
  rw [h3] at h4
  simp only [Option.some.injEq, Obj.cells.injEq] at h4
  exact h2 h4.2.1) v⟩
end
/-- The law's own variables: the Levels that came in, the span, the copies. -/
structure LwQ (w : World) (x y : Value) (f t : Int) (v u : Value) (W : World) : Prop where
  v3 : At W w.heap.size #[x, y] 47
  v5 : At W (w.heap.size + 1) #[.int .i64 f, .int .i64 t] 49
  v7 : At W (w.heap.size + 2) #[v, u] 47
  b : Below w.heap.size w W
section
variable {w W W' : World} {x y v u : Value} {f t : Int}
theorem LwQ.kept (h : LwQ w x y f t v u W) (hb : Below W.heap.size W W') : LwQ w x y f t v u W' := ⟨h.v3.keptAll hb, h.v5.keptAll hb, h.v7.keptAll hb, h.b.trans (hb.mono h.b.size)⟩
theorem LwQ.grown {base j : Nat} {L : List Bt} {z : Value} (h : LwQ w x y f t v u W) (hz : LentL W base z L j) (hg : W.grownBy W' z.ownBlock) (hb : w.heap.size ≤ base) : LwQ w x y f t v u W' := ⟨hz.apart hg h.v3 (by decide), hz.apart hg h.v5 (by decide), hz.apart hg h.v7 (by decide), h.b.grown hg h.b.size (fun r e => Nat.le_trans hb (hz.lt e).1)⟩
theorem LwQ.put0 (h : LwQ w x y f t v u W) (v' : Value) : LwQ w x y f t v' u (W.setCell ⟨w.heap.size + 2, 0, none⟩ v') := ⟨h.v3.other (p := ⟨w.heap.size + 2, 0, none⟩) (by show w.heap.size ≠ w.heap.size + 2; omega) _, h.v5.other (p := ⟨w.heap.size + 2, 0, none⟩) (by show w.heap.size + 1 ≠ w.heap.size + 2; omega) _, h.v7.set 0 v', h.b.setCell (p := ⟨w.heap.size + 2, 0, none⟩) (by show w.heap.size ≤ w.heap.size + 2; omega) _⟩
theorem LwQ.put1 (h : LwQ w x y f t v u W) (u' : Value) : LwQ w x y f t v u' (W.setCell ⟨w.heap.size + 2, 1, none⟩ u') := ⟨h.v3.other (p := ⟨w.heap.size + 2, 1, none⟩) (by show w.heap.size ≠ w.heap.size + 2; omega) _, h.v5.other (p := ⟨w.heap.size + 2, 1, none⟩) (by show w.heap.size + 1 ≠ w.heap.size + 2; omega) _, h.v7.set 1 u', h.b.setCell (p := ⟨w.heap.size + 2, 1, none⟩) (by show w.heap.size ≤ w.heap.size + 2; omega) _⟩
end
theorem wp_append_rowL {o : Oper} {a : Act} {w w' : World} {K : Act → World → Prop} {Q : Exit → Act → World → Prop} {x y : Operand} {v v' u : Value} (ho : o.op = .call { callee := .builtin .append, args := #[x, y], argTypes := #[45, 45] }) (hx : a.eval x = v) (hy : a.eval y = u)
    (hr : (Builtin.append_ #[45, 45] o.type #[v, u]).run Tryd.prog w = .ok v' w') (h : K (a.put o.dst v') w') : o.wp Tryd.prog a w K Q := by
  unfold Oper.wp execOp
  simp only [ho, resolve, invoke, builtin, Sem.run_bind, Sem.run_pure, Result.andThen_ok, List.map_toArray, List.map_cons, List.map_nil, hx, hy, hr]
  exact h
end Go.Proofs.YtomeaejjdjidlaaDoor
