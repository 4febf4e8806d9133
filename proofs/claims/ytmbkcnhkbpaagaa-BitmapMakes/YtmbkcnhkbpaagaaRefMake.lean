/-
  What quarryref04.Make answers.
-/
import Derived.Test.YtmbkcnhkbpaagaaRefOf
import Derived.Test.YtmbkcnhkbpaagaaMakeWalk
namespace Go.Proofs.Ytmbkcnhkbpaagaa
open Go.RowKit

/-- The truths as cells. -/
def boolCells (K : Nat) (G : Nat → Bool) : Array Value := ((List.range K).map fun j => Value.bool (G j)).toArray
theorem boolCells_size (K : Nat) (G : Nat → Bool) : (boolCells K G).size = K := by simp [boolCells]
theorem boolCells_get {K j : Nat} (G : Nat → Bool) (h : j < K) : (boolCells K G)[j]? = some (.bool (G j)) := by simp [boolCells, h]
theorem boolCells_set (K j : Nat) (x : Bool) (G : Nat → Bool) : (boolCells K G).setIfInBounds j (.bool x) = boolCells K (fun i => if i = j then x else G i) := by
  apply Array.ext_getElem?
  intro i
  by_cases hi : i < K
  · rw [boolCells_get _ hi]
    by_cases hij : i = j
    · subst hij
      rw [Array.getElem?_setIfInBounds_self_of_lt (by rw [boolCells_size]; exact hi)]
      simp
    · rw [Array.getElem?_setIfInBounds_ne (by omega), boolCells_get _ hi]
      simp [hij]
  · rw [Array.getElem?_eq_none (by simp [boolCells_size]; omega), Array.getElem?_eq_none (by rw [boolCells_size]; omega)]
theorem boolCells_congr {K : Nat} {G G' : Nat → Bool} (h : ∀ j, j < K → G j = G' j) : boolCells K G = boolCells K G' := by
  unfold boolCells
  congr 1
  apply List.map_congr_left
  intro j hj
  rw [h j (by simpa using hj)]
theorem boolCells_zero (K : Nat) : madeCells #[.bool false] K = boolCells K (fun _ => false) := by
  apply Array.ext_getElem?
  intro i
  by_cases hi : i < K
  · rw [boolCells_get _ hi]
    simp [madeCells, hi, Nat.mod_one]
  · rw [Array.getElem?_eq_none (by simp [madeCells]; omega), Array.getElem?_eq_none (by rw [boolCells_size]; omega)]
theorem infoB : (Try.prog.info? 4).map (fun i => (i.zero, i.size, i.bytes)) = some (some (.bool false), 1, 1) := by kernel_rfl
theorem make_bools (K : Nat) (hK : K ≤ 17592186044416) (u : World) : (Instr.makeSlice 43 (.int .i64 (K : Int)) (.int .i64 (K : Int))).run Try.prog u =
    .ok (.slice (some ⟨u.heap.size, 0, none⟩) K K) (u.alloc (.cells (boolCells K (fun _ => false)) 4)) := by
  obtain ⟨i0, hi, hz0, hz1, hz2⟩ := info_parts infoB
  have h := run_make (P := Try.prog) u 43 4 i0 (.bool false) Try.underlying43 hi hz0 .i64 .i64 (K : Int) (K : Int) (by omega) (Int.le_refl _) (by rw [hz2]; omega) (by omega)
  rw [Int.toNat_natCast] at h
  rw [h, ← boolCells_zero]
  simp [hz1, Value.cells]
theorem At.bls {w : World} {g K : Nat} {G : Nat → Bool} {t : TypeId} (h : At w g (boolCells K G) t) : Bls w (some ⟨g, 0, none⟩) K G := fun j hj => by
  refine ⟨g, 0, rfl, ?_⟩
  rw [Nat.zero_add, h.cell j, boolCells_get G hj]

/-- What the document's Make answers. -/
def RefMade (w : World) (n : Int) (k : Nat) (Z : Nat → Int) (e : Ending) (w' : World) : Prop :=
  Below w.heap.size w w' ∧ ((¬ good n k Z ∧ e = .returned (.tuple #[bv 0 none 0 0, .int .i64 2])) ∨
    (good n k Z ∧ ∃ v, w'.ownsRow w.heap.size 30 1 v (need n.toNat) (wl (rowOf (setTo Z k) n.toNat) (need n.toNat)) ∧ e = .returned (.tuple #[.agg #[.int .i64 n, v], .int .i64 0])))

set_option maxRecDepth 10000 in
set_option maxHeartbeats 4000000 in
theorem refMake_calls (n : Int) (ao : Option Addr) (k cap : Nat) (Z : Nat → Int) (hn : (Lit.int .i64 n).wf = true) (hk : k ≤ 17592186044416) (w : World) (hW : Nums w ao k Z) :
    Calls Try.prog 11 #[.int .i64 n, .slice ao k cap] w fun e w' => RefMade w n k Z e w' := by
  obtain ⟨hn1, hn2⟩ := wf_i64 hn
  clear hn
  go_enter Try.func11, Try.ntmps11
  by_cases h0 : n < 0
  · have hbad : Hid (¬ good n k Z) := fun h => by have := h.1; omega
    clear hW
    go_wp2
    exact ret_bits2 rfl rfl (At.new w _ _) rfl ⟨by repeat (first | with_reducible exact Below.refl _ _ | with_reducible refine Below.setCell ?_ (by first | (simp; done) | (simp; omega)) _ | with_reducible refine below_drewN ?_ _ | with_reducible refine Below.alloc ?_ (by first | (simp; done) | (simp; omega)) _ | with_reducible refine Below.drew ?_), .inl ⟨hbad.out, rfl⟩⟩
  · obtain ⟨N, rfl⟩ := Int.eq_ofNat_of_zero_le (show 0 ≤ n by omega)
    by_cases h1 : N ≤ 16777216
    · have hmk := fun u => make_bools N (by omega) u
      have e1 : decide ((16777216 : Int) < (N : Int)) = false := by simp; omega
      clear hn1 hn2 h0
      go_wp2
      go_loopw [6] (fun ii wr => ∃ m : Nat, m ≤ k ∧ ii = .int .i64 (m : Int) ∧ Hid (∀ t, t < m → 0 ≤ Z t ∧ Z t < N) ∧ At wr w.heap.size #[.int .i64 0, .slice none 0 0] 24 ∧ Below w.heap.size w wr) (fun ii _ => k - (intOf ii).toNat)
      case atStart => exact ⟨0, Nat.zero_le _, rfl, fun t ht => by omega, At.new w _ _, by repeat (first | with_reducible exact Below.refl _ _ | with_reducible refine Below.setCell ?_ (by first | (simp; done) | (simp; omega)) _ | with_reducible refine below_drewN ?_ _ | with_reducible refine Below.alloc ?_ (by first | (simp; done) | (simp; omega)) _ | with_reducible refine Below.drew ?_)⟩
      case round =>
        obtain ⟨m, hm, rfl, hgood, a1, hb⟩ := hrel
        obtain ⟨c0, c1, f0, f1⟩ := a1.facts
        have a1' : Hid (At wr w.heap.size #[.int .i64 0, .slice none 0 0] 24) := a1
        clear a1
        by_cases hlt : m < k
        · obtain ⟨hwf, g, off, rfl, hcell⟩ := hW m hlt
          have hg := cell_block hcell
          have d1 := (hb.cell (p := ⟨g, off + m, none⟩) hg).trans hcell
          obtain ⟨z, hz⟩ : ∃ z, Hid (Z m = z) := ⟨_, rfl⟩
          rw [hz.out] at d1 hwf
          obtain ⟨z1, z2⟩ := wf_i64 hwf
          clear hW hcell hwf hmk
          by_cases hz0 : z < 0
          · have hbad : Hid (¬ good N k Z) := fun h => by have := (h.2.2 m hlt).1; rw [hz.out] at this; omega
            go_wp2
            exact ret_bits2 rfl rfl a1'.out.two rfl ⟨(hb.setCell (p := ⟨w.heap.size, 0, none⟩) (Nat.le_refl _) _).setCell (p := ⟨w.heap.size, 1, none⟩) (Nat.le_refl _) _, .inl ⟨hbad.out, rfl⟩⟩
          · obtain ⟨P, rfl⟩ := Int.eq_ofNat_of_zero_le (show 0 ≤ z by omega)
            by_cases hzN : P < N
            · clear z1 z2 hz0
              go_wp2
              go_roundw
              case rel =>
                refine ⟨m + 1, by omega, by simp, fun t ht => ?_, a1'.out, hb⟩
                by_cases htm : t = m
                · rw [htm, hz.out]; omega
                · exact hgood.out t (by omega)
              case measure => simp [intOf]; omega
            · have hbad : Hid (¬ good N k Z) := fun h => by have := (h.2.2 m hlt).2; rw [hz.out] at this; omega
              clear z1 z2
              go_wp2
              exact ret_bits2 rfl rfl a1'.out.two rfl ⟨(hb.setCell (p := ⟨w.heap.size, 0, none⟩) (Nat.le_refl _) _).setCell (p := ⟨w.heap.size, 1, none⟩) (Nat.le_refl _) _, .inl ⟨hbad.out, rfl⟩⟩
        · obtain rfl : m = k := by omega
          have hgd : Hid (good N m Z) := ⟨by omega, by omega, hgood.out⟩
          have hlt1 := a1'.out.lt
          clear c0 c1 f0 f1 hlt hm
          obtain ⟨W0, rfl⟩ : ∃ W0, W0 = wr := ⟨_, rfl⟩
          go_wp2
          go_loopw [8] (fun ii wx => ∃ t : Nat, t ≤ m ∧ ii = .int .i64 (t : Int) ∧ At wx w.heap.size #[.int .i64 0, .slice none 0 0] 24 ∧ At wx W0.heap.size (boolCells N (setTo Z t)) 4 ∧ Below w.heap.size w wx) (fun ii _ => m - (intOf ii).toNat)
          case atStart =>
            refine ⟨0, Nat.zero_le _, rfl, a1'.out.alloc _, ?_, hb.alloc hb.size _⟩
            exact At.new W0 (boolCells N (fun _ => false)) 4
          case round =>
            obtain ⟨t, ht, rfl, b1, b2, hb2⟩ := hrel
            have hsz := hb.size
            by_cases hlt : t < m
            · obtain ⟨hwf, g, off, rfl, hcell⟩ := hW t hlt
              have hg := cell_block hcell
              have d1 := (hb2.cell (p := ⟨g, off + t, none⟩) hg).trans hcell
              obtain ⟨z, hz⟩ : ∃ z, Hid (Z t = z) := ⟨_, rfl⟩
              rw [hz.out] at d1
              obtain ⟨P, rfl⟩ := Int.eq_ofNat_of_zero_le (show 0 ≤ z by have := (hgood.out t hlt).1; rw [hz.out] at this; exact this)
              have hPN : P < N := by have := (hgood.out t hlt).2; rw [hz.out] at this; omega
              have d2 := b2.cell P
              rw [boolCells_get _ hPN] at d2
              have f2 := b2.frozen P
              have b1' : Hid (At wr w.heap.size #[.int .i64 0, .slice none 0 0] 24) := b1
              have b2' : Hid (At wr W0.heap.size (boolCells N (setTo Z t)) 4) := b2
              clear b1 b2 hW hcell hwf hmk
              go_wp2
              go_roundw
              case rel =>
                refine ⟨t + 1, by omega, by simp, b1'.out.other (p := ⟨W0.heap.size, P, none⟩) (by show w.heap.size ≠ W0.heap.size; omega) _, ?_, hb2.setCell (p := ⟨W0.heap.size, P, none⟩) (by show w.heap.size ≤ W0.heap.size; omega) _⟩
                have h1 := b2'.out.set P (.bool true)
                rw [boolCells_set] at h1
                rw [show boolCells N (setTo Z (t + 1)) = boolCells N (fun i => if i = P then true else setTo Z t i) from boolCells_congr (fun j _ => by
                  rw [setTo, hz.out]
                  by_cases hj : j = P
                  · rw [if_pos hj, decide_eq_true (by omega)]; simp
                  · rw [if_neg hj, decide_eq_false (by omega)]; simp)]
                exact h1
              case measure => simp [intOf]; omega
            · obtain rfl : t = m := by omega
              have b1' : Hid (At wr w.heap.size #[.int .i64 0, .slice none 0 0] 24) := b1
              have hcall : Hid _ := of_calls (some ⟨W0.heap.size, 0, none⟩) N N (setTo Z t) (by omega) wr b2.bls
              clear b1 b2 hW hmk
              go_wp2_with fail
              refine Calls.mono hcall.out ?_
              rintro e w2 ⟨v, rfl, hown, hb3⟩
              have a3 := b1'.out.keptAll hb3
              have hb4 : Below w.heap.size w w2 := hb2.trans (hb3.mono hb2.size)
              obtain ⟨c0, c1, f0, f1⟩ := a3.facts
              have a3' : Hid (At w2 w.heap.size #[.int .i64 0, .slice none 0 0] 24) := a3
              obtain ⟨vo, vc, rfl⟩ := row_slice hown
              have hown' : Hid (w2.ownsRow wr.heap.size 30 1 (.slice vo (need N) vc) (need N) (wl (rowOf (setTo Z t) N) (need N))) := hown
              clear a3 hown hcall hb3
              go_wp2
              have hs2 := hb2.size
              have hsz2 := b1'.out.lt
              refine ret_bits2 rfl rfl a3'.out.two rfl ⟨(hb4.setCell (p := ⟨w.heap.size, 0, none⟩) (Nat.le_refl _) _).setCell (p := ⟨w.heap.size, 1, none⟩) (Nat.le_refl _) _, .inr ⟨hgd.out, .slice vo (need N) vc, ?_, rfl⟩⟩
              rw [show ((N : Nat) : Int).toNat = N by simp]
              exact row_base (row_other (row_other hown'.out (p := ⟨w.heap.size, 0, none⟩) (by show w.heap.size < wr.heap.size; omega) _) (p := ⟨w.heap.size, 1, none⟩) (by show w.heap.size < wr.heap.size; omega) _) (by omega)
    · have hbad : Hid (¬ good N k Z) := fun h => by have := h.2.1; omega
      have e1 : decide ((16777216 : Int) < (N : Int)) = true := by simp; omega
      clear hW h1 h0 hn1 hn2
      go_wp2
      exact ret_bits2 rfl rfl (At.new w _ _) rfl ⟨by repeat (first | with_reducible exact Below.refl _ _ | with_reducible refine Below.setCell ?_ (by first | (simp; done) | (simp; omega)) _ | with_reducible refine below_drewN ?_ _ | with_reducible refine Below.alloc ?_ (by first | (simp; done) | (simp; omega)) _ | with_reducible refine Below.drew ?_), .inl ⟨hbad.out, rfl⟩⟩
end Go.Proofs.Ytmbkcnhkbpaagaa
