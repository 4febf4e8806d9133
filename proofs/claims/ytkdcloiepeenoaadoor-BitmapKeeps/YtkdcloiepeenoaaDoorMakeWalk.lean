/-
  What bitmap.Make answers.
-/
import Derived.Test.YtkdcloiepeenoaaDoorBitsB
namespace Go.Proofs.YtkdcloiepeenoaaDoor
open Go.RowKit

/-- The places may be set in a row of so many bits. -/
def good (n : Int) (k : Nat) (Z : Nat → Int) : Prop := 0 ≤ n ∧ n ≤ 16777216 ∧ ∀ t, t < k → 0 ≤ Z t ∧ Z t < n
theorem or_pow {x r : Nat} (hx : x < 18446744073709551616) (hr : r < 64) : bits BinOp.or IntKind.u64 (x : Int) (IntKind.u64.wrap ((2 : Int) ^ r)) = ((x ||| 2 ^ r : Nat) : Int) := by
  rw [(put_bit (X := 0) (Nat.pow_pos (by decide)) hr).1]
  exact u64_or_nat x (2 ^ r) hx (by have := Nat.pow_lt_pow_right (a := 2) (by decide) hr; omega)

/-- What Make answers: the row, or a refusal. -/
def Made (w : World) (n : Int) (k : Nat) (Z : Nat → Int) (e : Ending) (w' : World) : Prop :=
  Below w.heap.size w w' ∧ ((¬ good n k Z ∧ e = .returned (.tuple #[bv 0 none 0 0, .int .i64 2])) ∨
    (good n k Z ∧ ∃ g K, Hid (K = need n.toNat) ∧ w.heap.size ≤ g ∧ At w' g (rowCells K (rowOf (setTo Z k) n.toNat)) 39 ∧ e = .returned (.tuple #[bv n (some ⟨g, 0, none⟩) K K, .int .i64 0])))

set_option maxRecDepth 10000 in
set_option maxHeartbeats 2000000 in
theorem make_calls (n : Int) (ao : Option Addr) (k cap : Nat) (Z : Nat → Int) (hn : (Lit.int .i64 n).wf = true) (hk : k ≤ 17592186044416) (w : World) (hW : Nums w ao k Z) :
    Calls Tryd.prog 12 #[.int .i64 n, .slice ao k cap] w fun e w' => Made w n k Z e w' := by
  obtain ⟨hn1, hn2⟩ := wf_i64 hn
  clear hn
  go_enter Tryd.func12, Tryd.ntmps12
  by_cases h0 : n < 0
  · have hbad : Hid (¬ good n k Z) := fun h => by have := h.1; omega
    clear hW
    go_wp2
    refine ret_bits2 rfl rfl (At.new w _ _) rfl ⟨by repeat (first | with_reducible exact Below.refl _ _ | with_reducible refine Below.setCell ?_ (by first | (simp; done) | (simp; omega)) _ | with_reducible refine below_drewN ?_ _ | with_reducible refine Below.alloc ?_ (by first | (simp; done) | (simp; omega)) _ | with_reducible refine Below.drew ?_), .inl ⟨hbad.out, rfl⟩⟩
  · obtain ⟨N, rfl⟩ := Int.eq_ofNat_of_zero_le (show 0 ≤ n by omega)
    by_cases h1 : N ≤ 16777216
    · obtain ⟨K, hK⟩ : ∃ K, Hid (need N = K) := ⟨_, rfl⟩
      have hKl : K ≤ 262144 := by have := hK.out; unfold need at this; omega
      have hneed := fun w => needed_calls N K (by omega) hK w
      have hneed' : Hid _ := hneed
      have hmk := fun u => make_row K (by omega) u
      have e1 : decide ((16777216 : Int) < (N : Int)) = false := by simp; omega
      clear hneed hn1 hn2 h0
      go_wp2_with fail
      refine (hneed'.out _).mono ?_
      rintro e w' ⟨rfl, rfl⟩
      go_wp2
      go_loopw [8, 21] (fun _ ii wr => ∃ m : Nat, m ≤ k ∧ ii = .int .i64 (m : Int) ∧ Hid (∀ t, t < m → 0 ≤ Z t ∧ Z t < N) ∧ At wr w.heap.size #[.int .i64 0, .slice none 0 0] 24 ∧ At wr (w.heap.size + 1) (rowCells K (rowOf (setTo Z m) N)) 39 ∧ Below w.heap.size w wr) (fun _ ii _ => k - (intOf ii).toNat)
      case atStart =>
        refine ⟨0, Nat.zero_le _, rfl, fun t ht => by omega, (At.new w _ _).alloc _, ?_, by repeat (first | with_reducible exact Below.refl _ _ | with_reducible refine Below.setCell ?_ (by first | (simp; done) | (simp; omega)) _ | with_reducible refine below_drewN ?_ _ | with_reducible refine Below.alloc ?_ (by first | (simp; done) | (simp; omega)) _ | with_reducible refine Below.drew ?_)⟩
        have := At.new (w.alloc (.cells #[.int .i64 0, .slice none 0 0] 24)) (rowCells K (fun _ => 0)) 39
        rw [show rowCells K (rowOf (setTo Z 0) N) = rowCells K (fun _ => 0) from rowCells_congr (fun j _ => rowOf_none Z N j)]
        simpa using this
      case round =>
        obtain ⟨m, hm, rfl, hgood, a1, a2, hb⟩ := hrel
        by_cases hlt : m < k
        · obtain ⟨hwf, g, off, rfl, hcell⟩ := hW m hlt
          have hg := cell_block hcell
          have d1 := (hb.cell (p := ⟨g, off + m, none⟩) hg).trans hcell
          obtain ⟨z, hz⟩ : ∃ z, Hid (Z m = z) := ⟨_, rfl⟩
          rw [hz.out] at d1 hwf
          obtain ⟨z1, z2⟩ := wf_i64 hwf
          obtain ⟨c0, c1, f0, f1⟩ := a1.facts
          have a1' : Hid (At wr w.heap.size #[.int .i64 0, .slice none 0 0] 24) := a1
          have a2' : Hid (At wr (w.heap.size + 1) (rowCells K (rowOf (setTo Z m) N)) 39) := a2
          clear a1 a2 hW hcell hwf
          by_cases hz0 : z < 0
          · have hbad : Hid (¬ good N k Z) := fun h => by have := (h.2.2 m hlt).1; rw [hz.out] at this; omega
            clear hneed' hmk
            go_wp2
            exact ret_bits2 rfl rfl a1'.out.two rfl ⟨(hb.setCell (p := ⟨w.heap.size, 0, none⟩) (Nat.le_refl _) _).setCell (p := ⟨w.heap.size, 1, none⟩) (Nat.le_refl _) _, .inl ⟨hbad.out, rfl⟩⟩
          · obtain ⟨P, rfl⟩ := Int.eq_ofNat_of_zero_le (show 0 ≤ z by omega)
            by_cases hzN : P < N
            · clear hneed' hmk z1 z2 hz0
              obtain ⟨J, hJ⟩ : ∃ J, Hid (P / 64 = J) := ⟨_, rfl⟩
              obtain ⟨R, hR⟩ : ∃ R, Hid (P % 64 = R) := ⟨_, rfl⟩
              have hJK : J < K := by have := hJ.out; have := hK.out; unfold need at this; omega
              have hR64 : R < 64 := by have := hR.out; omega
              have e2 : (P : Int) / 64 = (J : Int) := by have := hJ.out; omega
              have e3 : (P : Int) % 64 = (R : Int) := by have := hR.out; omega
              obtain ⟨y, hy⟩ : ∃ y, Hid (rowOf (setTo Z m) N J = y) := ⟨_, rfl⟩
              have hyl : y < 18446744073709551616 := hy.out ▸ rowOf_lt _ _ _
              have d2 := a2'.out.cell J
              rw [rowCells_get _ hJK, hy.out] at d2
              have f2 := a2'.out.frozen J
              have e4 := or_pow hyl hR64
              clear c0 c1 f0 f1
              go_wp2
              go_region
              all_goals go_wp2
              all_goals go_roundw
              all_goals first
                | (simp [intOf]; omega; done)
                | (refine ⟨m + 1, by omega, by simp, ?_, ?_, ?_, ?_⟩
                   · intro t ht
                     by_cases htm : t = m
                     · rw [htm, hz.out]; omega
                     · exact hgood.out t (by omega)
                   · exact a1'.out.other (p := ⟨w.heap.size + 1, J, none⟩) (by show w.heap.size ≠ w.heap.size + 1; omega) _
                   · have h1 := a2'.out.set J (.int .u64 ((y ||| 2 ^ R : Nat) : Int))
                     rw [rowCells_set] at h1
                     rw [show rowCells K (rowOf (setTo Z (m + 1)) N) = rowCells K (fun i => if i = J then y ||| 2 ^ R else rowOf (setTo Z m) N i) from
                       rowCells_congr (fun j _ => by rw [rowOf_next hz.out hzN j, hJ.out, hR.out, hy.out])]
                     exact h1
                   · first
                     | exact hb.setCell (p := ⟨w.heap.size + 1, J, none⟩) (by show w.heap.size ≤ w.heap.size + 1; omega) _
                     | exact Below.drew (hb.setCell (p := ⟨w.heap.size + 1, J, none⟩) (by show w.heap.size ≤ w.heap.size + 1; omega) _)
                     | exact (Below.drew hb).setCell (p := ⟨w.heap.size + 1, J, none⟩) (by show w.heap.size ≤ w.heap.size + 1; omega) _)
            · have hbad : Hid (¬ good N k Z) := fun h => by have := (h.2.2 m hlt).2; rw [hz.out] at this; omega
              clear hneed' hmk z1 z2
              go_wp2
              exact ret_bits2 rfl rfl a1'.out.two rfl ⟨(hb.setCell (p := ⟨w.heap.size, 0, none⟩) (Nat.le_refl _) _).setCell (p := ⟨w.heap.size, 1, none⟩) (Nat.le_refl _) _, .inl ⟨hbad.out, rfl⟩⟩
        · obtain rfl : m = k := by omega
          obtain ⟨c0, c1, f0, f1⟩ := a1.facts
          have a1' : Hid (At wr w.heap.size #[.int .i64 0, .slice none 0 0] 24) := a1
          have a2' : Hid (At wr (w.heap.size + 1) (rowCells K (rowOf (setTo Z m) N)) 39) := a2
          have hg : Hid (good N m Z) := ⟨by omega, by omega, hgood.out⟩
          clear a1 a2 hW hneed' hmk hgood
          go_wp2
          refine ret_bits2 rfl rfl a1'.out.two rfl ⟨(hb.setCell (p := ⟨w.heap.size, 0, none⟩) (Nat.le_refl _) _).setCell (p := ⟨w.heap.size, 1, none⟩) (Nat.le_refl _) _, .inr ⟨hg.out, w.heap.size + 1, K, by show _ = _; rw [← hK.out]; simp, by omega, ?_, rfl⟩⟩
          rw [show ((N : Nat) : Int).toNat = N by simp]
          exact (a2'.out.other (p := ⟨w.heap.size, 0, none⟩) (by show w.heap.size + 1 ≠ w.heap.size; omega) _).other (p := ⟨w.heap.size, 1, none⟩) (by show w.heap.size + 1 ≠ w.heap.size; omega) _
    · have hbad : Hid (¬ good N k Z) := fun h => by have := h.2.1; omega
      have e1 : decide ((16777216 : Int) < (N : Int)) = true := by simp; omega
      clear hW h1 h0 hn1 hn2
      go_wp2
      refine ret_bits2 rfl rfl (At.new w _ _) rfl ⟨by repeat (first | with_reducible exact Below.refl _ _ | with_reducible refine Below.setCell ?_ (by first | (simp; done) | (simp; omega)) _ | with_reducible refine below_drewN ?_ _ | with_reducible refine Below.alloc ?_ (by first | (simp; done) | (simp; omega)) _ | with_reducible refine Below.drew ?_), .inl ⟨hbad.out, rfl⟩⟩
end Go.Proofs.YtkdcloiepeenoaaDoor
