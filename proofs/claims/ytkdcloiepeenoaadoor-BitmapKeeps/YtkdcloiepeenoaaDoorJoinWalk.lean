/-
  What bitmap.joined, And, Or, Xor and Minus answer.
-/
import Derived.Test.YtkdcloiepeenoaaDoorBitsB
namespace Go.Proofs.YtkdcloiepeenoaaDoor
open Go.RowKit

theorem formedB (n : Int) (k : Nat) (X : Nat → Nat) : ∃ B : Bool, Hid (formed n k X ↔ B = true) := by
  by_cases h : formed n k X
  · exact ⟨true, ⟨fun _ => rfl, fun _ => h⟩⟩
  · exact ⟨false, ⟨fun h' => (h h').elim, fun h' => by cases h'⟩⟩

/-- What a call that puts two rows together answers. -/
def Joined (o : Nat → Nat → Nat) (n m : Int) (k l : Nat) (X Y : Nat → Nat) (w : World) (e : Ending) (w' : World) : Prop :=
  Below w.heap.size w w' ∧
    ((¬ (formed n k X ∧ formed m l Y) ∧ e = .returned (.tuple #[bv 0 none 0 0, .int .i64 1])) ∨
     ((formed n k X ∧ formed m l Y) ∧ n ≠ m ∧ e = .returned (.tuple #[bv 0 none 0 0, .int .i64 2])) ∨
     ((formed n k X ∧ formed m l Y) ∧ n = m ∧ ∃ g, w.heap.size ≤ g ∧ At w' g (rowCells k (fun j => o (X j) (Y j))) 39 ∧ e = .returned (.tuple #[bv n (some ⟨g, 0, none⟩) k k, .int .i64 0])))

/-- The function that is handed in puts two words together. -/
def Puts (gf : Nat) (o : Nat → Nat → Nat) : Prop := (∀ args w, (callFunc gf args).run Tryd.prog w = .ok (.enter gf args) w) ∧
  ∀ (x y : Nat) (w : World), x < 18446744073709551616 → y < 18446744073709551616 → Calls Tryd.prog gf #[.int .u64 (x : Int), .int .u64 (y : Int)] w fun e w' => e = .returned (.int .u64 ((o x y : Nat) : Int)) ∧ w' = w

set_option maxRecDepth 10000 in
set_option maxHeartbeats 4000000 in
theorem joined_calls (gf : Nat) (o : Nat → Nat → Nat) (hgf : Puts gf o) (n m : Int) (ao bo : Option Addr) (k l cap cap' : Nat) (X Y : Nat → Nat) (hn : (Lit.int .i64 n).wf = true) (hm : (Lit.int .i64 m).wf = true) (hk : k ≤ 17592186044416) (hl : l ≤ 17592186044416)
    (w : World) (hW : Wds w ao k X) (hV : Wds w bo l Y) :
    Calls Tryd.prog 32 #[bv n ao k cap, bv m bo l cap', .func (.func gf) #[] #[]] w fun e w' => Joined o n m k l X Y w e w' := by
  obtain ⟨hn1, hn2⟩ := wf_i64 hn
  obtain ⟨hm1, hm2⟩ := wf_i64 hm
  obtain ⟨FA, hFA⟩ := formedB n k X
  obtain ⟨FB, hFB⟩ := formedB m l Y
  have hfa : Hid _ := fun (w1 : World) (hb : Below w.heap.size w w1) => formed_calls n ao k cap X FA hn hk hFA w1 (hW.kept hb)
  have hfb : Hid _ := fun (w1 : World) (hb : Below w.heap.size w w1) => formed_calls m bo l cap' Y FB hm hl hFB w1 (hV.kept hb)
  have hmk := fun u => make_row k hk u
  clear hn hm
  go_enter Tryd.func32, Tryd.ntmps32
  have A3 : At (((w.alloc (.cells #[.int .i64 n, .slice ao k cap] 24)).alloc (.cells #[.int .i64 m, .slice bo l cap'] 24)).alloc (.cells #[.int .i64 0, .slice none 0 0] 24)) (w.heap.size + 2) #[.int .i64 0, .slice none 0 0] 24 := by
    have := At.new ((w.alloc (.cells #[.int .i64 n, .slice ao k cap] 24)).alloc (.cells #[.int .i64 m, .slice bo l cap'] 24)) #[.int .i64 0, .slice none 0 0] 24
    simpa using this
  have A2 : At (((w.alloc (.cells #[.int .i64 n, .slice ao k cap] 24)).alloc (.cells #[.int .i64 m, .slice bo l cap'] 24)).alloc (.cells #[.int .i64 0, .slice none 0 0] 24)) (w.heap.size + 1) #[.int .i64 m, .slice bo l cap'] 24 := by
    have := (At.new (w.alloc (.cells #[.int .i64 n, .slice ao k cap] 24)) #[.int .i64 m, .slice bo l cap'] 24).alloc (.cells #[.int .i64 0, .slice none 0 0] 24)
    simpa using this
  have A1 : At (((w.alloc (.cells #[.int .i64 n, .slice ao k cap] 24)).alloc (.cells #[.int .i64 m, .slice bo l cap'] 24)).alloc (.cells #[.int .i64 0, .slice none 0 0] 24)) w.heap.size #[.int .i64 n, .slice ao k cap] 24 := ((At.new w _ _).alloc _).alloc _
  have A3' : Hid _ := A3
  have A2' : Hid _ := A2
  have A1' : Hid _ := A1
  clear A1 A2 A3
  go_wp2_with fail
  refine Calls.mono (hfa.out _ (by repeat (first | with_reducible exact Below.refl _ _ | with_reducible refine Below.setCell ?_ (by first | (simp; done) | (simp; omega)) _ | with_reducible refine below_drewN ?_ _ | with_reducible refine Below.alloc ?_ (by first | (simp; done) | (simp; omega)) _ | with_reducible refine Below.drew ?_))) ?_
  rintro e w1 ⟨rfl, hb1⟩
  have a1 : At w1 w.heap.size #[.int .i64 n, .slice ao k cap] 24 := At.keptAll A1'.out hb1
  have a2 : At w1 (w.heap.size + 1) #[.int .i64 m, .slice bo l cap'] 24 := At.keptAll A2'.out hb1
  have a3 : At w1 (w.heap.size + 2) #[.int .i64 0, .slice none 0 0] 24 := At.keptAll A3'.out hb1
  have hB1 : Below w.heap.size w w1 := Below.trans (by repeat (first | with_reducible exact Below.refl _ _ | with_reducible refine Below.setCell ?_ (by first | (simp; done) | (simp; omega)) _ | with_reducible refine below_drewN ?_ _ | with_reducible refine Below.alloc ?_ (by first | (simp; done) | (simp; omega)) _ | with_reducible refine Below.drew ?_)) (hb1.mono (by simp; omega))
  clear A1' A2' A3' hb1
  obtain ⟨a10, a11, -, -⟩ := a1.facts
  obtain ⟨a20, a21, -, -⟩ := a2.facts
  obtain ⟨a30, a31, f30, f31⟩ := a3.facts
  have a1' : Hid (At w1 w.heap.size #[.int .i64 n, .slice ao k cap] 24) := a1
  have a2' : Hid (At w1 (w.heap.size + 1) #[.int .i64 m, .slice bo l cap'] 24) := a2
  have a3' : Hid (At w1 (w.heap.size + 2) #[.int .i64 0, .slice none 0 0] 24) := a3
  clear a1 a2 a3
  cases FA
  · have hbad : Hid (¬ (formed n k X ∧ formed m l Y)) := fun h => by cases hFA.out.1 h.1
    clear hfb hmk hgf hW hV
    go_wp2
    exact ret_bits2 rfl rfl a3'.out.two rfl ⟨(hB1.setCell (p := ⟨w.heap.size + 2, 0, none⟩) (by show w.heap.size ≤ w.heap.size + 2; omega) _).setCell (p := ⟨w.heap.size + 2, 1, none⟩) (by show w.heap.size ≤ w.heap.size + 2; omega) _, .inl ⟨hbad.out, rfl⟩⟩
  · go_wp2_with fail
    refine Calls.mono (hfb.out _ hB1) ?_
    rintro e w2 ⟨rfl, hb2⟩
    have a1 := a1'.out.keptAll hb2
    have a2 := a2'.out.keptAll hb2
    have a3 := a3'.out.keptAll hb2
    have hB2 : Below w.heap.size w w2 := hB1.trans (hb2.mono hB1.size)
    clear a10 a11 a20 a21 a30 a31 f30 f31 a1' a2' a3' hb2 hfa hfb
    obtain ⟨a10, a11, -, -⟩ := a1.facts
    obtain ⟨a20, a21, -, -⟩ := a2.facts
    obtain ⟨a30, a31, f30, f31⟩ := a3.facts
    have a1' : Hid (At w2 w.heap.size #[.int .i64 n, .slice ao k cap] 24) := a1
    have a2' : Hid (At w2 (w.heap.size + 1) #[.int .i64 m, .slice bo l cap'] 24) := a2
    have a3' : Hid (At w2 (w.heap.size + 2) #[.int .i64 0, .slice none 0 0] 24) := a3
    clear a1 a2 a3
    cases FB
    · have hbad : Hid (¬ (formed n k X ∧ formed m l Y)) := fun h => by cases hFB.out.1 h.2
      clear hmk hgf hW hV
      go_wp2
      exact ret_bits2 rfl rfl a3'.out.two rfl ⟨(hB2.setCell (p := ⟨w.heap.size + 2, 0, none⟩) (by show w.heap.size ≤ w.heap.size + 2; omega) _).setCell (p := ⟨w.heap.size + 2, 1, none⟩) (by show w.heap.size ≤ w.heap.size + 2; omega) _, .inl ⟨hbad.out, rfl⟩⟩
    · have hgood : Hid (formed n k X ∧ formed m l Y) := ⟨hFA.out.2 (by first | rfl | trivial), hFB.out.2 (by first | rfl | trivial)⟩
      by_cases hnm : n = m
      · subst hnm
        have hkl : k = l := by rw [hgood.out.1.2.1, hgood.out.2.2.1]
        subst hkl
        have e1 : (n != n) = false := by simp
        have hlt2 := a3'.out.lt
        have hW' : Hid (Wds w ao k X) := hW
        have hV' : Hid (Wds w bo k Y) := hV
        have hgf' : Hid _ := hgf.2
        have he := hgf.1
        clear hFA hFB hW hV hgf a30 a31 f30 f31 hn1 hn2 hm1 hm2
        have a11n : (w2.alloc (.cells (rowCells k (fun _ => 0)) 39)).cell? ⟨w.heap.size, 1, none⟩ = some (.slice ao k cap) := (a1'.out.alloc _).cell 1
        go_wp2
        go_loopw [9, 10, 33] (fun _ _ ii wr => ∃ j : Nat, j ≤ k ∧ ii = .int .i64 (j : Int) ∧ At wr w.heap.size #[.int .i64 n, .slice ao k cap] 24 ∧ At wr (w.heap.size + 1) #[.int .i64 n, .slice bo k cap'] 24 ∧ At wr (w.heap.size + 2) #[.int .i64 0, .slice none 0 0] 24 ∧ At wr w2.heap.size (rowCells k (fun i => if i < j then o (X i) (Y i) else 0)) 39 ∧ Below w.heap.size w wr) (fun _ _ ii _ => k - (intOf ii).toNat)
        case atStart =>
          refine ⟨0, Nat.zero_le _, rfl, a1'.out.alloc _, a2'.out.alloc _, a3'.out.alloc _, ?_, hB2.alloc hB2.size _⟩
          rw [show rowCells k (fun i => if i < 0 then o (X i) (Y i) else 0) = rowCells k (fun _ => 0) from rowCells_congr (fun j _ => by rw [if_neg (by omega)])]
          exact At.new w2 _ _
        case round =>
          obtain ⟨j, hj, rfl, b1, b2, b3, b4, hb⟩ := hrel
          obtain ⟨b10, b11, -, -⟩ := b1.facts
          obtain ⟨b20, b21, -, -⟩ := b2.facts
          obtain ⟨b30, b31, f30, f31⟩ := b3.facts
          by_cases hlt : j < k
          · obtain ⟨hx, g1, o1, rfl, hc1⟩ := hW'.out j hlt
            obtain ⟨hy, g2, o2, rfl, hc2⟩ := hV'.out j (by omega)
            have d1 := (hb.cell (p := ⟨g1, o1 + j, none⟩) (cell_block hc1)).trans hc1
            have d2 := (hb.cell (p := ⟨g2, o2 + j, none⟩) (cell_block hc2)).trans hc2
            have d3 := b4.cell j
            rw [rowCells_get _ hlt] at d3
            have f3 := b4.frozen j
            obtain ⟨x, hx'⟩ : ∃ x, Hid (X j = x) := ⟨_, rfl⟩
            obtain ⟨y, hy'⟩ : ∃ y, Hid (Y j = y) := ⟨_, rfl⟩
            rw [hx'.out] at d1 hx
            rw [hy'.out] at d2 hy
            obtain ⟨v, hv⟩ : ∃ v, Hid (o x y = v) := ⟨_, rfl⟩
            have hcall := fun w => hgf'.out x y w hx hy
            rw [hv.out] at hcall
            have hcall' : Hid _ := hcall
            have b1' : Hid (At wr w.heap.size #[.int .i64 n, .slice (some ⟨g1, o1, none⟩) k cap] 24) := b1
            have b2' : Hid (At wr (w.heap.size + 1) #[.int .i64 n, .slice (some ⟨g2, o2, none⟩) k cap'] 24) := b2
            have b3' : Hid (At wr (w.heap.size + 2) #[.int .i64 0, .slice none 0 0] 24) := b3
            have b4' : Hid (At wr w2.heap.size (rowCells k (fun i => if i < j then o (X i) (Y i) else 0)) 39) := b4
            clear b1 b2 b3 b4 hcall hgf' hmk hc1 hc2 b30 b31 f30 f31
            go_wp2_with fail
            refine (hcall'.out _).mono ?_
            rintro e w' ⟨rfl, hw'⟩
            obtain rfl := hw'.symm
            go_wp2
            go_roundw
            case rel =>
              refine ⟨j + 1, by omega, by simp, b1'.out.other (p := ⟨w2.heap.size, j, none⟩) (by show w.heap.size ≠ w2.heap.size; omega) _, b2'.out.other (p := ⟨w2.heap.size, j, none⟩) (by show w.heap.size + 1 ≠ w2.heap.size; omega) _, b3'.out.other (p := ⟨w2.heap.size, j, none⟩) (by show w.heap.size + 2 ≠ w2.heap.size; omega) _, ?_, hb.setCell (p := ⟨w2.heap.size, j, none⟩) (by show w.heap.size ≤ w2.heap.size; omega) _⟩
              have h1 := b4'.out.set j (.int .u64 ((v : Nat) : Int))
              rw [rowCells_set] at h1
              rw [show rowCells k (fun i => if i < j + 1 then o (X i) (Y i) else 0) = rowCells k (fun i => if i = j then v else if i < j then o (X i) (Y i) else 0) from rowCells_congr (fun i _ => by
                by_cases hij : i = j
                · rw [if_pos (by omega), if_pos hij, hij, hx'.out, hy'.out, hv.out]
                · by_cases hl : i < j
                  · rw [if_pos (by omega), if_neg hij, if_pos hl]
                  · rw [if_neg (by omega), if_neg hij, if_neg hl])]
              exact h1
            case measure => simp [intOf]; omega
          · obtain rfl : j = k := by omega
            have b3' : Hid (At wr (w.heap.size + 2) #[.int .i64 0, .slice none 0 0] 24) := b3
            have b4' : Hid (At wr w2.heap.size (rowCells j (fun i => if i < j then o (X i) (Y i) else 0)) 39) := b4
            clear b1 b2 b3 b4 hgf' hmk hV' hW'
            go_wp2
            refine ret_bits2 rfl rfl b3'.out.two rfl ⟨(hb.setCell (p := ⟨w.heap.size + 2, 0, none⟩) (by show w.heap.size ≤ w.heap.size + 2; omega) _).setCell (p := ⟨w.heap.size + 2, 1, none⟩) (by show w.heap.size ≤ w.heap.size + 2; omega) _, .inr (.inr ⟨hgood.out, rfl, w2.heap.size, by omega, ?_, rfl⟩)⟩
            rw [show rowCells j (fun i => o (X i) (Y i)) = rowCells j (fun i => if i < j then o (X i) (Y i) else 0) from rowCells_congr (fun i hi => by rw [if_pos hi])]
            exact (b4'.out.other (p := ⟨w.heap.size + 2, 0, none⟩) (by show w2.heap.size ≠ w.heap.size + 2; omega) _).other (p := ⟨w.heap.size + 2, 1, none⟩) (by show w2.heap.size ≠ w.heap.size + 2; omega) _
      · have e1 : (n != m) = true := by simpa using hnm
        have hnm' : Hid (n ≠ m) := hnm
        clear hmk hgf hW hV hnm
        go_wp2
        exact ret_bits2 rfl rfl a3'.out.two rfl ⟨(hB2.setCell (p := ⟨w.heap.size + 2, 0, none⟩) (by show w.heap.size ≤ w.heap.size + 2; omega) _).setCell (p := ⟨w.heap.size + 2, 1, none⟩) (by show w.heap.size ≤ w.heap.size + 2; omega) _, .inr (.inl ⟨hgood.out, hnm'.out, rfl⟩)⟩
end Go.Proofs.YtkdcloiepeenoaaDoor
