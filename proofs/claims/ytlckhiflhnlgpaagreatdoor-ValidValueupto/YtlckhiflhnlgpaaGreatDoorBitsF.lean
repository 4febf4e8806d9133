/-
  BitsC, BitsD, one behind the other.
-/
import Derived.Test.YtlckhiflhnlgpaaGreatDoorBitsB
import Derived.Shelf.Abstract
import Derived.Test.YtlckhiflhnlgpaaGreatDoorKitA
import Derived.Test.YtlckhiflhnlgpaaGreatDoorBitsA
import Derived.Test.YtlckhiflhnlgpaaGreatDoorWordsA
import Derived.Test.YtlckhiflhnlgpaaGreatDoorKit
import Derived.Test.YtlckhiflhnlgpaaGreatDoorRows
import Derived.Lib.Strings
import Derived.Lib.Slices
import Derived.Lib.Small
import Derived.Lib.Walk
import Derived.Lib.BitFns
import Derived.Lib.ItoaNum
import Derived.Test.YtlckhiflhnlgpaaGreatDoorWordsB
/- JoinWalk, ChangedBad, ChangeWalk, MakeWalk, JoinOps, GivesKit, PrefixOnly, TurnOps, Len64Walk, AskKit. -/
/-
  What bitmap.joined, And, Or, Xor and Minus answer.
-/
namespace Go.Proofs.YtlckhiflhnlgpaaGreatDoor
open Go.RowKit

theorem formedB (n : Int) (k : Nat) (X : Nat → Nat) : ∃ B : Bool, Hid (formed n k X ↔ B = true) := by
  by_cases h : formed n k X
  · exact ⟨true, ⟨fun _ => rfl, fun _ => h⟩⟩
  · exact ⟨false, ⟨fun h' => (h h').elim, fun h' => by cases h'⟩⟩

/-- What a call that puts two rows together answers. -/
def Joined (o : Nat → Nat → Nat) (n m : Int) (k l : Nat) (X Y : Nat → Nat) (w : World) (e : Ending) (w' : World) : Prop :=
  Below w.heap.size w w' ∧
    ((¬ (formed n k X ∧ formed m l Y) ∧ e = .returned (.tuple #[bv 0 none 0 0, .int .i64 1])) ∨
     ((formed n k X ∧ formed m l Y) ∧ n ≠ m ∧ e = .returned (.tuple #[bv 0 none 0 0, .int .i64 2])) ∨
     ((formed n k X ∧ formed m l Y) ∧ n = m ∧ ∃ g, w.heap.size ≤ g ∧ At w' g (rowCells k (fun j => o (X j) (Y j))) 49 ∧ e = .returned (.tuple #[bv n (some ⟨g, 0, none⟩) k k, .int .i64 0])))

/-- The function that is handed in puts two words together. -/
def Puts (gf : Nat) (o : Nat → Nat → Nat) : Prop := (∀ args w, (callFunc gf args).run Tryz.prog w = .ok (.enter gf args) w) ∧
  ∀ (x y : Nat) (w : World), x < 18446744073709551616 → y < 18446744073709551616 → Calls Tryz.prog gf #[.int .u64 (x : Int), .int .u64 (y : Int)] w fun e w' => e = .returned (.int .u64 ((o x y : Nat) : Int)) ∧ w' = w

set_option maxRecDepth 10000 in
set_option maxHeartbeats 4000000 in
theorem joined_calls (gf : Nat) (o : Nat → Nat → Nat) (hgf : Puts gf o) (n m : Int) (ao bo : Option Addr) (k l cap cap' : Nat) (X Y : Nat → Nat) (hn : (Lit.int .i64 n).wf = true) (hm : (Lit.int .i64 m).wf = true) (hk : k ≤ 17592186044416) (hl : l ≤ 17592186044416)
    (w : World) (hW : Wds w ao k X) (hV : Wds w bo l Y) :
    Calls Tryz.prog 95 #[bv n ao k cap, bv m bo l cap', .func (.func gf) #[] #[]] w fun e w' => Joined o n m k l X Y w e w' := by
  obtain ⟨hn1, hn2⟩ := wf_i64 hn
  obtain ⟨hm1, hm2⟩ := wf_i64 hm
  obtain ⟨FA, hFA⟩ := formedB n k X
  obtain ⟨FB, hFB⟩ := formedB m l Y
  have hfa : Hid _ := fun (w1 : World) (hb : Below w.heap.size w w1) => formed_calls n ao k cap X FA hn hk hFA w1 (hW.kept hb)
  have hfb : Hid _ := fun (w1 : World) (hb : Below w.heap.size w w1) => formed_calls m bo l cap' Y FB hm hl hFB w1 (hV.kept hb)
  have hmk := fun u => make_row k hk u
  clear hn hm
  go_enter Tryz.func95, Tryz.ntmps95
  have A3 : At (((w.alloc (.cells #[.int .i64 n, .slice ao k cap] 81)).alloc (.cells #[.int .i64 m, .slice bo l cap'] 81)).alloc (.cells #[.int .i64 0, .slice none 0 0] 81)) (w.heap.size + 2) #[.int .i64 0, .slice none 0 0] 81 := by
    have := At.new ((w.alloc (.cells #[.int .i64 n, .slice ao k cap] 81)).alloc (.cells #[.int .i64 m, .slice bo l cap'] 81)) #[.int .i64 0, .slice none 0 0] 81
    simpa using this
  have A2 : At (((w.alloc (.cells #[.int .i64 n, .slice ao k cap] 81)).alloc (.cells #[.int .i64 m, .slice bo l cap'] 81)).alloc (.cells #[.int .i64 0, .slice none 0 0] 81)) (w.heap.size + 1) #[.int .i64 m, .slice bo l cap'] 81 := by
    have := (At.new (w.alloc (.cells #[.int .i64 n, .slice ao k cap] 81)) #[.int .i64 m, .slice bo l cap'] 81).alloc (.cells #[.int .i64 0, .slice none 0 0] 81)
    simpa using this
  have A1 : At (((w.alloc (.cells #[.int .i64 n, .slice ao k cap] 81)).alloc (.cells #[.int .i64 m, .slice bo l cap'] 81)).alloc (.cells #[.int .i64 0, .slice none 0 0] 81)) w.heap.size #[.int .i64 n, .slice ao k cap] 81 := ((At.new w _ _).alloc _).alloc _
  have A3' : Hid _ := A3
  have A2' : Hid _ := A2
  have A1' : Hid _ := A1
  clear A1 A2 A3
  go_wp2_with fail
  refine Calls.mono (hfa.out _ (by repeat (first | with_reducible exact Below.refl _ _ | with_reducible refine Below.setCell ?_ (by first | (simp; done) | (simp; omega)) _ | with_reducible refine below_drewN ?_ _ | with_reducible refine Below.alloc ?_ (by first | (simp; done) | (simp; omega)) _ | with_reducible refine Below.drew ?_))) ?_
  rintro e w1 ⟨rfl, hb1⟩
  have a1 : At w1 w.heap.size #[.int .i64 n, .slice ao k cap] 81 := At.keptAll A1'.out hb1
  have a2 : At w1 (w.heap.size + 1) #[.int .i64 m, .slice bo l cap'] 81 := At.keptAll A2'.out hb1
  have a3 : At w1 (w.heap.size + 2) #[.int .i64 0, .slice none 0 0] 81 := At.keptAll A3'.out hb1
  have hB1 : Below w.heap.size w w1 := Below.trans (by repeat (first | with_reducible exact Below.refl _ _ | with_reducible refine Below.setCell ?_ (by first | (simp; done) | (simp; omega)) _ | with_reducible refine below_drewN ?_ _ | with_reducible refine Below.alloc ?_ (by first | (simp; done) | (simp; omega)) _ | with_reducible refine Below.drew ?_)) (hb1.mono (by simp; omega))
  clear A1' A2' A3' hb1
  obtain ⟨a10, a11, -, -⟩ := a1.facts
  obtain ⟨a20, a21, -, -⟩ := a2.facts
  obtain ⟨a30, a31, f30, f31⟩ := a3.facts
  have a1' : Hid (At w1 w.heap.size #[.int .i64 n, .slice ao k cap] 81) := a1
  have a2' : Hid (At w1 (w.heap.size + 1) #[.int .i64 m, .slice bo l cap'] 81) := a2
  have a3' : Hid (At w1 (w.heap.size + 2) #[.int .i64 0, .slice none 0 0] 81) := a3
  clear a1 a2 a3
  cases FA
  · have hbad : Hid (¬ (formed n k X ∧ formed m l Y)) := fun h => by cases hFA.out.1 h.1
    clear hfb hmk hgf hW hV
    go_wp2
    exact ret_bits2 rfl rfl a3'.out.two rfl ⟨(hB1.setCell (p := ⟨w.heap.size + 2, 0, none⟩) (by show w.heap.size ≤ w.heap.size + 2; omega) _).setCell (p := ⟨w.heap.size + 2, 1, none⟩) (by show w.heap.size ≤ w.heap.size + 2; omega) _, .inl ⟨hbad.out, rfl⟩⟩
  · go_wp2_with fail
    refine Calls.mono (hfb.out _ hB1) ?_
    rintro e w2 ⟨rfl, hb2⟩
    have a1 := a1'.out.keptAll hb2
    have a2 := a2'.out.keptAll hb2
    have a3 := a3'.out.keptAll hb2
    have hB2 : Below w.heap.size w w2 := hB1.trans (hb2.mono hB1.size)
    clear a10 a11 a20 a21 a30 a31 f30 f31 a1' a2' a3' hb2 hfa hfb
    obtain ⟨a10, a11, -, -⟩ := a1.facts
    obtain ⟨a20, a21, -, -⟩ := a2.facts
    obtain ⟨a30, a31, f30, f31⟩ := a3.facts
    have a1' : Hid (At w2 w.heap.size #[.int .i64 n, .slice ao k cap] 81) := a1
    have a2' : Hid (At w2 (w.heap.size + 1) #[.int .i64 m, .slice bo l cap'] 81) := a2
    have a3' : Hid (At w2 (w.heap.size + 2) #[.int .i64 0, .slice none 0 0] 81) := a3
    clear a1 a2 a3
    cases FB
    · have hbad : Hid (¬ (formed n k X ∧ formed m l Y)) := fun h => by cases hFB.out.1 h.2
      clear hmk hgf hW hV
      go_wp2
      exact ret_bits2 rfl rfl a3'.out.two rfl ⟨(hB2.setCell (p := ⟨w.heap.size + 2, 0, none⟩) (by show w.heap.size ≤ w.heap.size + 2; omega) _).setCell (p := ⟨w.heap.size + 2, 1, none⟩) (by show w.heap.size ≤ w.heap.size + 2; omega) _, .inl ⟨hbad.out, rfl⟩⟩
    · have hgood : Hid (formed n k X ∧ formed m l Y) := ⟨hFA.out.2 (by first | rfl | trivial), hFB.out.2 (by first | rfl | trivial)⟩
      by_cases hnm : n = m
      · subst hnm
        have hkl : k = l := by rw [hgood.out.1.2.1, hgood.out.2.2.1]
        subst hkl
        have e1 : (n != n) = false := by simp
        have hlt2 := a3'.out.lt
        have hW' : Hid (Wds w ao k X) := hW
        have hV' : Hid (Wds w bo k Y) := hV
        have hgf' : Hid _ := hgf.2
        have he := hgf.1
        clear hFA hFB hW hV hgf a30 a31 f30 f31 hn1 hn2 hm1 hm2
        have a11n : (w2.alloc (.cells (rowCells k (fun _ => 0)) 49)).cell? ⟨w.heap.size, 1, none⟩ = some (.slice ao k cap) := (a1'.out.alloc _).cell 1
        go_wp2
        go_loopw [9, 10, 33] (fun _ _ ii wr => ∃ j : Nat, j ≤ k ∧ ii = .int .i64 (j : Int) ∧ At wr w.heap.size #[.int .i64 n, .slice ao k cap] 81 ∧ At wr (w.heap.size + 1) #[.int .i64 n, .slice bo k cap'] 81 ∧ At wr (w.heap.size + 2) #[.int .i64 0, .slice none 0 0] 81 ∧ At wr w2.heap.size (rowCells k (fun i => if i < j then o (X i) (Y i) else 0)) 49 ∧ Below w.heap.size w wr) (fun _ _ ii _ => k - (intOf ii).toNat)
        case atStart =>
          refine ⟨0, Nat.zero_le _, rfl, a1'.out.alloc _, a2'.out.alloc _, a3'.out.alloc _, ?_, hB2.alloc hB2.size _⟩
          rw [show rowCells k (fun i => if i < 0 then o (X i) (Y i) else 0) = rowCells k (fun _ => 0) from rowCells_congr (fun j _ => by rw [if_neg (by omega)])]
          exact At.new w2 _ _
        case round =>
          obtain ⟨j, hj, rfl, b1, b2, b3, b4, hb⟩ := hrel
          obtain ⟨b10, b11, -, -⟩ := b1.facts
          obtain ⟨b20, b21, -, -⟩ := b2.facts
          obtain ⟨b30, b31, f30, f31⟩ := b3.facts
          by_cases hlt : j < k
          · obtain ⟨hx, g1, o1, rfl, hc1⟩ := hW'.out j hlt
            obtain ⟨hy, g2, o2, rfl, hc2⟩ := hV'.out j (by omega)
            have d1 := (hb.cell (p := ⟨g1, o1 + j, none⟩) (cell_block hc1)).trans hc1
            have d2 := (hb.cell (p := ⟨g2, o2 + j, none⟩) (cell_block hc2)).trans hc2
            have d3 := b4.cell j
            rw [rowCells_get _ hlt] at d3
            have f3 := b4.frozen j
            obtain ⟨x, hx'⟩ : ∃ x, Hid (X j = x) := ⟨_, rfl⟩
            obtain ⟨y, hy'⟩ : ∃ y, Hid (Y j = y) := ⟨_, rfl⟩
            rw [hx'.out] at d1 hx
            rw [hy'.out] at d2 hy
            obtain ⟨v, hv⟩ : ∃ v, Hid (o x y = v) := ⟨_, rfl⟩
            have hcall := fun w => hgf'.out x y w hx hy
            rw [hv.out] at hcall
            have hcall' : Hid _ := hcall
            have b1' : Hid (At wr w.heap.size #[.int .i64 n, .slice (some ⟨g1, o1, none⟩) k cap] 81) := b1
            have b2' : Hid (At wr (w.heap.size + 1) #[.int .i64 n, .slice (some ⟨g2, o2, none⟩) k cap'] 81) := b2
            have b3' : Hid (At wr (w.heap.size + 2) #[.int .i64 0, .slice none 0 0] 81) := b3
            have b4' : Hid (At wr w2.heap.size (rowCells k (fun i => if i < j then o (X i) (Y i) else 0)) 49) := b4
            clear b1 b2 b3 b4 hcall hgf' hmk hc1 hc2 b30 b31 f30 f31
            go_wp2_with fail
            refine (hcall'.out _).mono ?_
            rintro e w' ⟨rfl, hw'⟩
            obtain rfl := hw'.symm
            go_wp2
            go_roundw
            case rel =>
              refine ⟨j + 1, by omega, by simp, b1'.out.other (p := ⟨w2.heap.size, j, none⟩) (by show w.heap.size ≠ w2.heap.size; omega) _, b2'.out.other (p := ⟨w2.heap.size, j, none⟩) (by show w.heap.size + 1 ≠ w2.heap.size; omega) _, b3'.out.other (p := ⟨w2.heap.size, j, none⟩) (by show w.heap.size + 2 ≠ w2.heap.size; omega) _, ?_, hb.setCell (p := ⟨w2.heap.size, j, none⟩) (by show w.heap.size ≤ w2.heap.size; omega) _⟩
              have h1 := b4'.out.set j (.int .u64 ((v : Nat) : Int))
              rw [rowCells_set] at h1
              rw [show rowCells k (fun i => if i < j + 1 then o (X i) (Y i) else 0) = rowCells k (fun i => if i = j then v else if i < j then o (X i) (Y i) else 0) from rowCells_congr (fun i _ => by
                by_cases hij : i = j
                · rw [if_pos (by omega), if_pos hij, hij, hx'.out, hy'.out, hv.out]
                · by_cases hl : i < j
                  · rw [if_pos (by omega), if_neg hij, if_pos hl]
                  · rw [if_neg (by omega), if_neg hij, if_neg hl])]
              exact h1
            case measure => simp [intOf]; omega
          · obtain rfl : j = k := by omega
            have b3' : Hid (At wr (w.heap.size + 2) #[.int .i64 0, .slice none 0 0] 81) := b3
            have b4' : Hid (At wr w2.heap.size (rowCells j (fun i => if i < j then o (X i) (Y i) else 0)) 49) := b4
            clear b1 b2 b3 b4 hgf' hmk hV' hW'
            go_wp2
            refine ret_bits2 rfl rfl b3'.out.two rfl ⟨(hb.setCell (p := ⟨w.heap.size + 2, 0, none⟩) (by show w.heap.size ≤ w.heap.size + 2; omega) _).setCell (p := ⟨w.heap.size + 2, 1, none⟩) (by show w.heap.size ≤ w.heap.size + 2; omega) _, .inr (.inr ⟨hgood.out, rfl, w2.heap.size, by omega, ?_, rfl⟩)⟩
            rw [show rowCells j (fun i => o (X i) (Y i)) = rowCells j (fun i => if i < j then o (X i) (Y i) else 0) from rowCells_congr (fun i hi => by rw [if_pos hi])]
            exact (b4'.out.other (p := ⟨w.heap.size + 2, 0, none⟩) (by show w2.heap.size ≠ w.heap.size + 2; omega) _).other (p := ⟨w.heap.size + 2, 1, none⟩) (by show w2.heap.size ≠ w.heap.size + 2; omega) _
      · have e1 : (n != m) = true := by simpa using hnm
        have hnm' : Hid (n ≠ m) := hnm
        clear hmk hgf hW hV hnm
        go_wp2
        exact ret_bits2 rfl rfl a3'.out.two rfl ⟨(hB2.setCell (p := ⟨w.heap.size + 2, 0, none⟩) (by show w.heap.size ≤ w.heap.size + 2; omega) _).setCell (p := ⟨w.heap.size + 2, 1, none⟩) (by show w.heap.size ≤ w.heap.size + 2; omega) _, .inr (.inl ⟨hgood.out, hnm'.out, rfl⟩)⟩
end Go.Proofs.YtlckhiflhnlgpaaGreatDoor

/-
  What bitmap.changed and bitmap.Not answer of a row that isn't one.
-/
namespace Go.Proofs.YtlckhiflhnlgpaaGreatDoor
open Go.RowKit

set_option maxRecDepth 10000 in
theorem changedBad_calls (n : Int) (ao : Option Addr) (k cap : Nat) (X : Nat → Nat) (f : Value) (hn : (Lit.int .i64 n).wf = true) (hk : k ≤ 17592186044416) (hB : Hid (¬ formed n k X)) (w : World) (hW : Wds w ao k X) :
    Calls Tryz.prog 92 #[bv n ao k cap, f] w fun e w' => e = .returned (.tuple #[bv 0 none 0 0, .int .i64 1]) ∧ Below w.heap.size w w' := by
  go_enter Tryz.func92, Tryz.ntmps92
  have hf := fun (w1 : World) (hb : Below w.heap.size w w1) => formed_calls n ao k cap X false hn hk ⟨fun h => (hB.out h).elim, fun h => by cases h⟩ w1 (hW.kept hb)
  have hf' : Hid _ := hf
  clear hf hW hB
  go_wp2_with fail
  refine Calls.mono (hf'.out _ (by repeat (first | with_reducible exact Below.refl _ _ | with_reducible refine Below.setCell ?_ (by first | (simp; done) | (simp; omega)) _ | with_reducible refine below_drewN ?_ _ | with_reducible refine Below.alloc ?_ (by first | (simp; done) | (simp; omega)) _ | with_reducible refine Below.drew ?_))) ?_
  rintro e w1 ⟨rfl, hb⟩
  have a1 : At w1 (w.heap.size + 1) #[.int .i64 0, .slice none 0 0] 81 := by
    have := (At.new (w.alloc (.cells #[.int .i64 n, .slice ao k cap] 81)) #[.int .i64 0, .slice none 0 0] 81).keptAll (by exact hb)
    simpa using this
  have hB1 : Below w.heap.size w w1 := Below.trans (by repeat (first | with_reducible exact Below.refl _ _ | with_reducible refine Below.setCell ?_ (by first | (simp; done) | (simp; omega)) _ | with_reducible refine below_drewN ?_ _ | with_reducible refine Below.alloc ?_ (by first | (simp; done) | (simp; omega)) _ | with_reducible refine Below.drew ?_)) (hb.mono (by simp; omega))
  obtain ⟨c0, c1, f0, f1⟩ := a1.facts
  have a1' : Hid (At w1 (w.heap.size + 1) #[.int .i64 0, .slice none 0 0] 81) := a1
  clear hb a1
  go_wp2
  exact ret_bits2 rfl rfl a1'.out.two rfl ⟨rfl, (hB1.setCell (p := ⟨w.heap.size + 1, 0, none⟩) (by show w.heap.size ≤ w.heap.size + 1; omega) _).setCell (p := ⟨w.heap.size + 1, 1, none⟩) (by show w.heap.size ≤ w.heap.size + 1; omega) _⟩
set_option maxRecDepth 10000 in
theorem notBad_calls (n : Int) (ao : Option Addr) (k cap : Nat) (X : Nat → Nat) (hn : (Lit.int .i64 n).wf = true) (hk : k ≤ 17592186044416) (hB : Hid (¬ formed n k X)) (w : World) (hW : Wds w ao k X) :
    Calls Tryz.prog 76 #[bv n ao k cap] w fun e w' => e = .returned (.tuple #[bv 0 none 0 0, .int .i64 1]) ∧ Below w.heap.size w w' := by
  go_enter Tryz.func76, Tryz.ntmps76
  have hf := fun (f : Value) (w1 : World) (hb : Below w.heap.size w w1) => changedBad_calls n ao k cap X f hn hk hB w1 (hW.kept hb)
  have hf' : Hid _ := hf
  clear hf hW hB
  go_wp2_with fail
  refine Calls.mono (hf'.out _ _ (by repeat (first | with_reducible exact Below.refl _ _ | with_reducible refine Below.setCell ?_ (by first | (simp; done) | (simp; omega)) _ | with_reducible refine below_drewN ?_ _ | with_reducible refine Below.alloc ?_ (by first | (simp; done) | (simp; omega)) _ | with_reducible refine Below.drew ?_))) ?_
  rintro e w1 ⟨rfl, hb⟩
  have a1 : At w1 (w.heap.size + 1) #[.int .i64 0, .slice none 0 0] 81 := by
    have := (At.new (w.alloc (.cells #[.int .i64 n, .slice ao k cap] 81)) #[.int .i64 0, .slice none 0 0] 81).keptAll (by exact hb)
    simpa using this
  have hB1 : Below w.heap.size w w1 := Below.trans (by repeat (first | with_reducible exact Below.refl _ _ | with_reducible refine Below.setCell ?_ (by first | (simp; done) | (simp; omega)) _ | with_reducible refine below_drewN ?_ _ | with_reducible refine Below.alloc ?_ (by first | (simp; done) | (simp; omega)) _ | with_reducible refine Below.drew ?_)) (hb.mono (by simp; omega))
  obtain ⟨c0, c1, f0, f1⟩ := a1.facts
  have a1' : Hid (At w1 (w.heap.size + 1) #[.int .i64 0, .slice none 0 0] 81) := a1
  clear hb a1
  go_wp2
  exact ret_bits2 rfl rfl a1'.out.two rfl ⟨rfl, (hB1.setCell (p := ⟨w.heap.size + 1, 0, none⟩) (by show w.heap.size ≤ w.heap.size + 1; omega) _).setCell (p := ⟨w.heap.size + 1, 1, none⟩) (by show w.heap.size ≤ w.heap.size + 1; omega) _⟩
end Go.Proofs.YtlckhiflhnlgpaaGreatDoor

/-
  What bitmap.changed answers of a row of bits.
-/
namespace Go.Proofs.YtlckhiflhnlgpaaGreatDoor
open Go.RowKit Go.Shelf

/-- The function that is handed in makes of the row's words, one behind the other, these; S is what it keeps, in block m. -/
def Turns (n0 n1 m gf : Nat) (lb : Array Value) (k : Nat) (X C : Nat → Nat) (S : Nat → World → Prop) : Prop := (∀ args w, (callFunc gf args).run Tryz.prog w = .ok (.enter gf args) w) ∧
  (∀ j, j < k → C j < 18446744073709551616) ∧ (∀ j w1 w2, S j w1 → Below n1 w1 w2 → S j w2) ∧
  ∀ (j : Nat) (w1 : World), j < k → S j w1 → n1 ≤ w1.heap.size → Calls Tryz.prog gf (#[.int .u64 ((X j : Nat) : Int)] ++ lb) w1 fun e w' => e = .returned (.int .u64 ((C j : Nat) : Int)) ∧ S (j + 1) w' ∧ Below n0 w1 w' ∧ ∀ b cs t, b ≠ m → At w1 b cs t → At w' b cs t

set_option maxRecDepth 10000 in
set_option maxHeartbeats 4000000 in
theorem changed_calls (w0 w : World) (m gf : Nat) (lb : Array Value) (n : Int) (ao : Option Addr) (k cap : Nat) (X C : Nat → Nat) (S : Nat → World → Prop) (hgf : Turns w0.heap.size w.heap.size m gf lb k X C S) (hn : (Lit.int .i64 n).wf = true) (hk : k ≤ 17592186044416)
    (hf : Hid (formed n k X)) (hW : Wds w0 ao k X) (hb0 : Below w0.heap.size w0 w) (hm : m < w.heap.size) (hS : S 0 w) :
    Calls Tryz.prog 92 #[bv n ao k cap, .func (.func gf) #[] lb] w fun e w' =>
      (∃ g, w.heap.size ≤ g ∧ At w' g (rowCells k (fun j => C j &&& lowm (n - 64 * (j : Int)))) 49 ∧ e = .returned (.tuple #[bv n (some ⟨g, 0, none⟩) k k, .int .i64 0])) ∧ Below w0.heap.size w0 w' ∧ ∀ b cs t, b ≠ m → At w b cs t → At w' b cs t := by
  obtain ⟨hn1, hn2⟩ := wf_i64 hn
  have hsz0 := hb0.size
  obtain ⟨N, rfl⟩ := Int.eq_ofNat_of_zero_le hf.out.1
  have hkN : 64 * k ≤ N + 63 ∧ N ≤ 64 * k := by have := hf.out.2.1; simp at this; unfold need at this; omega
  have hfc : Hid _ := fun (w1 : World) (hb : Below w.heap.size w w1) => formed_calls N ao k cap X true hn hk ⟨fun _ => rfl, fun _ => hf.out⟩ w1 ((hW.kept hb0).kept hb)
  have hmk := fun u => make_row k hk u
  obtain ⟨he, hC, hst, hcl⟩ := hgf
  have hst' : Hid _ := hst
  have hcl' : Hid _ := hcl
  have hC' : Hid _ := hC
  clear hn hst hcl hC
  go_enter Tryz.func92, Tryz.ntmps92
  have A2 : At ((w.alloc (.cells #[.int .i64 (N : Int), .slice ao k cap] 81)).alloc (.cells #[.int .i64 0, .slice none 0 0] 81)) (w.heap.size + 1) #[.int .i64 0, .slice none 0 0] 81 := by
    have := At.new (w.alloc (.cells #[.int .i64 (N : Int), .slice ao k cap] 81)) #[.int .i64 0, .slice none 0 0] 81
    simpa using this
  have A1 : At ((w.alloc (.cells #[.int .i64 (N : Int), .slice ao k cap] 81)).alloc (.cells #[.int .i64 0, .slice none 0 0] 81)) w.heap.size #[.int .i64 (N : Int), .slice ao k cap] 81 := (At.new w _ _).alloc _
  have A2' : Hid _ := A2
  have A1' : Hid _ := A1
  clear A1 A2
  go_wp2_with fail
  refine Calls.mono (hfc.out _ (by repeat (first | with_reducible exact Below.refl _ _ | with_reducible refine Below.setCell ?_ (by first | (simp; done) | (simp; omega)) _ | with_reducible refine below_drewN ?_ _ | with_reducible refine Below.alloc ?_ (by first | (simp; done) | (simp; omega)) _ | with_reducible refine Below.drew ?_))) ?_
  rintro e w1 ⟨rfl, hb1⟩
  have a1 : At w1 w.heap.size #[.int .i64 (N : Int), .slice ao k cap] 81 := At.keptAll A1'.out hb1
  have a2 : At w1 (w.heap.size + 1) #[.int .i64 0, .slice none 0 0] 81 := At.keptAll A2'.out hb1
  have hB1 : Below w.heap.size w w1 := Below.trans (by repeat (first | with_reducible exact Below.refl _ _ | with_reducible refine Below.setCell ?_ (by first | (simp; done) | (simp; omega)) _ | with_reducible refine below_drewN ?_ _ | with_reducible refine Below.alloc ?_ (by first | (simp; done) | (simp; omega)) _ | with_reducible refine Below.drew ?_)) (hb1.mono (by simp; omega))
  clear A1' A2' hb1 hfc
  obtain ⟨a10, a11, -, -⟩ := a1.facts
  have hlt1 := a2.lt
  have a1' : Hid (At w1 w.heap.size #[.int .i64 (N : Int), .slice ao k cap] 81) := a1
  have a2' : Hid (At w1 (w.heap.size + 1) #[.int .i64 0, .slice none 0 0] 81) := a2
  have a11n : (w1.alloc (.cells (rowCells k (fun _ => 0)) 49)).cell? ⟨w.heap.size, 1, none⟩ = some (.slice ao k cap) := (a1'.out.alloc _).cell 1
  have hW' : Hid (Wds w0 ao k X) := hW
  have hS' : Hid (S 0 w) := hS
  have hf' : Hid (formed N k X) := hf.out
  clear a1 a2 hW hS hf hn1 hn2
  go_wp2
  go_loopw [7, 8, 20] (fun _ _ ii wr => ∃ j : Nat, j ≤ k ∧ ii = .int .i64 (j : Int) ∧ At wr w.heap.size #[.int .i64 (N : Int), .slice ao k cap] 81 ∧ At wr (w.heap.size + 1) #[.int .i64 0, .slice none 0 0] 81 ∧
      At wr w1.heap.size (rowCells k (fun i => if i < j then C i &&& lowm ((N : Int) - 64 * (i : Int)) else 0)) 49 ∧ Hid (S j wr) ∧ Below w0.heap.size w0 wr ∧ Hid (∀ b cs t, b ≠ m → At w b cs t → At wr b cs t) ∧ w.heap.size ≤ wr.heap.size) (fun _ _ ii _ => k - (intOf ii).toNat)
  case atStart =>
    refine ⟨0, Nat.zero_le _, rfl, a1'.out.alloc _, a2'.out.alloc _, ?_, ?_, ?_, fun b cs t _ h => (h.keptAll hB1).alloc _, by simp; have := hB1.size; omega⟩
    · rw [show rowCells k (fun i => if i < 0 then C i &&& lowm ((N : Int) - 64 * (i : Int)) else 0) = rowCells k (fun _ => 0) from rowCells_congr (fun j _ => by rw [if_neg (by omega)])]
      exact At.new w1 _ _
    · exact hst'.out 0 w _ hS'.out (hB1.alloc hB1.size _)
    · exact (hb0.trans (hB1.mono hsz0)).alloc (by have := hB1.size; omega) _
  case round =>
    obtain ⟨j, hj, rfl, b1, b2, b4, hSj, hb, hkp, hszr⟩ := hrel
    obtain ⟨b10, b11, -, -⟩ := b1.facts
    by_cases hlt : j < k
    · obtain ⟨hx, g1, o1, rfl, hc1⟩ := hW'.out j hlt
      have d1 := (hb.cell (p := ⟨g1, o1 + j, none⟩) (cell_block hc1)).trans hc1
      have hcj := hcl'.out j
      obtain ⟨x, hx'⟩ : ∃ x, Hid (X j = x) := ⟨_, rfl⟩
      rw [hx'.out] at d1 hx hcj
      obtain ⟨c, hc'⟩ : ∃ c, Hid (C j = c) := ⟨_, rfl⟩
      rw [hc'.out] at hcj
      have hcl2 : c < 18446744073709551616 := hc'.out ▸ hC'.out j hlt
      obtain ⟨M, hM⟩ : ∃ M, Hid (lowm ((N : Int) - 64 * (j : Int)) = M) := ⟨_, rfl⟩
      have hMl : M < 18446744073709551616 := hM.out ▸ lowm_lt _
      have hbel : Hid _ := fun w => below_calls ((N : Int) - 64 * (j : Int)) M hM w
      have e1 : bits BinOp.and IntKind.u64 (c : Int) (M : Int) = ((c &&& M : Nat) : Int) := u64_and_nat c M hcl2 hMl
      have hcj' : Hid _ := fun (w2 : World) (h : Below w.heap.size wr w2) => hcj w2 hlt (hst'.out j wr w2 hSj.out h) (Nat.le_trans hszr h.size)
      have b1' : Hid (At wr w.heap.size #[.int .i64 (N : Int), .slice (some ⟨g1, o1, none⟩) k cap] 81) := b1
      have b2' : Hid (At wr (w.heap.size + 1) #[.int .i64 0, .slice none 0 0] 81) := b2
      have b4' : Hid (At wr w1.heap.size (rowCells k (fun i => if i < j then C i &&& lowm ((N : Int) - 64 * (i : Int)) else 0)) 49) := b4
      have ew1 : IntKind.i64.wrap (64 * (j : Int)) = 64 * (j : Int) := by rw [IntKind.wrap_i64]; omega
      have ew2 : IntKind.i64.wrap ((N : Int) - 64 * (j : Int)) = (N : Int) - 64 * (j : Int) := by rw [IntKind.wrap_i64]; omega
      clear b1 b2 b4 hcj hcl' hmk hc1 hW' hS'
      go_wp2
      go_region_with (first
        | (go_at_call 109; refine (hbel.out _).mono ?_; rintro e w4 ⟨rfl, hw4⟩; obtain rfl := hw4.symm)
        | (refine Calls.mono (hcj'.out _ (Below.drew (Below.refl _ _))) ?_; rintro e w3 ⟨rfl, hS3, hb3, hk3⟩; have c1 := hk3 _ _ _ (by omega) b1'.out.drew; obtain ⟨c10, c11, -, -⟩ := c1.facts; have c4 := hk3 _ _ _ (by omega) b4'.out.drew; have c4c := c4.cell j; rw [rowCells_get _ hlt] at c4c; have c4f := c4.frozen j))
      all_goals
        have c2 := hk3 _ _ _ (by omega) b2'.out.drew
        have c4' : Hid (At w3 w1.heap.size (rowCells k (fun i => if i < j then C i &&& lowm ((N : Int) - 64 * (i : Int)) else 0)) 49) := c4
        have c2' : Hid (At w3 (w.heap.size + 1) #[.int .i64 0, .slice none 0 0] 81) := c2
        have c1' : Hid (At w3 w.heap.size #[.int .i64 (N : Int), .slice (some ⟨g1, o1, none⟩) k cap] 81) := c1
        have hS3' : Hid _ := hS3
        have hk3' : Hid _ := hk3
        clear c1 c2 c4 hS3 hk3
        go_wp2
        go_roundw
        case rel =>
          have hs3 := hb3.size
          refine ⟨j + 1, by omega, by simp, c1'.out.other (p := ⟨w1.heap.size, j, none⟩) (by show w.heap.size ≠ w1.heap.size; omega) _, c2'.out.other (p := ⟨w1.heap.size, j, none⟩) (by show w.heap.size + 1 ≠ w1.heap.size; omega) _, ?_, ?_, ?_, ?_, ?_⟩
          · have h1 := c4'.out.set j (.int .u64 ((c &&& M : Nat) : Int))
            rw [rowCells_set] at h1
            rw [show rowCells k (fun i => if i < j + 1 then C i &&& lowm ((N : Int) - 64 * (i : Int)) else 0) = rowCells k (fun i => if i = j then c &&& M else if i < j then C i &&& lowm ((N : Int) - 64 * (i : Int)) else 0) from rowCells_congr (fun i _ => by
              by_cases hij : i = j
              · rw [if_pos (by omega), if_pos hij, hij, hc'.out, hM.out]
              · by_cases hl : i < j
                · rw [if_pos (by omega), if_neg hij, if_pos hl]
                · rw [if_neg (by omega), if_neg hij, if_neg hl])]
            exact h1
          · exact hst'.out (j + 1) w3 _ hS3'.out ((Below.refl _ _).setCell (p := ⟨w1.heap.size, j, none⟩) (by show w.heap.size ≤ w1.heap.size; omega) _)
          · exact (hb.drew.trans hb3).setCell (p := ⟨w1.heap.size, j, none⟩) (by show w0.heap.size ≤ w1.heap.size; omega) _
          · intro b cs t hbm h
            have hlt' := h.lt
            exact (hk3'.out b cs t hbm (hkp.out b cs t hbm h).drew).other (p := ⟨w1.heap.size, j, none⟩) (by show b ≠ w1.heap.size; omega) _
          · simp at hs3 ⊢; omega
        case measure => simp [intOf]; omega
    · obtain rfl : j = k := by omega
      obtain ⟨b20, b21, f20, f21⟩ := b2.facts
      have b2' : Hid (At wr (w.heap.size + 1) #[.int .i64 0, .slice none 0 0] 81) := b2
      have b4' : Hid (At wr w1.heap.size (rowCells j (fun i => if i < j then C i &&& lowm ((N : Int) - 64 * (i : Int)) else 0)) 49) := b4
      clear b1 b2 b4 hcl' hmk hW' hS' hSj
      go_wp2
      refine ret_bits2 rfl rfl b2'.out.two rfl ⟨⟨w1.heap.size, by omega, ?_, rfl⟩, ?_, ?_⟩
      · rw [show rowCells j (fun i => C i &&& lowm ((N : Int) - 64 * (i : Int))) = rowCells j (fun i => if i < j then C i &&& lowm ((N : Int) - 64 * (i : Int)) else 0) from rowCells_congr (fun i hi => by rw [if_pos hi])]
        exact (b4'.out.other (p := ⟨w.heap.size + 1, 0, none⟩) (by show w1.heap.size ≠ w.heap.size + 1; omega) _).other (p := ⟨w.heap.size + 1, 1, none⟩) (by show w1.heap.size ≠ w.heap.size + 1; omega) _
      · exact (hb.setCell (p := ⟨w.heap.size + 1, 0, none⟩) (by show w0.heap.size ≤ w.heap.size + 1; omega) _).setCell (p := ⟨w.heap.size + 1, 1, none⟩) (by show w0.heap.size ≤ w.heap.size + 1; omega) _
      · intro b cs t hbm h
        have hlt' := h.lt
        exact ((hkp.out b cs t hbm h).other (p := ⟨w.heap.size + 1, 0, none⟩) (by show b ≠ w.heap.size + 1; omega) _).other (p := ⟨w.heap.size + 1, 1, none⟩) (by show b ≠ w.heap.size + 1; omega) _
end Go.Proofs.YtlckhiflhnlgpaaGreatDoor

/-
  What bitmap.Make answers.
-/
namespace Go.Proofs.YtlckhiflhnlgpaaGreatDoor
open Go.RowKit

/-- The places may be set in a row of so many bits. -/
def good (n : Int) (k : Nat) (Z : Nat → Int) : Prop := 0 ≤ n ∧ n ≤ 16777216 ∧ ∀ t, t < k → 0 ≤ Z t ∧ Z t < n
theorem or_pow {x r : Nat} (hx : x < 18446744073709551616) (hr : r < 64) : bits BinOp.or IntKind.u64 (x : Int) (IntKind.u64.wrap ((2 : Int) ^ r)) = ((x ||| 2 ^ r : Nat) : Int) := by
  rw [(put_bit (X := 0) (Nat.pow_pos (by decide)) hr).1]
  exact u64_or_nat x (2 ^ r) hx (by have := Nat.pow_lt_pow_right (a := 2) (by decide) hr; omega)

/-- What Make answers: the row, or a refusal. -/
def Made (w : World) (n : Int) (k : Nat) (Z : Nat → Int) (e : Ending) (w' : World) : Prop :=
  Below w.heap.size w w' ∧ ((¬ good n k Z ∧ e = .returned (.tuple #[bv 0 none 0 0, .int .i64 2])) ∨
    (good n k Z ∧ ∃ g K, Hid (K = need n.toNat) ∧ w.heap.size ≤ g ∧ At w' g (rowCells K (rowOf (setTo Z k) n.toNat)) 49 ∧ e = .returned (.tuple #[bv n (some ⟨g, 0, none⟩) K K, .int .i64 0])))

end Go.Proofs.YtlckhiflhnlgpaaGreatDoor

/-
  What bitmap.And, Or, Xor and Minus answer.
-/
namespace Go.Proofs.YtlckhiflhnlgpaaGreatDoor
open Go.RowKit Go.Shelf

theorem and_puts : Puts 96 (fun x y => x &&& y) := by
  refine ⟨enters_of Tryz.func96 (by kernel_rfl) rfl, fun x y w hx hy => ?_⟩
  have e1 : bits BinOp.and IntKind.u64 (x : Int) (y : Int) = ((x &&& y : Nat) : Int) := u64_and_nat x y hx hy
  go_enter Tryz.func96, Tryz.ntmps96
  go_wp2
  go_ret
  exact ⟨rfl, rfl⟩

set_option maxRecDepth 10000 in
set_option maxHeartbeats 1000000 in
theorem and_calls (n m : Int) (ao bo : Option Addr) (k l cap cap' : Nat) (X Y : Nat → Nat) (hn : (Lit.int .i64 n).wf = true) (hm : (Lit.int .i64 m).wf = true) (hk : k ≤ 17592186044416) (hl : l ≤ 17592186044416)
    (w : World) (hW : Wds w ao k X) (hV : Wds w bo l Y) :
    Calls Tryz.prog 74 #[bv n ao k cap, bv m bo l cap'] w fun e w' => Joined (fun x y => x &&& y) n m k l X Y w e w' := by
  go_enter Tryz.func74, Tryz.ntmps74
  have hj : Hid _ := fun (w1 : World) (hb : Below w.heap.size w w1) => joined_calls _ _ and_puts n m ao bo k l cap cap' X Y hn hm hk hl w1 (hW.kept hb) (hV.kept hb)
  clear hW hV hn hm
  go_wp2_with fail
  refine Calls.mono (hj.out _ (by repeat (first | with_reducible exact Below.refl _ _ | with_reducible refine Below.setCell ?_ (by first | (simp; done) | (simp; omega)) _ | with_reducible refine below_drewN ?_ _ | with_reducible refine Below.alloc ?_ (by first | (simp; done) | (simp; omega)) _ | with_reducible refine Below.drew ?_))) ?_
  rintro e w1 ⟨hb1, hcase⟩
  have a3 : At w1 (w.heap.size + 2) #[.int .i64 0, .slice none 0 0] 81 := by
    have h := At.new ((w.alloc (.cells #[.int .i64 n, .slice ao k cap] 81)).alloc (.cells #[.int .i64 m, .slice bo l cap'] 81)) #[.int .i64 0, .slice none 0 0] 81
    have h2 := h.keptAll hb1
    simpa using h2
  have hB1 : Below w.heap.size w w1 := Below.trans (by repeat (first | with_reducible exact Below.refl _ _ | with_reducible refine Below.setCell ?_ (by first | (simp; done) | (simp; omega)) _ | with_reducible refine below_drewN ?_ _ | with_reducible refine Below.alloc ?_ (by first | (simp; done) | (simp; omega)) _ | with_reducible refine Below.drew ?_)) (hb1.mono (by simp; omega))
  obtain ⟨a30, a31, f30, f31⟩ := a3.facts
  have a3' : Hid (At w1 (w.heap.size + 2) #[.int .i64 0, .slice none 0 0] 81) := a3
  have hB2 := fun u v => (hB1.setCell (p := ⟨w.heap.size + 2, 0, none⟩) (by show w.heap.size ≤ w.heap.size + 2; omega) u).setCell (p := ⟨w.heap.size + 2, 1, none⟩) (by show w.heap.size ≤ w.heap.size + 2; omega) v
  have hB2' : Hid _ := hB2
  clear a3 hj hB2
  rcases hcase with ⟨h, rfl⟩ | ⟨h, h2, rfl⟩ | ⟨h, h2, g, hg, hrow, rfl⟩
  · have h' : Hid _ := h
    clear h hb1
    go_wp2
    exact ret_bits2 rfl rfl a3'.out.two rfl ⟨hB2'.out _ _, .inl ⟨h'.out, rfl⟩⟩
  · have h' : Hid _ := h
    have h2' : Hid _ := h2
    clear h h2 hb1
    go_wp2
    exact ret_bits2 rfl rfl a3'.out.two rfl ⟨hB2'.out _ _, .inr (.inl ⟨h'.out, h2'.out, rfl⟩)⟩
  · have h' : Hid _ := h
    have h2' : Hid (n = m) := h2
    have hg' : w.heap.size + 3 ≤ g := by simp at hg; omega
    have hrow' : Hid (At w1 g (rowCells k (fun j => (fun x y => x &&& y) (X j) (Y j))) 49) := hrow
    clear h h2 hb1 hg hrow
    go_wp2
    exact ret_bits2 rfl rfl a3'.out.two rfl ⟨hB2'.out _ _, .inr (.inr ⟨h'.out, h2'.out, g, by omega,
      (hrow'.out.other (p := ⟨w.heap.size + 2, 0, none⟩) (by show g ≠ w.heap.size + 2; omega) _).other (p := ⟨w.heap.size + 2, 1, none⟩) (by show g ≠ w.heap.size + 2; omega) _, rfl⟩)⟩

theorem or_puts : Puts 97 (fun x y => x ||| y) := by
  refine ⟨enters_of Tryz.func97 (by kernel_rfl) rfl, fun x y w hx hy => ?_⟩
  have e1 : bits BinOp.or IntKind.u64 (x : Int) (y : Int) = ((x ||| y : Nat) : Int) := u64_or_nat x y hx hy
  go_enter Tryz.func97, Tryz.ntmps97
  go_wp2
  go_ret
  exact ⟨rfl, rfl⟩

set_option maxRecDepth 10000 in
set_option maxHeartbeats 1000000 in
theorem or_calls (n m : Int) (ao bo : Option Addr) (k l cap cap' : Nat) (X Y : Nat → Nat) (hn : (Lit.int .i64 n).wf = true) (hm : (Lit.int .i64 m).wf = true) (hk : k ≤ 17592186044416) (hl : l ≤ 17592186044416)
    (w : World) (hW : Wds w ao k X) (hV : Wds w bo l Y) :
    Calls Tryz.prog 75 #[bv n ao k cap, bv m bo l cap'] w fun e w' => Joined (fun x y => x ||| y) n m k l X Y w e w' := by
  go_enter Tryz.func75, Tryz.ntmps75
  have hj : Hid _ := fun (w1 : World) (hb : Below w.heap.size w w1) => joined_calls _ _ or_puts n m ao bo k l cap cap' X Y hn hm hk hl w1 (hW.kept hb) (hV.kept hb)
  clear hW hV hn hm
  go_wp2_with fail
  refine Calls.mono (hj.out _ (by repeat (first | with_reducible exact Below.refl _ _ | with_reducible refine Below.setCell ?_ (by first | (simp; done) | (simp; omega)) _ | with_reducible refine below_drewN ?_ _ | with_reducible refine Below.alloc ?_ (by first | (simp; done) | (simp; omega)) _ | with_reducible refine Below.drew ?_))) ?_
  rintro e w1 ⟨hb1, hcase⟩
  have a3 : At w1 (w.heap.size + 2) #[.int .i64 0, .slice none 0 0] 81 := by
    have h := At.new ((w.alloc (.cells #[.int .i64 n, .slice ao k cap] 81)).alloc (.cells #[.int .i64 m, .slice bo l cap'] 81)) #[.int .i64 0, .slice none 0 0] 81
    have h2 := h.keptAll hb1
    simpa using h2
  have hB1 : Below w.heap.size w w1 := Below.trans (by repeat (first | with_reducible exact Below.refl _ _ | with_reducible refine Below.setCell ?_ (by first | (simp; done) | (simp; omega)) _ | with_reducible refine below_drewN ?_ _ | with_reducible refine Below.alloc ?_ (by first | (simp; done) | (simp; omega)) _ | with_reducible refine Below.drew ?_)) (hb1.mono (by simp; omega))
  obtain ⟨a30, a31, f30, f31⟩ := a3.facts
  have a3' : Hid (At w1 (w.heap.size + 2) #[.int .i64 0, .slice none 0 0] 81) := a3
  have hB2 := fun u v => (hB1.setCell (p := ⟨w.heap.size + 2, 0, none⟩) (by show w.heap.size ≤ w.heap.size + 2; omega) u).setCell (p := ⟨w.heap.size + 2, 1, none⟩) (by show w.heap.size ≤ w.heap.size + 2; omega) v
  have hB2' : Hid _ := hB2
  clear a3 hj hB2
  rcases hcase with ⟨h, rfl⟩ | ⟨h, h2, rfl⟩ | ⟨h, h2, g, hg, hrow, rfl⟩
  · have h' : Hid _ := h
    clear h hb1
    go_wp2
    exact ret_bits2 rfl rfl a3'.out.two rfl ⟨hB2'.out _ _, .inl ⟨h'.out, rfl⟩⟩
  · have h' : Hid _ := h
    have h2' : Hid _ := h2
    clear h h2 hb1
    go_wp2
    exact ret_bits2 rfl rfl a3'.out.two rfl ⟨hB2'.out _ _, .inr (.inl ⟨h'.out, h2'.out, rfl⟩)⟩
  · have h' : Hid _ := h
    have h2' : Hid (n = m) := h2
    have hg' : w.heap.size + 3 ≤ g := by simp at hg; omega
    have hrow' : Hid (At w1 g (rowCells k (fun j => (fun x y => x ||| y) (X j) (Y j))) 49) := hrow
    clear h h2 hb1 hg hrow
    go_wp2
    exact ret_bits2 rfl rfl a3'.out.two rfl ⟨hB2'.out _ _, .inr (.inr ⟨h'.out, h2'.out, g, by omega,
      (hrow'.out.other (p := ⟨w.heap.size + 2, 0, none⟩) (by show g ≠ w.heap.size + 2; omega) _).other (p := ⟨w.heap.size + 2, 1, none⟩) (by show g ≠ w.heap.size + 2; omega) _, rfl⟩)⟩

end Go.Proofs.YtlckhiflhnlgpaaGreatDoor

/-
  What calls that answer a row of bits and an error number leave: the row lies in a block of its own.
-/
namespace Go.Proofs.YtlckhiflhnlgpaaGreatDoor
open Go.RowKit

/-- The slice's words lie in a block of their own, from B on; or there are none. -/
def Own (B : Nat) (w : World) (so : Option Addr) (r : Nat) (Z : Nat → Nat) : Prop := (so = none ∧ r = 0) ∨ ∃ g, so = some ⟨g, 0, none⟩ ∧ B ≤ g ∧ At w g (rowCells r Z) 49
theorem Own.kept {B : Nat} {w w' : World} {so : Option Addr} {r : Nat} {Z : Nat → Nat} (h : Own B w so r Z) (hb : Below w.heap.size w w') : Own B w' so r Z := by
  rcases h with h | ⟨g, h1, h2, h3⟩
  · exact .inl h
  · exact .inr ⟨g, h1, h2, h3.keptAll hb⟩
theorem Own.mono {B B' : Nat} {w : World} {so : Option Addr} {r : Nat} {Z : Nat → Nat} (h : Own B w so r Z) (hB : B' ≤ B) : Own B' w so r Z := by
  rcases h with h | ⟨g, h1, h2, h3⟩
  · exact .inl h
  · exact .inr ⟨g, h1, by omega, h3⟩
theorem Own.wds {B : Nat} {w : World} {so : Option Addr} {r : Nat} {Z : Nat → Nat} (h : Own B w so r Z) (hZ : ∀ j, j < r → Z j < 18446744073709551616) : Wds w so r Z := by
  rcases h with ⟨h1, h2⟩ | ⟨g, rfl, h2, h3⟩
  · intro j hj; omega
  · exact h3.wds hZ (Nat.le_refl _)
theorem Own.other {B : Nat} {w : World} {so : Option Addr} {r : Nat} {Z : Nat → Nat} (h : Own B w so r Z) {p : Addr} (hp : p.block < B) (v : Value) : Own B (w.setCell p v) so r Z := by
  rcases h with h | ⟨g, h1, h2, h3⟩
  · exact .inl h
  · exact .inr ⟨g, h1, h2, h3.other (by omega) v⟩
/-- A row and an error number come back. -/
def Gives (E q : Int) (r : Nat) (Z : Nat → Nat) (w : World) (e : Ending) (w' : World) : Prop := Below w.heap.size w w' ∧ ∃ so, Own w.heap.size w' so r Z ∧ e = .returned (.tuple #[bv q so r r, .int .i64 E])
theorem Gives.congr {E q : Int} {r : Nat} {Z Z' : Nat → Nat} {w w' : World} {e : Ending} (h : Gives E q r Z w e w') (hZ : ∀ j, j < r → Z j = Z' j) : Gives E q r Z' w e w' := by
  obtain ⟨h1, so, h2, h3⟩ := h
  refine ⟨h1, so, ?_, h3⟩
  rcases h2 with h | ⟨g, h4, h5, h6⟩
  · exact .inl h
  · exact .inr ⟨g, h4, h5, rowCells_congr hZ ▸ h6⟩
theorem Joined.gives {o : Nat → Nat → Nat} {n m : Int} {k l : Nat} {X Y : Nat → Nat} {w w' : World} {e : Ending} (h : Joined o n m k l X Y w e w') {E q : Int} {r : Nat} (hE : joinE n m k l X Y E q r) : Gives E q r (fun j => o (X j) (Y j)) w e w' := by
  obtain ⟨hb, h⟩ := h
  refine ⟨hb, ?_⟩
  rcases hE with ⟨h1, rfl, rfl, rfl⟩ | ⟨h1, h2, rfl, rfl, rfl⟩ | ⟨h1, h2, rfl, rfl, rfl⟩ <;> rcases h with ⟨h3, rfl⟩ | ⟨h3, h4, rfl⟩ | ⟨h3, h4, g, hg, hrow, rfl⟩
  · exact ⟨none, .inl ⟨rfl, rfl⟩, rfl⟩
  · exact (h1 h3).elim
  · exact (h1 h3).elim
  · exact (h3 h1).elim
  · exact ⟨none, .inl ⟨rfl, rfl⟩, rfl⟩
  · exact (h2 h4).elim
  · exact (h3 h1).elim
  · exact (h4 h2).elim
  · exact ⟨_, .inr ⟨g, rfl, hg, hrow⟩, rfl⟩
/-- Make's errors. -/
def makeE (n : Int) (k : Nat) (Z : Nat → Int) (E q : Int) (r : Nat) : Prop := (¬ good n k Z ∧ E = 2 ∧ q = 0 ∧ r = 0) ∨ (good n k Z ∧ E = 0 ∧ q = n ∧ r = need n.toNat)
theorem Made.gives {n : Int} {k : Nat} {Z : Nat → Int} {w w' : World} {e : Ending} (h : Made w n k Z e w') {E q : Int} {r : Nat} (hE : makeE n k Z E q r) : Gives E q r (rowOf (setTo Z k) n.toNat) w e w' := by
  obtain ⟨hb, h⟩ := h
  refine ⟨hb, ?_⟩
  rcases hE with ⟨h1, rfl, rfl, rfl⟩ | ⟨h1, rfl, rfl, rfl⟩ <;> rcases h with ⟨h3, rfl⟩ | ⟨h3, g, K, hK, hg, hrow, rfl⟩
  · exact ⟨none, .inl ⟨rfl, rfl⟩, rfl⟩
  · exact (h1 h3).elim
  · exact (h3 h1).elim
  · obtain rfl := hK.out
    exact ⟨_, .inr ⟨g, rfl, hg, hrow⟩, rfl⟩
end Go.Proofs.YtlckhiflhnlgpaaGreatDoor

/-
  What words.Prefix comes to.
-/
namespace Go.Proofs.YtlckhiflhnlgpaaGreatDoor
open Go.RowKit

theorem bits_xor_nat (a b : Nat) (ha : a < 18446744073709551616) (hb : b < 18446744073709551616) : bits .xor .u64 (a : Int) (b : Int) = ((a ^^^ b : Nat) : Int) := by
  have hx : a ^^^ b < 2 ^ 64 := Nat.xor_lt_two_pow (n := 64) ha hb
  have h1 : (BitVec.ofInt 64 (a : Int)).toNat = a := by
    rw [BitVec.ofInt_natCast, BitVec.toNat_ofNat]; exact Nat.mod_eq_of_lt ha
  have h2 : (BitVec.ofInt 64 (b : Int)).toNat = b := by
    rw [BitVec.ofInt_natCast, BitVec.toNat_ofNat]; exact Nat.mod_eq_of_lt hb
  show IntKind.u64.wrap ((BitVec.ofInt 64 (a : Int) ^^^ BitVec.ofInt 64 (b : Int)).toNat : Int) = _
  rw [BitVec.toNat_xor, h1, h2, IntKind.wrap_u64]
  omega
set_option maxRecDepth 10000 in
theorem prefix_calls (x S : Nat) (hx : x < 18446744073709551616) (hS : Hid (prefW x = S)) (w : World) : Calls Tryz.prog 94 #[.int .u64 (x:Int)] w fun e w' => e = .returned (.int .u64 (S : Int)) ∧ w' = w := by
  go_enter Tryz.func94, Tryz.ntmps94
  go_wp2
  go_loop [0, 3] (fun v r => ∃ k R X : Nat, Hid (k ≤ 6 ∧ R = 2 ^ k ∧ ∀ i, i < 64 → X.testBit i = xo x.testBit R i) ∧ X < 18446744073709551616 ∧ r = .int .i64 (R : Int) ∧ v = .int .u64 (X : Int)) (fun _ r => 64 - (intOf r).toNat)
  case atStart => exact ⟨0, 1, x, ⟨by decide, by decide, fun i _ => (xo_one _ i).symm⟩, hx, rfl, rfl⟩
  case round =>
    obtain ⟨k, R, X, hk, hX, rfl, rfl⟩ := hrel
    by_cases hlt : k < 6
    · have h1 : R < 64 := by
        rw [hk.out.2.1]; exact Nat.lt_of_lt_of_le (Nat.pow_lt_pow_right (by decide) hlt) (by decide)
      have h0 : 0 < R := by rw [hk.out.2.1]; exact Nat.pow_pos (by decide)
      have e : bits BinOp.xor IntKind.u64 (X : Int) (IntKind.u64.wrap ((X : Int) * 2 ^ R)) = ((reach X R : Nat) : Int) := by
        rw [IntKind.wrap_u64, reach, ← bits_xor_nat X _ hX (Nat.mod_lt _ (by decide))]
        congr 1
      go_wp2
      go_round
      case rel => exact ⟨k + 1, R * 2, reach X R, ⟨hlt, by rw [hk.out.2.1, Nat.pow_succ], reach_bit hk.out.2.2⟩, reach_lt X R hX, by simp, rfl⟩
      case measure => simp [intOf]; omega
    · have hR : R = 64 := by rw [hk.out.2.1, show k = 6 by have := hk.out.1; omega]
      subst hR
      have hXS : X = S := (reach_done hX hk.out.2.2).trans hS.out
      subst hXS
      go_wp2
      go_ret
      exact ⟨rfl, rfl⟩

end Go.Proofs.YtlckhiflhnlgpaaGreatDoor

/-
  What bitmap.Not and bitmap.Prefix answer.
-/
namespace Go.Proofs.YtlckhiflhnlgpaaGreatDoor
open Go.RowKit Go.Shelf

theorem not_eq {x : Nat} (h : x < 18446744073709551616) : bits BinOp.xor IntKind.u64 (if IntKind.u64.signed = true then -1 else IntKind.u64.max) (x : Int) = ((18446744073709551615 ^^^ x : Nat) : Int) := by
  rw [show (if IntKind.u64.signed = true then (-1 : Int) else IntKind.u64.max) = ((18446744073709551615 : Nat) : Int) by decide]
  exact bits_xor_nat 18446744073709551615 x (by decide) h
theorem not_bit (v i : Nat) (hi : i < 64) : (18446744073709551615 ^^^ v).testBit i = !v.testBit i := by
  rw [Nat.testBit_xor, show (18446744073709551615 : Nat) = 2 ^ 64 - 1 by decide, Nat.testBit_two_pow_sub_one]
  simp [hi]

set_option maxRecDepth 10000 in
theorem not_turns (n0 n1 m k : Nat) (X : Nat → Nat) (hX : ∀ j, j < k → X j < 18446744073709551616) : Turns n0 n1 m 98 #[] k X (fun j => 18446744073709551615 ^^^ X j) (fun _ _ => True) := by
  refine ⟨enters_of Tryz.func98 (by kernel_rfl) rfl, fun j hj => Nat.xor_lt_two_pow (n := 64) (by decide) (hX j hj), fun _ _ _ _ _ => trivial, fun j w1 hj _ _ => ?_⟩
  obtain ⟨x, hx⟩ : ∃ x, X j = x := ⟨_, rfl⟩
  have hxl := hX j hj
  dsimp only
  rw [hx] at hxl ⊢
  have e1 := not_eq hxl
  obtain ⟨y, hy⟩ : ∃ y, 18446744073709551615 ^^^ x = y := ⟨_, rfl⟩
  rw [hy] at e1 ⊢
  have e2 : Hid _ := e1
  clear hx hy e1 hX
  rw [show (#[Value.int .u64 (x : Int)] ++ #[] : Array Value) = #[.int .u64 (x : Int)] from rfl]
  go_enter Tryz.func98, Tryz.ntmps98
  go_wp2_with (simp only [e2.out])
  go_ret
  exact ⟨rfl, Below.refl _ _, fun _ _ _ _ h => h⟩

set_option maxRecDepth 10000 in
set_option maxHeartbeats 1000000 in
theorem not_calls (n : Int) (ao : Option Addr) (k cap : Nat) (X : Nat → Nat) (E q : Int) (r : Nat) (hn : (Lit.int .i64 n).wf = true) (hk : k ≤ 17592186044416) (hE : Hid (turnE n k X E q r)) (w : World) (hW : Wds w ao k X) :
    Calls Tryz.prog 76 #[bv n ao k cap] w fun e w' => Gives E q r (rowOf (fun i => !bitAt X i) n.toNat) w e w' := by
  rcases hE.out with ⟨h1, rfl, rfl, rfl⟩ | ⟨h1, rfl, rfl, rfl⟩
  · refine (notBad_calls n ao k cap X hn hk h1 w hW).mono ?_
    rintro e w' ⟨rfl, hb⟩
    exact ⟨hb, none, .inl ⟨rfl, rfl⟩, rfl⟩
  · have h1' : Hid (formed q r X) := h1
    have hX := fun j hj => (hW j hj).1
    have hc : Hid _ := fun (w1 : World) (hb : Below w.heap.size w w1) (hm : w.heap.size < w1.heap.size) => changed_calls w w1 w.heap.size 98 #[] q ao r cap X _ _ (not_turns w.heap.size w1.heap.size w.heap.size r X hX) hn hk h1' hW hb hm trivial
    have hX' : Hid _ := hX
    clear hE h1 hW hn hX
    go_enter Tryz.func76, Tryz.ntmps76
    go_wp2_with fail
    refine Calls.mono (hc.out _ (by repeat (first | with_reducible exact Below.refl _ _ | with_reducible refine Below.setCell ?_ (by first | (simp; done) | (simp; omega)) _ | with_reducible refine below_drewN ?_ _ | with_reducible refine Below.alloc ?_ (by first | (simp; done) | (simp; omega)) _ | with_reducible refine Below.drew ?_)) (by simp; omega)) ?_
    rintro e w1 ⟨⟨g, hg, hrow, rfl⟩, hb, hkp⟩
    have a1 : At w1 (w.heap.size + 1) #[.int .i64 0, .slice none 0 0] 81 := by
      have := hkp (w.heap.size + 1) _ _ (by omega) (by have := At.new (w.alloc (.cells #[.int .i64 q, .slice ao r cap] 81)) #[.int .i64 0, .slice none 0 0] 81; simpa using this)
      exact this
    obtain ⟨c0, c1, f0, f1⟩ := a1.facts
    have a1' : Hid (At w1 (w.heap.size + 1) #[.int .i64 0, .slice none 0 0] 81) := a1
    have hg' : w.heap.size + 2 ≤ g := by simp at hg; omega
    have hrow' : Hid (At w1 g (rowCells r (fun j => (18446744073709551615 ^^^ X j) &&& lowm (q - 64 * (j : Int)))) 49) := hrow
    clear hc a1 hkp hrow hg
    go_wp2
    refine ret_bits2 rfl rfl a1'.out.two rfl ⟨(hb.setCell (p := ⟨w.heap.size + 1, 0, none⟩) (by show w.heap.size ≤ w.heap.size + 1; omega) _).setCell (p := ⟨w.heap.size + 1, 1, none⟩) (by show w.heap.size ≤ w.heap.size + 1; omega) _, _, .inr ⟨g, rfl, by omega, ?_⟩, rfl⟩
    obtain ⟨N, rfl⟩ := Int.eq_ofNat_of_zero_le h1'.out.1
    rw [Int.toNat_natCast, show rowCells r (rowOf (fun i => !bitAt X i) N) = rowCells r (fun j => (18446744073709551615 ^^^ X j) &&& lowm ((N : Int) - 64 * (j : Int))) from
      rowCells_congr (fun j hj => (turn_row (Nat.xor_lt_two_pow (n := 64) (by decide) (hX'.out j hj)) (fun t ht => by rw [not_bit _ _ ht, bitAt_word X j t ht])).symm)]
    exact (hrow'.out.other (p := ⟨w.heap.size + 1, 0, none⟩) (by show g ≠ w.heap.size + 1; omega) _).other (p := ⟨w.heap.size + 1, 1, none⟩) (by show g ≠ w.heap.size + 1; omega) _

/-- What Prefix has kept behind j words. -/
def odW (X : Nat → Nat) (j : Nat) : Nat := if oddB X (64 * j) then 18446744073709551615 else 0
theorem odW_lt (X : Nat → Nat) (j : Nat) : odW X j < 18446744073709551616 := by unfold odW; split <;> decide
theorem odW_bit (X : Nat → Nat) (j r : Nat) (hr : r < 64) : (odW X j).testBit r = oddB X (64 * j) := by
  unfold odW
  split
  · rename_i h
    rw [show (18446744073709551615 : Nat) = 2 ^ 64 - 1 by decide, Nat.testBit_two_pow_sub_one, h]
    simp [hr]
  · rename_i h
    have : oddB X (64 * j) = false := by simpa using h
    rw [this]; simp
theorem prefC_bit (X : Nat → Nat) (j r : Nat) (hr : r < 64) : (prefW (X j) ^^^ odW X j).testBit r = oddB X (64 * j + r + 1) := by
  rw [Nat.testBit_xor, prefW_bit _ _ hr, odW_bit _ _ _ hr, show 64 * j + r + 1 = 64 * j + (r + 1) by omega, oddB_word X j (r + 1) (by omega), Bool.xor_comm]
theorem odW_next {X : Nat → Nat} {j p : Nat} (hp : prefW (X j) ^^^ odW X j = p) : IntKind.u64.wrap (-((p : Int) / 2 ^ 63)) = ((odW X (j + 1) : Nat) : Int) := by
  have hl : p < 18446744073709551616 := hp ▸ Nat.xor_lt_two_pow (n := 64) (prefW_lt _) (odW_lt _ _)
  have hb := prefC_bit X j 63 (by decide)
  rw [hp, show 64 * j + 63 + 1 = 64 * (j + 1) by omega, Nat.testBit_eq_decide_div_mod_eq] at hb
  have e : ((p : Int) / 2 ^ 63) = ((p / 2 ^ 63 : Nat) : Int) := by simp
  rw [e, IntKind.wrap_u64, odW, ← hb]
  simp only [Nat.reducePow, decide_eq_true_eq]
  split <;> omega

set_option maxRecDepth 10000 in
set_option maxHeartbeats 1000000 in
theorem prefix_turns (n0 n1 m k : Nat) (hm : n0 ≤ m) (hm1 : m < n1) (X : Nat → Nat) (hX : ∀ j, j < k → X j < 18446744073709551616) : Turns n0 n1 m 93 #[.pointer (some ⟨m, 0, none⟩)] k X (fun j => prefW (X j) ^^^ odW X j) (fun j w => At w m #[.int .u64 ((odW X j : Nat) : Int)] 49) := by
  refine ⟨enters_of Tryz.func93 (by kernel_rfl) rfl, fun j _ => Nat.xor_lt_two_pow (n := 64) (prefW_lt _) (odW_lt _ _), fun _ _ _ h hb => h.kept hb hm1, fun j w1 hj hS _ => ?_⟩
  obtain ⟨p, hp⟩ : ∃ p, Hid (prefW (X j) ^^^ odW X j = p) := ⟨_, rfl⟩
  have e3 := odW_next hp.out
  obtain ⟨P, hP⟩ : ∃ P, Hid (prefW (X j) = P) := ⟨_, rfl⟩
  obtain ⟨d, hd⟩ : ∃ d, Hid (odW X j = d) := ⟨_, rfl⟩
  obtain ⟨d2, hd2⟩ : ∃ d, Hid (odW X (j + 1) = d) := ⟨_, rfl⟩
  have hPl : P < 18446744073709551616 := hP.out ▸ prefW_lt _
  have hdl : d < 18446744073709551616 := hd.out ▸ odW_lt _ _
  have hpl : p < 18446744073709551616 := hp.out ▸ Nat.xor_lt_two_pow (n := 64) (prefW_lt _) (odW_lt _ _)
  have e2 : bits BinOp.xor IntKind.u64 (P : Int) (d : Int) = (p : Int) := by rw [bits_xor_nat P d hPl hdl, ← hp.out, hP.out, hd.out]
  simp only [hp.out, hd2.out]
  rw [hd2.out] at e3
  dsimp only at hS
  rw [hd.out] at hS
  have hxl := hX j hj
  have hpc : Hid _ := fun w => prefix_calls (X j) P hxl hP w
  obtain ⟨x, hx⟩ : ∃ x, X j = x := ⟨_, rfl⟩
  rw [hx] at hpc hxl ⊢
  have cS := hS.cell 0
  have fS := hS.frozen 0
  simp only [List.getElem?_toArray, List.getElem?_cons_zero] at cS
  have hS' : Hid (At w1 m #[.int .u64 (d : Int)] 49) := hS
  have e3' : IntKind.u64.wrap (-((p : Int) / 9223372036854775808)) = (d2 : Int) := by simpa using e3
  have e4 : Hid _ := e3'
  clear hx hX hS hp hP hd hd2 e3 e3'
  rw [show (#[Value.int .u64 (x : Int)] ++ #[.pointer (some ⟨m, 0, none⟩)] : Array Value) = #[.int .u64 (x : Int), .pointer (some ⟨m, 0, none⟩)] from rfl]
  go_enter Tryz.func93, Tryz.ntmps93
  go_wp2
  go_quiet ((go_at_call 94; refine (hpc.out _).mono ?_; rintro e w' ⟨rfl, rfl⟩; exact ⟨rfl, _, rfl⟩))
  go_wp2
  rw [e4.out]
  go_ret
  refine ⟨rfl, ?_, (below_drewN (Below.refl _ _) _).setCell (p := ⟨m, 0, none⟩) hm _, fun b cs t hb h => (h.drewN nq).other (p := ⟨m, 0, none⟩) hb _⟩
  exact (hS'.out.drewN nq).set 0 _

set_option maxRecDepth 10000 in
set_option maxHeartbeats 1000000 in
theorem prefixB_calls (n : Int) (ao : Option Addr) (k cap : Nat) (X : Nat → Nat) (E q : Int) (r : Nat) (hn : (Lit.int .i64 n).wf = true) (hk : k ≤ 17592186044416) (hE : Hid (turnE n k X E q r)) (w : World) (hW : Wds w ao k X) :
    Calls Tryz.prog 73 #[bv n ao k cap] w fun e w' => Gives E q r (rowOf (fun i => oddB X (i + 1)) n.toNat) w e w' := by
  have hmf : ∀ (fn : Fn) (first cap : Array Value) (w : World), (Instr.makeFunc fn first cap).run Tryz.prog w = .ok (.func fn first cap) w := fun _ _ _ _ => rfl
  rcases hE.out with ⟨h1, rfl, rfl, rfl⟩ | ⟨h1, rfl, rfl, rfl⟩
  · have hc : Hid _ := fun (f : Value) (w1 : World) (hb : Below w.heap.size w w1) => changedBad_calls n ao k cap X f hn hk h1 w1 (hW.kept hb)
    clear hE h1 hW hn
    go_enter Tryz.func73, Tryz.ntmps73
    go_wp2_with fail
    refine Calls.mono (hc.out _ _ (by repeat (first | with_reducible exact Below.refl _ _ | with_reducible refine Below.setCell ?_ (by first | (simp; done) | (simp; omega)) _ | with_reducible refine below_drewN ?_ _ | with_reducible refine Below.alloc ?_ (by first | (simp; done) | (simp; omega)) _ | with_reducible refine Below.drew ?_))) ?_
    rintro e w1 ⟨rfl, hb⟩
    have a1 : At w1 (w.heap.size + 1) #[.int .i64 0, .slice none 0 0] 81 := by
      have := ((At.new (w.alloc (.cells #[.int .i64 n, .slice ao k cap] 81)) #[.int .i64 0, .slice none 0 0] 81).alloc _).keptAll (by exact hb)
      simpa using this
    have hB1 : Below w.heap.size w w1 := Below.trans (by repeat (first | with_reducible exact Below.refl _ _ | with_reducible refine Below.setCell ?_ (by first | (simp; done) | (simp; omega)) _ | with_reducible refine below_drewN ?_ _ | with_reducible refine Below.alloc ?_ (by first | (simp; done) | (simp; omega)) _ | with_reducible refine Below.drew ?_)) (hb.mono (by simp; try omega))
    obtain ⟨c0, c1, f0, f1⟩ := a1.facts
    have a1' : Hid (At w1 (w.heap.size + 1) #[.int .i64 0, .slice none 0 0] 81) := a1
    clear hb a1 hc
    go_wp2
    exact ret_bits2 rfl rfl a1'.out.two rfl ⟨(hB1.setCell (p := ⟨w.heap.size + 1, 0, none⟩) (by show w.heap.size ≤ w.heap.size + 1; omega) _).setCell (p := ⟨w.heap.size + 1, 1, none⟩) (by show w.heap.size ≤ w.heap.size + 1; omega) _, none, .inl ⟨rfl, rfl⟩, rfl⟩
  · have h1' : Hid (formed q r X) := h1
    have hX := fun j hj => (hW j hj).1
    have hc : Hid _ := fun (w1 : World) (hb : Below w.heap.size w w1) (hm : w.heap.size + 2 < w1.heap.size) (hS : At w1 (w.heap.size + 2) #[.int .u64 ((odW X 0 : Nat) : Int)] 49) => changed_calls w w1 (w.heap.size + 2) 93 #[.pointer (some ⟨w.heap.size + 2, 0, none⟩)] q ao r cap X _ _ (prefix_turns w.heap.size w1.heap.size (w.heap.size + 2) r (by omega) hm X hX) hn hk h1' hW hb hm hS
    clear hE h1 hW hn hX
    go_enter Tryz.func73, Tryz.ntmps73
    go_wp2_with fail
    refine Calls.mono (hc.out _ (by repeat (first | with_reducible exact Below.refl _ _ | with_reducible refine Below.setCell ?_ (by first | (simp; done) | (simp; omega)) _ | with_reducible refine below_drewN ?_ _ | with_reducible refine Below.alloc ?_ (by first | (simp; done) | (simp; omega)) _ | with_reducible refine Below.drew ?_)) (by simp; try omega) ?_) ?_
    · have := At.new ((w.alloc (.cells #[.int .i64 q, .slice ao r cap] 81)).alloc (.cells #[.int .i64 0, .slice none 0 0] 81)) #[.int .u64 0] 49
      simpa [odW, oddB] using this
    rintro e w1 ⟨⟨g, hg, hrow, rfl⟩, hb, hkp⟩
    have a1 : At w1 (w.heap.size + 1) #[.int .i64 0, .slice none 0 0] 81 := by
      have := hkp (w.heap.size + 1) _ _ (by omega) (by have := (At.new (w.alloc (.cells #[.int .i64 q, .slice ao r cap] 81)) #[.int .i64 0, .slice none 0 0] 81).alloc (.cells #[.int .u64 0] 49); simpa using this)
      exact this
    obtain ⟨c0, c1, f0, f1⟩ := a1.facts
    have a1' : Hid (At w1 (w.heap.size + 1) #[.int .i64 0, .slice none 0 0] 81) := a1
    have hg' : w.heap.size + 3 ≤ g := by simp at hg; omega
    have hrow' : Hid (At w1 g (rowCells r (fun j => (prefW (X j) ^^^ odW X j) &&& lowm (q - 64 * (j : Int)))) 49) := hrow
    clear hc a1 hkp hrow hg
    go_wp2
    refine ret_bits2 rfl rfl a1'.out.two rfl ⟨(hb.setCell (p := ⟨w.heap.size + 1, 0, none⟩) (by show w.heap.size ≤ w.heap.size + 1; omega) _).setCell (p := ⟨w.heap.size + 1, 1, none⟩) (by show w.heap.size ≤ w.heap.size + 1; omega) _, _, .inr ⟨g, rfl, by omega, ?_⟩, rfl⟩
    obtain ⟨N, rfl⟩ := Int.eq_ofNat_of_zero_le h1'.out.1
    rw [Int.toNat_natCast, show rowCells r (rowOf (fun i => oddB X (i + 1)) N) = rowCells r (fun j => (prefW (X j) ^^^ odW X j) &&& lowm ((N : Int) - 64 * (j : Int))) from
      rowCells_congr (fun j _ => (turn_row (Nat.xor_lt_two_pow (n := 64) (prefW_lt _) (odW_lt _ _)) (fun t ht => prefC_bit X j t ht)).symm)]
    exact (hrow'.out.other (p := ⟨w.heap.size + 1, 0, none⟩) (by show g ≠ w.heap.size + 1; omega) _).other (p := ⟨w.heap.size + 1, 1, none⟩) (by show g ≠ w.heap.size + 1; omega) _
end Go.Proofs.YtlckhiflhnlgpaaGreatDoor

/-
  What math/bits.Len64 answers.
-/
namespace Go.Proofs.YtlckhiflhnlgpaaGreatDoor

end Go.Proofs.YtlckhiflhnlgpaaGreatDoor

/-
  What the calls that ask a row of bits have in common.
-/
namespace Go.Proofs.YtlckhiflhnlgpaaGreatDoor
open Go.RowKit Go.Shelf

end Go.Proofs.YtlckhiflhnlgpaaGreatDoor

/- GetWalk, CountWalk, NextWalk. -/
/-
  What bitmap.Get answers.
-/
namespace Go.Proofs.YtlckhiflhnlgpaaGreatDoor
open Go.RowKit Go.Shelf

end Go.Proofs.YtlckhiflhnlgpaaGreatDoor

/-
  What bitmap.Count answers.
-/
namespace Go.Proofs.YtlckhiflhnlgpaaGreatDoor
open Go.RowKit Go.Shelf

end Go.Proofs.YtlckhiflhnlgpaaGreatDoor

/-
  What bitmap.Next answers.
-/
namespace Go.Proofs.YtlckhiflhnlgpaaGreatDoor
open Go.RowKit Go.Shelf

end Go.Proofs.YtlckhiflhnlgpaaGreatDoor
