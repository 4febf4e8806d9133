/-
  What bitmap.changed answers of a row of bits.
-/
import Derived.Test.YtmjmcdoanolelaaDoorJoinWalk
import Derived.Test.YtmjmcdoanolelaaDoorChangedBad
import Derived.Shelf.Abstract
namespace Go.Proofs.YtmjmcdoanolelaaDoor
open Go.RowKit Go.Shelf

/-- The function that is handed in makes of the row's words, one behind the other, these; S is what it keeps, in block m. -/
def Turns (n0 n1 m gf : Nat) (lb : Array Value) (k : Nat) (X C : Nat → Nat) (S : Nat → World → Prop) : Prop := (∀ args w, (callFunc gf args).run Tryd.prog w = .ok (.enter gf args) w) ∧
  (∀ j, j < k → C j < 18446744073709551616) ∧ (∀ j w1 w2, S j w1 → Below n1 w1 w2 → S j w2) ∧
  ∀ (j : Nat) (w1 : World), j < k → S j w1 → n1 ≤ w1.heap.size → Calls Tryd.prog gf (#[.int .u64 ((X j : Nat) : Int)] ++ lb) w1 fun e w' => e = .returned (.int .u64 ((C j : Nat) : Int)) ∧ S (j + 1) w' ∧ Below n0 w1 w' ∧ ∀ b cs t, b ≠ m → At w1 b cs t → At w' b cs t

set_option maxRecDepth 10000 in
set_option maxHeartbeats 4000000 in
theorem changed_calls (w0 w : World) (m gf : Nat) (lb : Array Value) (n : Int) (ao : Option Addr) (k cap : Nat) (X C : Nat → Nat) (S : Nat → World → Prop) (hgf : Turns w0.heap.size w.heap.size m gf lb k X C S) (hn : (Lit.int .i64 n).wf = true) (hk : k ≤ 17592186044416)
    (hf : Hid (formed n k X)) (hW : Wds w0 ao k X) (hb0 : Below w0.heap.size w0 w) (hm : m < w.heap.size) (hS : S 0 w) :
    Calls Tryd.prog 41 #[bv n ao k cap, .func (.func gf) #[] lb] w fun e w' =>
      (∃ g, w.heap.size ≤ g ∧ At w' g (rowCells k (fun j => C j &&& lowm (n - 64 * (j : Int)))) 46 ∧ e = .returned (.tuple #[bv n (some ⟨g, 0, none⟩) k k, .int .i64 0])) ∧ Below w0.heap.size w0 w' ∧ ∀ b cs t, b ≠ m → At w b cs t → At w' b cs t := by
  obtain ⟨hn1, hn2⟩ := wf_i64 hn
  have hsz0 := hb0.size
  obtain ⟨N, rfl⟩ := Int.eq_ofNat_of_zero_le hf.out.1
  have hkN : 64 * k ≤ N + 63 ∧ N ≤ 64 * k := by have := hf.out.2.1; simp at this; unfold need at this; omega
  have hfc : Hid _ := fun (w1 : World) (hb : Below w.heap.size w w1) => formed_calls N ao k cap X true hn hk ⟨fun _ => rfl, fun _ => hf.out⟩ w1 ((hW.kept hb0).kept hb)
  have hmk := fun u => make_row k hk u
  obtain ⟨he, hC, hst, hcl⟩ := hgf
  have hst' : Hid _ := hst
  have hcl' : Hid _ := hcl
  have hC' : Hid _ := hC
  clear hn hst hcl hC
  go_enter Tryd.func41, Tryd.ntmps41
  have A2 : At ((w.alloc (.cells #[.int .i64 (N : Int), .slice ao k cap] 25)).alloc (.cells #[.int .i64 0, .slice none 0 0] 25)) (w.heap.size + 1) #[.int .i64 0, .slice none 0 0] 25 := by
    have := At.new (w.alloc (.cells #[.int .i64 (N : Int), .slice ao k cap] 25)) #[.int .i64 0, .slice none 0 0] 25
    simpa using this
  have A1 : At ((w.alloc (.cells #[.int .i64 (N : Int), .slice ao k cap] 25)).alloc (.cells #[.int .i64 0, .slice none 0 0] 25)) w.heap.size #[.int .i64 (N : Int), .slice ao k cap] 25 := (At.new w _ _).alloc _
  have A2' : Hid _ := A2
  have A1' : Hid _ := A1
  clear A1 A2
  go_wp2_with fail
  refine Calls.mono (hfc.out _ (by repeat (first | with_reducible exact Below.refl _ _ | with_reducible refine Below.setCell ?_ (by first | (simp; done) | (simp; omega)) _ | with_reducible refine below_drewN ?_ _ | with_reducible refine Below.alloc ?_ (by first | (simp; done) | (simp; omega)) _ | with_reducible refine Below.drew ?_))) ?_
  rintro e w1 ⟨rfl, hb1⟩
  have a1 : At w1 w.heap.size #[.int .i64 (N : Int), .slice ao k cap] 25 := At.keptAll A1'.out hb1
  have a2 : At w1 (w.heap.size + 1) #[.int .i64 0, .slice none 0 0] 25 := At.keptAll A2'.out hb1
  have hB1 : Below w.heap.size w w1 := Below.trans (by repeat (first | with_reducible exact Below.refl _ _ | with_reducible refine Below.setCell ?_ (by first | (simp; done) | (simp; omega)) _ | with_reducible refine below_drewN ?_ _ | with_reducible refine Below.alloc ?_ (by first | (simp; done) | (simp; omega)) _ | with_reducible refine Below.drew ?_)) (hb1.mono (by simp; omega))
  clear A1' A2' hb1 hfc
  obtain ⟨a10, a11, -, -⟩ := a1.facts
  have hlt1 := a2.lt
  have a1' : Hid (At w1 w.heap.size #[.int .i64 (N : Int), .slice ao k cap] 25) := a1
  have a2' : Hid (At w1 (w.heap.size + 1) #[.int .i64 0, .slice none 0 0] 25) := a2
  have a11n : (w1.alloc (.cells (rowCells k (fun _ => 0)) 46)).cell? ⟨w.heap.size, 1, none⟩ = some (.slice ao k cap) := (a1'.out.alloc _).cell 1
  have hW' : Hid (Wds w0 ao k X) := hW
  have hS' : Hid (S 0 w) := hS
  have hf' : Hid (formed N k X) := hf.out
  clear a1 a2 hW hS hf hn1 hn2
  go_wp2
  go_loopw [7, 8, 20] (fun _ _ ii wr => ∃ j : Nat, j ≤ k ∧ ii = .int .i64 (j : Int) ∧ At wr w.heap.size #[.int .i64 (N : Int), .slice ao k cap] 25 ∧ At wr (w.heap.size + 1) #[.int .i64 0, .slice none 0 0] 25 ∧
      At wr w1.heap.size (rowCells k (fun i => if i < j then C i &&& lowm ((N : Int) - 64 * (i : Int)) else 0)) 46 ∧ Hid (S j wr) ∧ Below w0.heap.size w0 wr ∧ Hid (∀ b cs t, b ≠ m → At w b cs t → At wr b cs t) ∧ w.heap.size ≤ wr.heap.size) (fun _ _ ii _ => k - (intOf ii).toNat)
  case atStart =>
    refine ⟨0, Nat.zero_le _, rfl, a1'.out.alloc _, a2'.out.alloc _, ?_, ?_, ?_, fun b cs t _ h => (h.keptAll hB1).alloc _, by simp; have := hB1.size; omega⟩
    · rw [show rowCells k (fun i => if i < 0 then C i &&& lowm ((N : Int) - 64 * (i : Int)) else 0) = rowCells k (fun _ => 0) from rowCells_congr (fun j _ => by rw [if_neg (by omega)])]
      exact At.new w1 _ _
    · exact hst'.out 0 w _ hS'.out (hB1.alloc hB1.size _)
    · exact (hb0.trans (hB1.mono hsz0)).alloc (by have := hB1.size; omega) _
  case round =>
    obtain ⟨j, hj, rfl, b1, b2, b4, hSj, hb, hkp, hszr⟩ := hrel
    obtain ⟨b10, b11, -, -⟩ := b1.facts
    by_cases hlt : j < k
    · obtain ⟨hx, g1, o1, rfl, hc1⟩ := hW'.out j hlt
      have d1 := (hb.cell (p := ⟨g1, o1 + j, none⟩) (cell_block hc1)).trans hc1
      have hcj := hcl'.out j
      obtain ⟨x, hx'⟩ : ∃ x, Hid (X j = x) := ⟨_, rfl⟩
      rw [hx'.out] at d1 hx hcj
      obtain ⟨c, hc'⟩ : ∃ c, Hid (C j = c) := ⟨_, rfl⟩
      rw [hc'.out] at hcj
      have hcl2 : c < 18446744073709551616 := hc'.out ▸ hC'.out j hlt
      obtain ⟨M, hM⟩ : ∃ M, Hid (lowm ((N : Int) - 64 * (j : Int)) = M) := ⟨_, rfl⟩
      have hMl : M < 18446744073709551616 := hM.out ▸ lowm_lt _
      have hbel : Hid _ := fun w => below_calls ((N : Int) - 64 * (j : Int)) M hM w
      have e1 : bits BinOp.and IntKind.u64 (c : Int) (M : Int) = ((c &&& M : Nat) : Int) := u64_and_nat c M hcl2 hMl
      have hcj' : Hid _ := fun (w2 : World) (h : Below w.heap.size wr w2) => hcj w2 hlt (hst'.out j wr w2 hSj.out h) (Nat.le_trans hszr h.size)
      have b1' : Hid (At wr w.heap.size #[.int .i64 (N : Int), .slice (some ⟨g1, o1, none⟩) k cap] 25) := b1
      have b2' : Hid (At wr (w.heap.size + 1) #[.int .i64 0, .slice none 0 0] 25) := b2
      have b4' : Hid (At wr w1.heap.size (rowCells k (fun i => if i < j then C i &&& lowm ((N : Int) - 64 * (i : Int)) else 0)) 46) := b4
      have ew1 : IntKind.i64.wrap (64 * (j : Int)) = 64 * (j : Int) := by rw [IntKind.wrap_i64]; omega
      have ew2 : IntKind.i64.wrap ((N : Int) - 64 * (j : Int)) = (N : Int) - 64 * (j : Int) := by rw [IntKind.wrap_i64]; omega
      clear b1 b2 b4 hcj hcl' hmk hc1 hW' hS'
      go_wp2
      go_region_with (first
        | (go_at_call 56; refine (hbel.out _).mono ?_; rintro e w4 ⟨rfl, hw4⟩; obtain rfl := hw4.symm)
        | (refine Calls.mono (hcj'.out _ (Below.drew (Below.refl _ _))) ?_; rintro e w3 ⟨rfl, hS3, hb3, hk3⟩; have c1 := hk3 _ _ _ (by omega) b1'.out.drew; obtain ⟨c10, c11, -, -⟩ := c1.facts; have c4 := hk3 _ _ _ (by omega) b4'.out.drew; have c4c := c4.cell j; rw [rowCells_get _ hlt] at c4c; have c4f := c4.frozen j))
      all_goals
        have c2 := hk3 _ _ _ (by omega) b2'.out.drew
        have c4' : Hid (At w3 w1.heap.size (rowCells k (fun i => if i < j then C i &&& lowm ((N : Int) - 64 * (i : Int)) else 0)) 46) := c4
        have c2' : Hid (At w3 (w.heap.size + 1) #[.int .i64 0, .slice none 0 0] 25) := c2
        have c1' : Hid (At w3 w.heap.size #[.int .i64 (N : Int), .slice (some ⟨g1, o1, none⟩) k cap] 25) := c1
        have hS3' : Hid _ := hS3
        have hk3' : Hid _ := hk3
        clear c1 c2 c4 hS3 hk3
        go_wp2
        go_roundw
        case rel =>
          have hs3 := hb3.size
          refine ⟨j + 1, by omega, by simp, c1'.out.other (p := ⟨w1.heap.size, j, none⟩) (by show w.heap.size ≠ w1.heap.size; omega) _, c2'.out.other (p := ⟨w1.heap.size, j, none⟩) (by show w.heap.size + 1 ≠ w1.heap.size; omega) _, ?_, ?_, ?_, ?_, ?_⟩
          · have h1 := c4'.out.set j (.int .u64 ((c &&& M : Nat) : Int))
            rw [rowCells_set] at h1
            rw [show rowCells k (fun i => if i < j + 1 then C i &&& lowm ((N : Int) - 64 * (i : Int)) else 0) = rowCells k (fun i => if i = j then c &&& M else if i < j then C i &&& lowm ((N : Int) - 64 * (i : Int)) else 0) from rowCells_congr (fun i _ => by
              by_cases hij : i = j
              · rw [if_pos (by omega), if_pos hij, hij, hc'.out, hM.out]
              · by_cases hl : i < j
                · rw [if_pos (by omega), if_neg hij, if_pos hl]
                · rw [if_neg (by omega), if_neg hij, if_neg hl])]
            exact h1
          · exact hst'.out (j + 1) w3 _ hS3'.out ((Below.refl _ _).setCell (p := ⟨w1.heap.size, j, none⟩) (by show w.heap.size ≤ w1.heap.size; omega) _)
          · exact (hb.drew.trans hb3).setCell (p := ⟨w1.heap.size, j, none⟩) (by show w0.heap.size ≤ w1.heap.size; omega) _
          · intro b cs t hbm h
            have hlt' := h.lt
            exact (hk3'.out b cs t hbm (hkp.out b cs t hbm h).drew).other (p := ⟨w1.heap.size, j, none⟩) (by show b ≠ w1.heap.size; omega) _
          · simp at hs3 ⊢; omega
        case measure => simp [intOf]; omega
    · obtain rfl : j = k := by omega
      obtain ⟨b20, b21, f20, f21⟩ := b2.facts
      have b2' : Hid (At wr (w.heap.size + 1) #[.int .i64 0, .slice none 0 0] 25) := b2
      have b4' : Hid (At wr w1.heap.size (rowCells j (fun i => if i < j then C i &&& lowm ((N : Int) - 64 * (i : Int)) else 0)) 46) := b4
      clear b1 b2 b4 hcl' hmk hW' hS' hSj
      go_wp2
      refine ret_bits2 rfl rfl b2'.out.two rfl ⟨⟨w1.heap.size, by omega, ?_, rfl⟩, ?_, ?_⟩
      · rw [show rowCells j (fun i => C i &&& lowm ((N : Int) - 64 * (i : Int))) = rowCells j (fun i => if i < j then C i &&& lowm ((N : Int) - 64 * (i : Int)) else 0) from rowCells_congr (fun i hi => by rw [if_pos hi])]
        exact (b4'.out.other (p := ⟨w.heap.size + 1, 0, none⟩) (by show w1.heap.size ≠ w.heap.size + 1; omega) _).other (p := ⟨w.heap.size + 1, 1, none⟩) (by show w1.heap.size ≠ w.heap.size + 1; omega) _
      · exact (hb.setCell (p := ⟨w.heap.size + 1, 0, none⟩) (by show w0.heap.size ≤ w.heap.size + 1; omega) _).setCell (p := ⟨w.heap.size + 1, 1, none⟩) (by show w0.heap.size ≤ w.heap.size + 1; omega) _
      · intro b cs t hbm h
        have hlt' := h.lt
        exact ((hkp.out b cs t hbm h).other (p := ⟨w.heap.size + 1, 0, none⟩) (by show b ≠ w.heap.size + 1; omega) _).other (p := ⟨w.heap.size + 1, 1, none⟩) (by show b ≠ w.heap.size + 1; omega) _
end Go.Proofs.YtmjmcdoanolelaaDoor
