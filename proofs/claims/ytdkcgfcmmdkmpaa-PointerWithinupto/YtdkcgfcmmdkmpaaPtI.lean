/-
  The law PointerParses, walked.
-/
import Derived.Test.YtdkcgfcmmdkmpaaPtH
namespace Go.Proofs.Ytdkcgfcmmdkmpaa
open Go.RowKit Go.Shelf

/-- Lists of texts that are the same. -/
theorem sameT_yes (L : List ByteArray) (hl : L.length ≤ capT) (ao bo : Option Addr) (n cap cap' : Nat) (hn : Hid (L.length = n)) (w : World) (hA : KeysAt w ao L) (hB : KeysAt w bo L) :
    Calls Try.prog 9 #[.slice ao n cap, .slice bo n cap'] w fun e w' => e = .returned (.bool true) ∧ Below w.heap.size w w' := by
  rw [← hn.out]
  refine (sameK_calls L L hl hl ao bo cap cap' w hA hB).mono ?_
  rintro e w' ⟨B, rfl, h, hb⟩
  exact ⟨by rw [h.2 rfl], hb⟩
theorem KeysG.keys {B : Nat} {W : World} {so : Option Addr} {n cap : Nat} {ks : List ByteArray} (h : KeysG B W (.slice so n cap) ks) : KeysAt W so ks := (h.row.2).at
/-- Two texts in a new block. -/
theorem keys_two (w : World) (x y : ByteArray) (hx : x.size ≤ capT) (hy : y.size ≤ capT) : KeysAt (w.alloc (.cells #[.string x, .string y] 9)) (some ⟨w.heap.size, 0, none⟩) [x, y] := by
  have hA := At.new w #[.string x, .string y] 9
  intro i s hi
  match i, hi with
  | 0, hi => cases hi; exact ⟨hx, _, _, rfl, hA.lt, hA.cell 0⟩
  | 1, hi => cases hi; exact ⟨hy, _, _, rfl, hA.lt, hA.cell 1⟩
theorem ptN_len (l : List UInt8) : (ptN l).length ≤ l.length := by
  unfold ptN
  cases l with
  | nil => simp [ptrL]
  | cons d t =>
    by_cases h : d = 47
    · rw [ptrL, if_pos h]
      have hc := cuL_count t
      cases hm : mnAll (cuL t) with
      | none => simp
      | some L =>
        have := mnAll_len hm
        simp
        omega
    · rw [ptrL, if_neg h]; simp
where
  mnAll_len : ∀ {R L : List (List UInt8)}, mnAll R = some L → L.length = R.length
  | [], L, h => by cases h; rfl
  | a :: R, L, h => by
    rw [mnAll] at h
    cases ha : mnL a with
    | none => rw [ha] at h; simp at h
    | some b =>
      cases hR : mnAll R with
      | none => rw [ha, hR] at h; simp at h
      | some c =>
        rw [ha, hR] at h
        cases h
        simp [mnAll_len hR]
set_option maxRecDepth 10000 in
set_option maxHeartbeats 2000000 in
theorem pointerParses_walk (s : ByteArray) (hs : s.size ≤ 1048576) (w : World) : Calls Try.prog 4 #[.string s] w fun e w' => e = .returned (.bool true) ∧ Below w.heap.size w w' := by
  obtain ⟨l, rfl⟩ : ∃ l, s = mkL l := ⟨_, (mkL_data s).symm⟩
  rw [mkL_size] at hs
  have c1 := fun u : World => parse20_calls [47, 97, 126, 49, 98, 47, 126, 48] (by decide) u
  rw [show ptE [47, 97, 126, 49, 98, 47, 126, 48] = 0 from rfl, show (ptN [47, 97, 126, 49, 98, 47, 126, 48]).map mkL = [⟨#[97, 47, 98]⟩, ⟨#[126]⟩] from rfl] at c1
  have c1' : Hid (∀ u : World, Calls Try.prog 8 #[.string ⟨#[47, 97, 126, 49, 98, 47, 126, 48]⟩] u fun e w' => ∃ v, e = .returned (.tuple #[v, .int .i64 0]) ∧ KeysG u.heap.size w' v [⟨#[97, 47, 98]⟩, ⟨#[126]⟩] ∧ Below u.heap.size u w') := hid c1
  have c2 := hid (fun u : World => parse20_calls l (by omega) u)
  have c3 := hid (fun u : World => parseR20_calls l (by omega) u)
  have hkl : ((ptN l).map mkL).length ≤ capT := by rw [List.length_map]; have := ptN_len l; unfold capT; omega
  generalize (ptN l).map mkL = K at c2 c3 hkl
  generalize ptE l = E at c2 c3
  generalize mkL l = s at c2 c3 ⊢
  have hkl' := hid hkl
  clear c1 hs hkl
  obtain ⟨n, hn⟩ : ∃ n, Hid (K.length = n) := ⟨_, rfl⟩
  go_enter Try.func4, Try.ntmps4
  go_wp2_with fail
  refine Calls.mono (c1'.out _) ?_
  rintro e w1 ⟨v, rfl, k1, b1⟩
  obtain ⟨so, cap, rfl⟩ := k1.shape
  have k2 := keys_two w1 ⟨#[97, 47, 98]⟩ ⟨#[126]⟩ (by decide) (by decide)
  have a1 : Below w1.heap.size w1 (w1.alloc (.cells #[.string ⟨#[97, 47, 98]⟩, .string ⟨#[126]⟩] 9)) := (Below.refl _ _).alloc (Nat.le_refl _) _
  have sm := hid (sameT_yes _ (by decide) so _ 2 cap 2 (hid rfl) _ (k1.keys.kept a1) k2)
  have B1 := hid (b1.trans (a1.mono b1.size))
  clear k1 b1 k2 a1 c1'
  go_wp2_with fail
  refine Calls.mono sm.out ?_
  rintro e w2 ⟨rfl, b2⟩
  have B2 := hid (B1.out.trans (b2.mono B1.out.size))
  clear b2 sm B1
  go_wp2_with fail
  refine Calls.mono (c2.out _) ?_
  rintro e w3 ⟨v, rfl, k3, b3⟩
  obtain ⟨so3, cap3, rfl⟩ := k3.shape
  rw [hn.out] at k3 ⊢
  have K3 := hid k3.keys
  have B3 := hid (B2.out.trans (b3.mono B2.out.size))
  clear k3 b3 c2 B2
  go_wp2_with fail
  refine Calls.mono (c3.out _) ?_
  rintro e w4 ⟨v, rfl, k4, b4⟩
  obtain ⟨so4, cap4, rfl⟩ := k4.shape
  rw [hn.out] at k4 ⊢
  have K4 := hid k4.keys
  have K3' := hid (K3.out.kept b4)
  have B4 := hid (B3.out.trans (b4.mono B3.out.size))
  clear k4 b4 c3 B3 K3
  go_wp2_with fail
  refine Calls.mono (sameT_yes K hkl'.out so3 so4 n cap3 cap4 hn _ K3'.out K4.out) ?_
  rintro e w5 ⟨rfl, b5⟩
  have B5 := hid (B4.out.trans (b5.mono B4.out.size))
  clear b5 B4
  go_wp2
  go_ret
  exact ⟨rfl, B5.out⟩
end Go.Proofs.Ytdkcgfcmmdkmpaa
