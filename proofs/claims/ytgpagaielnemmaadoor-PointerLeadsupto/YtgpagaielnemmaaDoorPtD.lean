/-
 strings.Cut at a ~; what a raw name means, by the program: tilde, meant.
-/
import Derived.Test.YtgpagaielnemmaaDoorPack1
import Derived.Test.YtgpagaielnemmaaDoorPack2
import Derived.Test.YtgpagaielnemmaaDoorPack3
import Derived.Lib.IndexBytes
namespace Go.Proofs.YtgpagaielnemmaaDoor
open Go.RowKit Go.Shelf
/-- The text of these bytes. -/
def mkL (l : List UInt8) : ByteArray := ⟨l.toArray⟩
theorem mkL_data (s : ByteArray) : mkL s.data.toList = s := by unfold mkL; simp
theorem mkL_size (l : List UInt8) : (mkL l).size = l.length := by show l.toArray.size = _; simp
theorem data_mkL (l : List UInt8) : (mkL l).data.toList = l := by unfold mkL; simp
theorem mkL_ext (l : List UInt8) (a b : Nat) : (mkL l).extract a b = mkL ((l.drop a).take (b - a)) := by
 apply ByteArray.ext
 apply Array.toList_inj.1
 rw [ByteArray.data_extract, Array.toList_extract]
 rfl
theorem lk_mkL (l : List UInt8) (i : Nat) (x : UInt8) (h : l[i]? = some x) : lk (mkL l) i = x.toNat := by
 have hi : i < l.length := (List.getElem?_eq_some_iff.1 h).1
 rw [lk_at _ i (by rw [mkL_size]; exact hi)]
 congr 1
 have h2 := (List.getElem?_eq_some_iff.1 h).2
 exact h2
theorem idx_no : ∀ (l : List UInt8) (c : UInt8), (∀ x ∈ l, x ≠ c) → Lib.indexByte l c = -1
 | [], _, _ => rfl
 | b :: l, c, h => by
  have h1 : (b == c) = false := beq_eq_false_iff_ne.2 (h b (by simp))
  have h2 := idx_no l c (fun x hx => h x (by simp [hx]))
  unfold Lib.indexByte
  rw [h1, h2]
  rfl
theorem idx_yes : ∀ (a : List UInt8) (c : UInt8) (r : List UInt8), (∀ x ∈ a, x ≠ c) → Lib.indexByte (a ++ c :: r) c = (a.length : Int)
 | [], c, r, _ => by
  show Lib.indexByte (c :: r) c = 0
  unfold Lib.indexByte
  rw [beq_self_eq_true]
  rfl
 | b :: a, c, r, h => by
  have h1 : (b == c) = false := beq_eq_false_iff_ne.2 (h b (by simp))
  have h2 := idx_yes a c r (fun x hx => h x (by simp [hx]))
  rw [List.cons_append]
  unfold Lib.indexByte
  rw [h1, h2]
  have h3 : ((a.length : Int) == -1) = false := beq_eq_false_iff_ne.2 (by omega)
  rw [h3]
  simp
/-- Every list has no ~, or a first one. -/
theorem first_til : ∀ l : List UInt8, (∀ x ∈ l, x ≠ 126) ∨ ∃ a r, l = a ++ 126 :: r ∧ ∀ x ∈ a, x ≠ 126
 | [] => .inl (fun x h => by simp at h)
 | b :: l => by
  by_cases hb : b = 126
  ·exact .inr ⟨[], l, by simp [hb], fun x h => by simp at h⟩
  ·rcases first_til l with h | ⟨a, r, rfl, h⟩
   ·exact .inl (fun x hx => by
     simp at hx
     rcases hx with rfl | hx
     ·exact hb
     ·exact h x hx)
   ·exact .inr ⟨b :: a, r, rfl, fun x hx => by
     simp at hx
     rcases hx with rfl | hx
     ·exact hb
     ·exact h x hx⟩
theorem mnL_pre : ∀ (a : List UInt8), (∀ x ∈ a, x ≠ 126) → ∀ t, mnL (a ++ t) = (mnL t).map (a ++ ·)
 | [], _, t => by cases h : mnL t <;> simp [h]
 | b :: a, h, t => by
  rw [List.cons_append, mnL_plain (h b (by simp)), mnL_pre a (fun x hx => h x (by simp [hx])) t]
  cases mnL t <;> rfl
set_option maxRecDepth 10000 in
set_option maxHeartbeats 2000000 in
theorem cutS_no (l : List UInt8) (h : ∀ x ∈ l, x ≠ 126) (w : World) : Calls Tryd.prog 62 #[.string (mkL l), .string ⟨#[126]⟩] w fun e w' => e = .returned (.tuple #[.string (mkL l), .string (mkL []), .bool false]) ∧ w' = w := by
 have c1 := hid (fun u : World => Any.stringslite_Index_one Tryd.lays219 (mkL l) 126 u)
 have hi := idx_no l 126 h
 have hi' : Lib.indexByte (mkL l).data.toList 126 = -1 := by rw [data_mkL]; exact hi
 rw [hi'] at c1
 clear hi hi' h
 obtain ⟨s, hs⟩ : ∃ s, mkL l = s := ⟨_, rfl⟩
 rw [hs] at c1 ⊢
 clear hs
 go_enter Tryd.func62, Tryd.ntmps62
 go_wp2_with fail
 refine Calls.mono (c1.out _) ?_
 rintro e w1 ⟨rfl, rfl⟩
 go_wp2
 go_ret3
 exact ⟨rfl, rfl⟩
set_option maxRecDepth 10000 in
set_option maxHeartbeats 2000000 in
theorem cutS_yes (a r : List UInt8) (hl : (a ++ 126 :: r).length ≤ 4294967296) (h : ∀ x ∈ a, x ≠ 126) (w : World) : Calls Tryd.prog 62 #[.string (mkL (a ++ 126 :: r)), .string ⟨#[126]⟩] w fun e w' => e = .returned (.tuple #[.string (mkL a), .string (mkL r), .bool true]) ∧ Below w.heap.size w w' := by
 have c1 := hid (fun u : World => Any.stringslite_Index_one Tryd.lays219 (mkL (a ++ 126 :: r)) 126 u)
 have hi' : Lib.indexByte (mkL (a ++ 126 :: r)).data.toList 126 = (a.length : Int) := by rw [data_mkL]; exact idx_yes a 126 r h
 rw [hi'] at c1
 clear hi' h
 have e1 : (mkL (a ++ 126 :: r)).extract 0 a.length = mkL a := by rw [mkL_ext]; simp
 have e2 : (mkL (a ++ 126 :: r)).extract (a.length + 1) (mkL (a ++ 126 :: r)).size = mkL r := by
  rw [mkL_ext, mkL_size]
  congr 1
  rw [List.take_of_length_le (by simp; omega)]
  simp
 have hz : (mkL (a ++ 126 :: r)).size = a.length + 1 + r.length := by rw [mkL_size]; simp; omega
 obtain ⟨s, hs⟩ : ∃ s, mkL (a ++ 126 :: r) = s := ⟨_, rfl⟩
 rw [hs] at c1 e1 e2 hz ⊢
 obtain ⟨n, hn⟩ : ∃ n, a.length = n := ⟨_, rfl⟩
 rw [hn] at c1 e1 e2 hz
 have e1' := hid e1
 have e2' := hid e2
 have c2 : (n : Int) ≤ (s.size : Int) := by omega
 have c3 : (n : Int) + 1 ≤ (s.size : Int) := by omega
 have c5 : IntKind.i64.wrap ((n : Int) + 1) = (n : Int) + 1 := wrap_small _ (by omega) (by simp at hl; omega)
 have c6 : (0 : Int) ≤ (n : Int) + 1 := by omega
 have c7 : ((n : Int) + 1).toNat = n + 1 := by omega
 have c4 : (s.size : Int) ≤ 4294967296 := by rw [hz]; simp at hl; omega
 clear hs hn e1 e2 hz hl
 go_enter Tryd.func62, Tryd.ntmps62
 go_wp2_with fail
 refine Calls.mono (c1.out _) ?_
 rintro e w1 ⟨rfl, rfl⟩
 go_wp2
 have mixed : Tryd.prog.follows .mixedOrders = true := by kernel_rfl
 go_region_o
 go_wp2
 go_ret3
 exact ⟨by rw [← e1'.out, ← e2'.out]; rfl, (Below.refl _ _).drew⟩
set_option maxRecDepth 10000 in
theorem cutT_no (l : List UInt8) (h : ∀ x ∈ l, x ≠ 126) (w : World) : Calls Tryd.prog 54 #[.string (mkL l), .string ⟨#[126]⟩] w fun e w' => e = .returned (.tuple #[.string (mkL l), .string (mkL []), .bool false]) ∧ Below w.heap.size w w' := by
 have c1 := hid (fun u : World => cutS_no l h u)
 clear h
 go_enter Tryd.func54, Tryd.ntmps54
 go_wp2_with fail
 refine Calls.mono (c1.out _) ?_
 rintro e w1 ⟨rfl, rfl⟩
 go_wp2
 go_ret3
 exact ⟨rfl, Below.refl _ _⟩
set_option maxRecDepth 10000 in
theorem cutT_yes (a r : List UInt8) (hl : (a ++ 126 :: r).length ≤ 4294967296) (h : ∀ x ∈ a, x ≠ 126) (w : World) : Calls Tryd.prog 54 #[.string (mkL (a ++ 126 :: r)), .string ⟨#[126]⟩] w fun e w' => e = .returned (.tuple #[.string (mkL a), .string (mkL r), .bool true]) ∧ Below w.heap.size w w' := by
 have c1 := hid (fun u : World => cutS_yes a r hl h u)
 clear h hl
 obtain ⟨s, hs⟩ : ∃ s, mkL (a ++ 126 :: r) = s := ⟨_, rfl⟩
 rw [hs] at c1 ⊢
 clear hs
 go_enter Tryd.func54, Tryd.ntmps54
 go_wp2_with fail
 refine Calls.mono (c1.out _) ?_
 rintro e w1 ⟨rfl, b1⟩
 have b1' := hid b1
 clear b1
 go_wp2
 go_ret3
 exact ⟨rfl, b1'.out⟩
/-- What a ~ and the byte behind it mean. -/
def tlC : List UInt8 → Nat × Bool
 | [] => (0, false)
 | d :: _ => if d = 49 then (47, true) else if d = 48 then (126, true) else (0, false)
set_option maxRecDepth 10000 in
set_option maxHeartbeats 2000000 in
theorem tilde_calls (l : List UInt8) (w : World) : Calls Tryd.prog 55 #[.string (mkL l)] w fun e w' => e = .returned (.tuple #[.int .u8 ((tlC l).1 : Int), .bool (tlC l).2]) ∧ w' = w := by
 cases l with
 | nil =>
  show Calls Tryd.prog 55 #[.string ByteArray.empty] w _
  go_enter Tryd.func55, Tryd.ntmps55
  go_wp2
  go_ret2
  exact ⟨rfl, rfl⟩
 | cons d t =>
  have hne : ((mkL (d :: t)).toList == []) = false := by
   rw [eq_const, data_mkL]
   exact decide_eq_false (by simp)
  have h0 : 0 < (mkL (d :: t)).size := by rw [mkL_size]; simp
  have hd : ((mkL (d :: t))[0]'h0).toNat = d.toNat := by
   rw [← lk_at _ 0 h0]
   exact lk_mkL (d :: t) 0 d rfl
  have key : (d = 49 ∧ d.toNat = 49) ∨ (d ≠ 49 ∧ d = 48 ∧ d.toNat = 48) ∨ (d ≠ 49 ∧ d ≠ 48 ∧ d.toNat ≠ 49 ∧ d.toNat ≠ 48) := by
   by_cases h1 : d = 49
   ·exact .inl ⟨h1, by rw [h1]; rfl⟩
   ·by_cases h2 : d = 48
    ·exact .inr (.inl ⟨h1, h2, by rw [h2]; rfl⟩)
    ·exact .inr (.inr ⟨h1, h2, fun h => h1 (UInt8.toNat_inj.1 h), fun h => h2 (UInt8.toNat_inj.1 h)⟩)
  generalize mkL (d :: t) = s at hne h0 hd ⊢
  rcases key with ⟨k1, k2⟩ | ⟨k1, k2, k3⟩ | ⟨k1, k2, k3, k4⟩
  ·have ht := hid (show tlC (d :: t) = (47, true) by show (if d = 49 then _ else _) = _; rw [if_pos k1])
   rw [k2] at hd
   clear k1 k2
   go_enter Tryd.func55, Tryd.ntmps55
   go_wp2
   go_ret2
   exact ⟨by rw [ht.out]; rfl, rfl⟩
  ·have ht := hid (show tlC (d :: t) = (126, true) by show (if d = 49 then _ else _) = _; rw [if_neg k1, if_pos k2])
   rw [k3] at hd
   clear k1 k2 k3
   go_enter Tryd.func55, Tryd.ntmps55
   go_wp2
   go_ret2
   exact ⟨by rw [ht.out]; rfl, rfl⟩
  ·have ht := hid (show tlC (d :: t) = (0, false) by show (if d = 49 then _ else _) = _; rw [if_neg k1, if_neg k2])
   have g1 : ((s[0]'h0).toNat : Int) ≠ 49 := by rw [hd]; omega
   have g2 : ((s[0]'h0).toNat : Int) ≠ 48 := by rw [hd]; omega
   clear k1 k2 k3 k4 hd
   go_enter Tryd.func55, Tryd.ntmps55
   go_wp2
   go_ret2
   exact ⟨by rw [ht.out]; rfl, rfl⟩
end Go.Proofs.YtgpagaielnemmaaDoor
