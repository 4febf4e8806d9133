/-
  Rows of bytes: what string(..) makes of them; what quarryref05.Form answers.
-/
import Derived.Test.YtkkmaakgacnfoaaUtf8Size
import Derived.Test.YtkkmaakgacnfoaaUtf8Forms
import Derived.Lib.AppendStr
import Derived.Lib.BufferRead
import Derived.Laws.IdiomStrings
import Derived.WalkKit
namespace Go.Proofs.Ytkkmaakgacnfoaa
open Go.RowKit

/-- The text of these bytes. -/
def mkS (l : List Nat) : ByteArray := ⟨(l.map UInt8.ofNat).toArray⟩
theorem mkS_size (l : List Nat) : (mkS l).size = l.length := by show (l.map UInt8.ofNat).toArray.size = _; simp
theorem byts_mkS {l : List Nat} (h : ∀ x ∈ l, x < 256) : byts (mkS l) = l := by
  unfold byts mkS
  simp only [List.map_map]
  conv => rhs; rw [← List.map_id l]
  apply List.map_congr_left
  intro x hx
  have := h x hx
  simp [UInt8.toNat_ofNat']
  omega
theorem mkS_byts (s : ByteArray) : mkS (byts s) = s := by
  apply ByteArray.ext
  apply Array.toList_inj.1
  show ((byts s).map UInt8.ofNat) = s.data.toList
  unfold byts
  rw [List.map_map]
  conv => rhs; rw [← List.map_id s.data.toList]
  apply List.map_congr_left
  intro x _
  simp
theorem byts_inj {a b : ByteArray} (h : byts a = byts b) : a = b := by rw [← mkS_byts a, ← mkS_byts b, h]
theorem strCells_byts (s : ByteArray) : Lib.strCells s = (byts s).map fun (x : Nat) => Value.int .u8 (x : Int) := by
  unfold Lib.strCells byts
  rw [List.map_map]
  rfl
theorem strCells_mkS {l : List Nat} (h : ∀ x ∈ l, x < 256) : Lib.strCells (mkS l) = l.map fun (x : Nat) => Value.int .u8 (x : Int) := by rw [strCells_byts, byts_mkS h]
theorem strCells_append (a b : ByteArray) : Lib.strCells (a ++ b) = Lib.strCells a ++ Lib.strCells b := by rw [strCells_byts, strCells_byts, strCells_byts, byts_append, List.map_append]

/-- The text of a row of bytes. -/
theorem conv_row {w : World} {B : Nat} {v : Value} {S : ByteArray} (h : w.ownsRow B 5 1 v S.size (Lib.strCells S)) : (convert 27 9 v).run Try.prog w = .ok (.string S) w := by
  rcases h.2 with ⟨rfl, h0⟩ | ⟨g, cap, cur, rfl, hb, hgb, h3⟩
  · have e : S = ByteArray.empty := by
      apply byts_inj
      have h1 := byts_length S
      rw [h0] at h1
      rw [List.eq_nil_of_length_eq_zero h1]
      rfl
    rw [e]
    exact Lib.run_convert_nil_bytes w 27 9 5 0 Try.underlying27 Try.underlying5 Try.underlying9
  · have hl : S.size = S.data.toList.length := by rw [Array.length_toList]; rfl
    have hr := run_convert_bytes_back (P := Try.prog) w 27 9 5 ⟨g, 0, none⟩ cap S.data.toList Try.underlying27 Try.underlying5 Try.underlying9 (fun j hj => by
      exact h.cells (g := g) rfl j _ (by
        unfold Lib.strCells
        rw [List.getElem?_map, List.getElem?_eq_getElem hj]
        rfl))
    rw [← hl] at hr
    rw [hr]
theorem infoU8 : (Try.prog.info? 5).map (fun i => (i.zero, i.size, i.bytes)) = some (some (.int .u8 0), 1, 1) := by kernel_rfl

/-- The text of a character. -/
def formS (r : Int) : ByteArray := mkS (if r < 0 then [] else formL r.toNat)


theorem tdivN (c k : Nat) : (c : Int).tdiv (k : Int) = ((c / k : Nat) : Int) := by rw [Int.tdiv_eq_ediv_of_nonneg (by omega)]; rfl
theorem tmodN (c k : Nat) : (c : Int).tmod (k : Int) = ((c % k : Nat) : Int) := by rw [Int.tmod_eq_emod_of_nonneg (by omega)]; rfl

set_option maxRecDepth 10000 in
set_option maxHeartbeats 1000000 in
theorem refForm_calls (r : Int) (w : World) :
    Calls Try.prog 20 #[.int .i32 r] w fun e w' => ∃ v, e = .returned v ∧ w'.ownsRow w.heap.size 5 1 v (formS r).size (Lib.strCells (formS r)) ∧ Below w.heap.size w w' := by
  obtain ⟨i0, hi, hz0, hz1, hz2⟩ := info_parts infoU8
  have hsz := hid (fun w => refSize_calls r w)
  by_cases h4 : sizeZ r = 4
  · rw [h4] at hsz
    have hr0 : ¬ r < 0 := fun h => by unfold sizeZ at h4; rw [if_pos h] at h4; omega
    obtain ⟨c, rfl⟩ : ∃ c : Nat, r = (c : Int) := ⟨r.toNat, by omega⟩
    have hN : sizeN c = 4 := by unfold sizeZ at h4; rw [if_neg hr0] at h4; simpa using h4
    have hb := size_bounds hN
    have t1 := tdivN c 262144
    have t2 := tdivN c 4096
    have u2 := tmodN (c / 4096) 64
    have t3 := tdivN c 64
    have u3 := tmodN (c / 64) 64
    have u4 := tmodN (c) 64
    obtain ⟨x1, hx1⟩ : ∃ x : Nat, x = 240 + c / 262144 := ⟨_, rfl⟩
    obtain ⟨x2, hx2⟩ : ∃ x : Nat, x = 128 + c / 4096 % 64 := ⟨_, rfl⟩
    obtain ⟨x3, hx3⟩ : ∃ x : Nat, x = 128 + c / 64 % 64 := ⟨_, rfl⟩
    obtain ⟨x4, hx4⟩ : ∃ x : Nat, x = 128 + c % 64 := ⟨_, rfl⟩
    have m1 : (240 + ((c / 262144 : Nat) : Int)) % 256 = (x1 : Int) := by omega
    have o1 : ((c / 262144 : Nat) : Int) < 64 := by omega
    have z1 : (0 : Int) ≤ ((c / 262144 : Nat) : Int) := by omega
    have m2 : (128 + ((c / 4096 % 64 : Nat) : Int)) % 256 = (x2 : Int) := by omega
    have o2 : ((c / 4096 % 64 : Nat) : Int) < 64 := by omega
    have z2 : (0 : Int) ≤ ((c / 4096 % 64 : Nat) : Int) := by omega
    have m3 : (128 + ((c / 64 % 64 : Nat) : Int)) % 256 = (x3 : Int) := by omega
    have o3 : ((c / 64 % 64 : Nat) : Int) < 64 := by omega
    have z3 : (0 : Int) ≤ ((c / 64 % 64 : Nat) : Int) := by omega
    have m4 : (128 + ((c % 64 : Nat) : Int)) % 256 = (x4 : Int) := by omega
    have o4 : ((c % 64 : Nat) : Int) < 64 := by omega
    have z4 : (0 : Int) ≤ ((c % 64 : Nat) : Int) := by omega
    have hF : formS (c : Int) = mkS [x1, x2, x3, x4] := by unfold formS; rw [if_neg hr0]; show mkS (formL c) = _; unfold formL; rw [if_neg (by omega), if_neg (by omega), if_neg (by omega), if_pos hN, hx1, hx2, hx3, hx4]
    have hlt : ∀ x ∈ [x1, x2, x3, x4], x < 256 := by intro x hx; simp at hx; omega
    rw [hF, strCells_mkS hlt, mkS_size]
    have hcI : (c : Int) ≤ 1114111 := by omega
    have hb' := hid hb
    have y1 := hid hx1
    have y2 := hid hx2
    have y3 := hid hx3
    have y4 := hid hx4
    clear hF hlt hb hN h4 hr0 hx1 hx2 hx3 hx4
    go_enter Try.func20, Try.ntmps20
    go_wp2_with (first
      | (refine (hsz.out _).mono ?_; rintro e w1 ⟨rfl, hw1⟩; rw [hw1]; clear hw1)
      | (at_builtin; refine wpList_append_own _ rfl _ _ 27 rfl w.heap.size 5 i0 (.int .u8 0) 1 1 Try.underlying27 hi hz0 hz1 hz2 rfl (by decide) _ _ _ rfl (World.ownsRow_nil _ _ _ _) ⟨w.heap.size, 0, none⟩ 4 4 [.int .u8 (x1 : Int), .int .u8 (x2 : Int), .int .u8 (x3 : Int), .int .u8 (x4 : Int)] rfl rfl ?c1 ?c2 ?c3 ?c4 ?c5 ?_)
      | go_in)
    case c1 =>
      intro j u hj
      match j, hj with
      | 0, hj => simp at hj; subst hj; simp [Addr.add]; have a1 := y1.out; have a2 := hb'.out; omega
      | 1, hj => simp at hj; subst hj; simp [Addr.add]; have a1 := y2.out; have a2 := hb'.out; omega
      | 2, hj => simp at hj; subst hj; simp [Addr.add]; have a1 := y3.out; have a2 := hb'.out; omega
      | 3, hj => simp at hj; subst hj; simp [Addr.add]; have a1 := y4.out; have a2 := hb'.out; omega
      | j + 4, hj => simp at hj
    case c2 => intro u hu; simp only [List.mem_cons, List.not_mem_nil, or_false] at hu; rcases hu with rfl | rfl | rfl | rfl <;> rfl
    case c3 => unfold maxLen; omega
    case c4 => omega
    case c5 => simp
    · intro v' w1 hown' hgrow _
      have hb' : Below w.heap.size w w1 := ((Below.refl _ w).alloc (Nat.le_refl _) _).grown hgrow (by simp) (fun k e => by cases e)
      have hown2 := hid hown'
      have hb2 := hid hb'
      clear hown' hgrow hb' m1 m2 m3 m4
      go_wp2
      go_ret
      exact ⟨_, rfl, hown2.out, hb2.out⟩
  by_cases h3 : sizeZ r = 3
  · rw [h3] at hsz
    have hr0 : ¬ r < 0 := fun h => by unfold sizeZ at h3; rw [if_pos h] at h3; omega
    obtain ⟨c, rfl⟩ : ∃ c : Nat, r = (c : Int) := ⟨r.toNat, by omega⟩
    have hN : sizeN c = 3 := by unfold sizeZ at h3; rw [if_neg hr0] at h3; simpa using h3
    have hb := size_bounds hN
    have t1 := tdivN c 4096
    have t2 := tdivN c 64
    have u2 := tmodN (c / 64) 64
    have u3 := tmodN (c) 64
    obtain ⟨x1, hx1⟩ : ∃ x : Nat, x = 224 + c / 4096 := ⟨_, rfl⟩
    obtain ⟨x2, hx2⟩ : ∃ x : Nat, x = 128 + c / 64 % 64 := ⟨_, rfl⟩
    obtain ⟨x3, hx3⟩ : ∃ x : Nat, x = 128 + c % 64 := ⟨_, rfl⟩
    have m1 : (224 + ((c / 4096 : Nat) : Int)) % 256 = (x1 : Int) := by omega
    have o1 : ((c / 4096 : Nat) : Int) < 64 := by omega
    have z1 : (0 : Int) ≤ ((c / 4096 : Nat) : Int) := by omega
    have m2 : (128 + ((c / 64 % 64 : Nat) : Int)) % 256 = (x2 : Int) := by omega
    have o2 : ((c / 64 % 64 : Nat) : Int) < 64 := by omega
    have z2 : (0 : Int) ≤ ((c / 64 % 64 : Nat) : Int) := by omega
    have m3 : (128 + ((c % 64 : Nat) : Int)) % 256 = (x3 : Int) := by omega
    have o3 : ((c % 64 : Nat) : Int) < 64 := by omega
    have z3 : (0 : Int) ≤ ((c % 64 : Nat) : Int) := by omega
    have hF : formS (c : Int) = mkS [x1, x2, x3] := by unfold formS; rw [if_neg hr0]; show mkS (formL c) = _; unfold formL; rw [if_neg (by omega), if_neg (by omega), if_pos hN, hx1, hx2, hx3]
    have hlt : ∀ x ∈ [x1, x2, x3], x < 256 := by intro x hx; simp at hx; omega
    rw [hF, strCells_mkS hlt, mkS_size]
    have hcI : (c : Int) ≤ 1114111 := by omega
    have hb' := hid hb
    have y1 := hid hx1
    have y2 := hid hx2
    have y3 := hid hx3
    clear hF hlt hb hN h3 hr0 hx1 hx2 hx3
    go_enter Try.func20, Try.ntmps20
    go_wp2_with (first
      | (refine (hsz.out _).mono ?_; rintro e w1 ⟨rfl, hw1⟩; rw [hw1]; clear hw1)
      | (at_builtin; refine wpList_append_own _ rfl _ _ 27 rfl w.heap.size 5 i0 (.int .u8 0) 1 1 Try.underlying27 hi hz0 hz1 hz2 rfl (by decide) _ _ _ rfl (World.ownsRow_nil _ _ _ _) ⟨w.heap.size, 0, none⟩ 3 3 [.int .u8 (x1 : Int), .int .u8 (x2 : Int), .int .u8 (x3 : Int)] rfl rfl ?c1 ?c2 ?c3 ?c4 ?c5 ?_)
      | go_in)
    case c1 =>
      intro j u hj
      match j, hj with
      | 0, hj => simp at hj; subst hj; simp [Addr.add]; have a1 := y1.out; have a2 := hb'.out; omega
      | 1, hj => simp at hj; subst hj; simp [Addr.add]; have a1 := y2.out; have a2 := hb'.out; omega
      | 2, hj => simp at hj; subst hj; simp [Addr.add]; have a1 := y3.out; have a2 := hb'.out; omega
      | j + 3, hj => simp at hj
    case c2 => intro u hu; simp only [List.mem_cons, List.not_mem_nil, or_false] at hu; rcases hu with rfl | rfl | rfl <;> rfl
    case c3 => unfold maxLen; omega
    case c4 => omega
    case c5 => simp
    · intro v' w1 hown' hgrow _
      have hb' : Below w.heap.size w w1 := ((Below.refl _ w).alloc (Nat.le_refl _) _).grown hgrow (by simp) (fun k e => by cases e)
      have hown2 := hid hown'
      have hb2 := hid hb'
      clear hown' hgrow hb' m1 m2 m3
      go_wp2
      go_ret
      exact ⟨_, rfl, hown2.out, hb2.out⟩
  by_cases h2 : sizeZ r = 2
  · rw [h2] at hsz
    have hr0 : ¬ r < 0 := fun h => by unfold sizeZ at h2; rw [if_pos h] at h2; omega
    obtain ⟨c, rfl⟩ : ∃ c : Nat, r = (c : Int) := ⟨r.toNat, by omega⟩
    have hN : sizeN c = 2 := by unfold sizeZ at h2; rw [if_neg hr0] at h2; simpa using h2
    have hb := size_bounds hN
    have t1 := tdivN c 64
    have u2 := tmodN (c) 64
    obtain ⟨x1, hx1⟩ : ∃ x : Nat, x = 192 + c / 64 := ⟨_, rfl⟩
    obtain ⟨x2, hx2⟩ : ∃ x : Nat, x = 128 + c % 64 := ⟨_, rfl⟩
    have m1 : (192 + ((c / 64 : Nat) : Int)) % 256 = (x1 : Int) := by omega
    have o1 : ((c / 64 : Nat) : Int) < 64 := by omega
    have z1 : (0 : Int) ≤ ((c / 64 : Nat) : Int) := by omega
    have m2 : (128 + ((c % 64 : Nat) : Int)) % 256 = (x2 : Int) := by omega
    have o2 : ((c % 64 : Nat) : Int) < 64 := by omega
    have z2 : (0 : Int) ≤ ((c % 64 : Nat) : Int) := by omega
    have hF : formS (c : Int) = mkS [x1, x2] := by unfold formS; rw [if_neg hr0]; show mkS (formL c) = _; unfold formL; rw [if_neg (by omega), if_pos hN, hx1, hx2]
    have hlt : ∀ x ∈ [x1, x2], x < 256 := by intro x hx; simp at hx; omega
    rw [hF, strCells_mkS hlt, mkS_size]
    have hcI : (c : Int) ≤ 1114111 := by omega
    have hb' := hid hb
    have y1 := hid hx1
    have y2 := hid hx2
    clear hF hlt hb hN h2 hr0 hx1 hx2
    go_enter Try.func20, Try.ntmps20
    go_wp2_with (first
      | (refine (hsz.out _).mono ?_; rintro e w1 ⟨rfl, hw1⟩; rw [hw1]; clear hw1)
      | (at_builtin; refine wpList_append_own _ rfl _ _ 27 rfl w.heap.size 5 i0 (.int .u8 0) 1 1 Try.underlying27 hi hz0 hz1 hz2 rfl (by decide) _ _ _ rfl (World.ownsRow_nil _ _ _ _) ⟨w.heap.size, 0, none⟩ 2 2 [.int .u8 (x1 : Int), .int .u8 (x2 : Int)] rfl rfl ?c1 ?c2 ?c3 ?c4 ?c5 ?_)
      | go_in)
    case c1 =>
      intro j u hj
      match j, hj with
      | 0, hj => simp at hj; subst hj; simp [Addr.add]; have a1 := y1.out; have a2 := hb'.out; omega
      | 1, hj => simp at hj; subst hj; simp [Addr.add]; have a1 := y2.out; have a2 := hb'.out; omega
      | j + 2, hj => simp at hj
    case c2 => intro u hu; simp only [List.mem_cons, List.not_mem_nil, or_false] at hu; rcases hu with rfl | rfl <;> rfl
    case c3 => unfold maxLen; omega
    case c4 => omega
    case c5 => simp
    · intro v' w1 hown' hgrow _
      have hb' : Below w.heap.size w w1 := ((Below.refl _ w).alloc (Nat.le_refl _) _).grown hgrow (by simp) (fun k e => by cases e)
      have hown2 := hid hown'
      have hb2 := hid hb'
      clear hown' hgrow hb' m1 m2
      go_wp2
      go_ret
      exact ⟨_, rfl, hown2.out, hb2.out⟩
  by_cases h1 : sizeZ r = 1
  · rw [h1] at hsz
    have hr0 : ¬ r < 0 := fun h => by unfold sizeZ at h1; rw [if_pos h] at h1; omega
    obtain ⟨c, rfl⟩ : ∃ c : Nat, r = (c : Int) := ⟨r.toNat, by omega⟩
    have hN : sizeN c = 1 := by unfold sizeZ at h1; rw [if_neg hr0] at h1; simpa using h1
    have hb := size_bounds hN
    obtain ⟨x1, hx1⟩ : ∃ x : Nat, x = c := ⟨_, rfl⟩
    have m1 : (c : Int) % 256 = (x1 : Int) := by omega
    have hF : formS (c : Int) = mkS [x1] := by unfold formS; rw [if_neg hr0]; show mkS (formL c) = _; unfold formL; rw [if_pos hN, hx1]
    have hlt : ∀ x ∈ [x1], x < 256 := by intro x hx; simp at hx; omega
    rw [hF, strCells_mkS hlt, mkS_size]
    have hcI : (c : Int) ≤ 1114111 := by omega
    have hb' := hid hb
    have y1 := hid hx1
    clear hF hlt hb hN h1 hr0 hx1
    go_enter Try.func20, Try.ntmps20
    go_wp2_with (first
      | (refine (hsz.out _).mono ?_; rintro e w1 ⟨rfl, hw1⟩; rw [hw1]; clear hw1)
      | (at_builtin; refine wpList_append_own _ rfl _ _ 27 rfl w.heap.size 5 i0 (.int .u8 0) 1 1 Try.underlying27 hi hz0 hz1 hz2 rfl (by decide) _ _ _ rfl (World.ownsRow_nil _ _ _ _) ⟨w.heap.size, 0, none⟩ 1 1 [.int .u8 (x1 : Int)] rfl rfl ?c1 ?c2 ?c3 ?c4 ?c5 ?_)
      | go_in)
    case c1 =>
      intro j u hj
      match j, hj with
      | 0, hj => simp at hj; subst hj; simp [Addr.add]
      | j + 1, hj => simp at hj
    case c2 => intro u hu; simp only [List.mem_cons, List.not_mem_nil, or_false] at hu; rcases hu with rfl <;> rfl
    case c3 => unfold maxLen; omega
    case c4 => omega
    case c5 => simp
    · intro v' w1 hown' hgrow _
      have hb' : Below w.heap.size w w1 := ((Below.refl _ w).alloc (Nat.le_refl _) _).grown hgrow (by simp) (fun k e => by cases e)
      have hown2 := hid hown'
      have hb2 := hid hb'
      clear hown' hgrow hb' m1
      go_wp2
      go_ret
      exact ⟨_, rfl, hown2.out, hb2.out⟩
  have hF : formS r = mkS [] := by
    unfold formS
    split
    · rfl
    · have e : sizeN r.toNat = sizeZ r := by unfold sizeZ; rw [if_neg (by assumption)]
      unfold formL
      rw [if_neg (by omega), if_neg (by omega), if_neg (by omega), if_neg (by omega)]
  rw [hF]
  have i1 : ¬ ((sizeZ r : Int) = 1) := by omega
  have i2 : ¬ ((sizeZ r : Int) = 2) := by omega
  have i3 : ¬ ((sizeZ r : Int) = 3) := by omega
  have i4 : ¬ ((sizeZ r : Int) = 4) := by omega
  clear h1 h2 h3 h4 hF
  go_enter Try.func20, Try.ntmps20
  go_wp2_with (first | (refine (hsz.out _).mono ?_; rintro e w1 ⟨rfl, hw1⟩; rw [hw1]; clear hw1))
  go_ret
  exact ⟨_, rfl, World.ownsRow_nil _ _ _ _, Below.refl _ _⟩
end Go.Proofs.Ytkkmaakgacnfoaa
