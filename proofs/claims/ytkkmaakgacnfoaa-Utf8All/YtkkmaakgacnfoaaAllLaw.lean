/-
  Utf8All: each number from 0 to 1114111 (every 13th, and those about the borders), each byte, and each two.
-/
import Derived.Test.YtkkmaakgacnfoaaOneU
import Derived.Test.YtkkmaakgacnfoaaFirstsU
namespace Go.Proofs.Ytkkmaakgacnfoaa
open Go.RowKit

def bordersL : List Nat := [0, 127, 128, 2047, 2048, 55295, 55296, 57343, 57344, 65533, 65535, 65536, 1114111]
theorem borders_le {i x : Nat} (h : bordersL[i]? = some x) : x ≤ 1114111 := by
  have := List.mem_of_getElem? h
  simp [bordersL] at this
  omega

set_option maxRecDepth 10000 in
set_option maxHeartbeats 4000000 in
theorem utf8All_walk (w : World) :
    Calls Try.prog 7 #[] w fun e w' => e = .returned (.bool true) ∧ Below w.heap.size w w' := by
  have z1 : sizeZ (-1) = 0 := by decide
  have z2 : sizeZ 1114112 = 0 := by decide
  have z3 : sizeZ 2147483647 = 0 := by decide
  have hz1 := hid z1
  have hz2 := hid z2
  have hz3 := hid z3
  clear z1 z2 z3
  go_enter Try.func7, Try.ntmps7
  go_wp2
  obtain ⟨cs, hcs⟩ : ∃ cs : Array Value, cs = #[.int .i64 0, .int .i64 127, .int .i64 128, .int .i64 2047, .int .i64 2048, .int .i64 55295, .int .i64 55296, .int .i64 57343, .int .i64 57344, .int .i64 65533, .int .i64 65535, .int .i64 65536, .int .i64 1114111] := ⟨_, rfl⟩
  rw [← hcs]
  have hat := hid (show At (w.alloc (.cells cs 3)) w.heap.size cs 3 from At.new _ _ _)
  have hb0 := hid (show Below w.heap.size w (w.alloc (.cells cs 3)) from (Below.refl _ _).alloc (Nat.le_refl _) _)
  have hcells := hid (show ∀ (i x : Nat), bordersL[i]? = some x → cs[i]? = some (.int .i64 (x : Int)) from fun i x h => by
    have e : cs = (bordersL.map fun (x : Nat) => Value.int .i64 (x : Int)).toArray := by rw [hcs]; rfl
    rw [e, List.getElem?_toArray, List.getElem?_map, h]
    rfl)
  generalize w.alloc (.cells cs 3) = W at *
  clear hcs
  go_loopw [2] (fun ii wr => ∃ i : Nat, i ≤ 13 ∧ ii = .int .i64 (i : Int) ∧ Hid (At wr w.heap.size cs 3) ∧ Hid (Below w.heap.size w wr)) (fun ii _ => 13 - (intOf ii).toNat)
  case atStart => exact ⟨0, by omega, rfl, hat, hb0⟩
  case round =>
    clear hat hb0
    obtain ⟨i, hi, rfl, hA, hB⟩ := hrel
    by_cases hlt : i < 13
    · have hli : (i : Int) < 13 := by omega
      obtain ⟨x, hx⟩ : ∃ x, bordersL[i]? = some x := ⟨_, List.getElem?_eq_getElem (by show i < 13; omega)⟩
      have hxle := borders_le hx
      have hxc := hid (hcells.out i x hx)
      have hc := hA.out.cell i
      rw [hxc.out] at hc
      have hxi : (x : Int) ≤ 1114111 := by omega
      clear hx
      go_wp2
      go_loopw [3] (fun cc wr => ∃ z : Int, -1 ≤ z ∧ z ≤ 1114113 ∧ z ≤ (x : Int) + 2 ∧ cc = .int .i64 z ∧ Hid (At wr w.heap.size cs 3) ∧ Hid (Below w.heap.size w wr)) (fun cc _ => (1114115 - (intOf cc)).toNat)
      case atStart => exact ⟨(x : Int) - 1, by omega, by omega, by omega, rfl, hA, hB⟩
      case round =>
        obtain ⟨z, hz0, hz9, hzx, rfl, hA2, hB2⟩ := hrel
        have hc2 := hA2.out.cell i
        rw [hxc.out] at hc2
        clear hc
        by_cases hzl : z ≤ (x : Int) + 1
        · have hw32 : wrap32 z = z := by unfold wrap32; omega
          have hz2' : z ≤ 1114112 := by omega
          go_wp2_with fail
          try rw [hw32]
          refine (one_calls z _).mono ?_
          rintro e w1 ⟨rfl, hb⟩
          have hA3 := hid (hA2.out.keptAll hb)
          have hB3 := hid (hB2.out.trans (hb.mono hB2.out.size))
          clear hb hw32
          go_wp2
          go_roundw
          case rel => exact ⟨z + 1, by omega, by omega, by omega, rfl, hA3, hB3⟩
          case measure => simp [intOf]; omega
        · go_wp2
          go_roundw
          case rel => exact ⟨i + 1, hlt, by simp, hA2, hB2⟩
          case measure => simp [intOf]; omega
    · have hni : ¬ (i : Int) < 13 := by omega
      clear hlt hi
      go_wp2
      go_loopw [4] (fun cc wr => ∃ c : Nat, c ≤ 1114124 ∧ cc = .int .i64 (c : Int) ∧ Hid (Below w.heap.size w wr)) (fun cc _ => 1114200 - (intOf cc).toNat)
      case atStart => exact ⟨0, by omega, rfl, hB⟩
      case round =>
        obtain ⟨c, hc, rfl, hB2⟩ := hrel
        by_cases hle : c ≤ 1114111
        · have hlei : (c : Int) ≤ 1114111 := by omega
          have hw32 : wrap32 (c : Int) = (c : Int) := by unfold wrap32; omega
          go_wp2_with fail
          try rw [hw32]
          refine (one_calls (c : Int) _).mono ?_
          rintro e w1 ⟨rfl, hb⟩
          have hB3 := hid (hB2.out.trans (hb.mono hB2.out.size))
          clear hb hw32
          go_wp2
          go_roundw
          case rel => exact ⟨c + 13, by omega, by simp, hB3⟩
          case measure => simp [intOf]; omega
        · have hlei : ¬ (c : Int) ≤ 1114111 := by omega
          go_wp2_with fail
          refine (firsts_calls _).mono ?_
          rintro e w1 ⟨rfl, hb⟩
          have hB3 := hid (hB2.out.trans (hb.mono hB2.out.size))
          clear hb
          go_wp2_with fail
          refine (size_calls (-1) _).mono ?_
          rintro e w2 ⟨rfl, hw2⟩
          rw [hw2, hz1.out]
          clear hw2
          go_wp2_with fail
          refine (size_calls 1114112 _).mono ?_
          rintro e w2 ⟨rfl, hw2⟩
          rw [hw2, hz2.out]
          clear hw2
          go_wp2_with fail
          refine (size_calls 2147483647 _).mono ?_
          rintro e w2 ⟨rfl, hw2⟩
          rw [hw2, hz3.out]
          clear hw2
          go_wp2
          go_ret
          exact ⟨rfl, hB3.out⟩
end Go.Proofs.Ytkkmaakgacnfoaa
