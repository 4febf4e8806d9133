/-
  Two classes beside a text and a byte, by value.
-/
import Derived.Test.YtjeecpgcokjjjabBlockOpen
namespace Go.Proofs.Ytjeecpgcokjjjab
open Go.ChangeShapes Go.WideShapes Go.ChangeAt Go.RowKit

/-- The ten cells. -/
def clsesArr (c d : Nat → Nat) (s : ByteArray) (x : Nat) : Array Value := #[.int .u64 ((c 0 : Nat) : Int), .int .u64 ((c 1 : Nat) : Int), .int .u64 ((c 2 : Nat) : Int), .int .u64 ((c 3 : Nat) : Int), .int .u64 ((d 0 : Nat) : Int), .int .u64 ((d 1 : Nat) : Int), .int .u64 ((d 2 : Nat) : Int), .int .u64 ((d 3 : Nat) : Int), .string s, .int .u8 (x : Int)]

section
variable {H : Type} {enc : TypeId × Value → H} {w : World} {base : Nat} {spare : Nat → Bool} {held : Bool}
theorem open_classes {r : Reach} {b0 : Nat} {v : Value} {d : DataW H} {ps : List MemPlace} (hval : Value.okWide Try.prog w r b0 27 v) (hd : DataW.Trod enc Try.prog w base spare held 27 v d ps) :
    ∃ (c e : Nat → Nat) (s : ByteArray) (x : Nat), v = .agg (clsesArr c e s x) ∧ Cls c ∧ Cls e ∧ s.size ≤ maxLen ∧ x < 256 := by
  obtain ⟨cs, rfl, hs⟩ := okWide_struct Try.underlying27 hval
  obtain ⟨fuel, hf⟩ := hd
  obtain ⟨xs, m, _, _, hlen, hxl, hx⟩ := DataW.trod_struct Try.underlying27 hf
  have hl : cs.toList.length = 10 := hlen.trans (by kernel_rfl)
  have hxl' : xs.length = 4 := hxl
  have e4 : Try.prog.cellsOf 25 = 4 := by kernel_rfl
  have e1 : Try.prog.cellsOf 9 = 1 := by kernel_rfl
  have e2 : Try.prog.cellsOf 5 = 1 := by kernel_rfl
  have h0 : DataW.trod enc Try.prog w base spare held m 25 ((cs.toList.drop 0).take (Try.prog.cellsOf 25)) = xs[0]? := hx 0 _ rfl
  have h1 : DataW.trod enc Try.prog w base spare held m 25 ((cs.toList.drop 4).take (Try.prog.cellsOf 25)) = xs[1]? := hx 1 _ rfl
  have h2 : DataW.trod enc Try.prog w base spare held m 9 ((cs.toList.drop 8).take (Try.prog.cellsOf 9)) = xs[2]? := hx 2 _ rfl
  have h3 : DataW.trod enc Try.prog w base spare held m 5 ((cs.toList.drop 9).take (Try.prog.cellsOf 5)) = xs[3]? := hx 3 _ rfl
  rw [e4, List.getElem?_eq_getElem (by omega)] at h0 h1
  rw [e1, List.getElem?_eq_getElem (by omega)] at h2
  rw [e2, List.getElem?_eq_getElem (by omega)] at h3
  obtain ⟨c, hc, q0⟩ := class_cells h0
  obtain ⟨e, he, q1⟩ := class_cells h1
  obtain ⟨s, q2, _, hsl⟩ := DataW.trod_string Try.underlying9 h2
  obtain ⟨z, q3, _, hz⟩ := DataW.trod_int Try.underlying5 h3
  have hz' := wf_u8 hz
  refine ⟨c, e, s, z.toNat, ?_, hc, he, hsl, by omega⟩
  have hzz : ((z.toNat : Nat) : Int) = z := by omega
  have key : cs.toList = ((cs.toList.drop 0).take 4) ++ ((cs.toList.drop 4).take 4) ++ ((cs.toList.drop 8).take 1) ++ ((cs.toList.drop 9).take 1) := by
    apply List.ext_getElem?
    intro i
    by_cases hi : i < 10
    · have : i = 0 ∨ i = 1 ∨ i = 2 ∨ i = 3 ∨ i = 4 ∨ i = 5 ∨ i = 6 ∨ i = 7 ∨ i = 8 ∨ i = 9 := by omega
      generalize cs.toList = l at hl ⊢
      obtain ⟨a0, a1, a2, a3, a4, a5, a6, a7, a8, a9, rfl⟩ : ∃ a0 a1 a2 a3 a4 a5 a6 a7 a8 a9, l = [a0, a1, a2, a3, a4, a5, a6, a7, a8, a9] := by
        match l, hl with
        | [a0, a1, a2, a3, a4, a5, a6, a7, a8, a9], _ => exact ⟨a0, a1, a2, a3, a4, a5, a6, a7, a8, a9, rfl⟩
      rfl
    · rw [List.getElem?_eq_none (by omega), List.getElem?_eq_none (by simp; omega)]
  rw [q0, q1, q2, q3] at key
  have : cs = clsesArr c e s z.toNat := by
    apply Array.toList_inj.1
    rw [key, clsArr_lit, clsArr_lit, clsesArr, hzz]
    rfl
  rw [this]
end
end Go.Proofs.Ytjeecpgcokjjjab
