/-
  The walk of quarrylaw02.BlockWalks.
-/
import Derived.Test.YtjeecpgcokjjjaaToldWalk
namespace Go.Proofs.Ytjeecpgcokjjjaa
open Go.RowKit Go.Shelf

attribute [local go_sem] Oper.semAt_some

theorem seq_new (s : ByteArray) (p : Int) (w : World) :
    ∃ W1, (w.alloc (.cells #[.string s] 9)).alloc (.cells #[.int .u8 p] 5) = W1 ∧ At W1 w.heap.size #[.string s] 9 ∧ At W1 (w.heap.size + 1) #[.int .u8 p] 5 ∧ Below w.heap.size w W1 := by
  refine ⟨_, rfl, (At.new w _ _).alloc _, ?_, by repeat (first | with_reducible exact Below.refl _ _ | with_reducible refine Below.setCell ?_ (by first | (simp; done) | (simp; omega)) _ | with_reducible refine below_drewN ?_ _ | with_reducible refine Below.alloc ?_ (by first | (simp; done) | (simp; omega)) _ | with_reducible refine Below.drew ?_)⟩
  have h := At.new (w.alloc (.cells #[.string s] 9)) #[.int .u8 p] 5
  simpa using h

theorem told_at {s : ByteArray} (hs : s.size ≤ 9223372036854775000) {p d : Nat} (hd : d ≤ 1000) (left : Int) {W wx : World} {B : Nat} (a0 : At W B #[.string s] 9) (a1 : At W (B + 1) #[.int .u8 (p : Int)] 5) (hb : Below W.heap.size W wx) :
    Calls Try.prog 26 #[.func (.func 33) #[] #[.pointer (some ⟨B, 0, none⟩), .pointer (some ⟨B + 1, 0, none⟩)], .string s, .int .u8 (p : Int), .int .i64 left, .int .i64 (d : Int)] wx fun e w' => e = .returned (.bool true) ∧ Below wx.heap.size wx w' := by
  have b0 := a0.keptAll hb
  have b1 := a1.keptAll hb
  exact told_calls s hs p _ _ d hd left wx b0.lt b1.lt (b0.cell 0) (b1.cell 0)

set_option maxRecDepth 100000 in
set_option maxHeartbeats 4000000 in
theorem walks_nat (s : ByteArray) (hs : s.size ≤ 9223372036854775000) (p : Nat) (left : Int) (w : World) :
    Calls Try.prog 6 #[.string s, .int .u8 (p : Int), .int .i64 left] w fun e w' => e = .returned (.bool true) ∧ Below w.heap.size w w' := by
  have hnf : ∀ (f : Fn) (a b : Array Value) (w : World), Sem.run Try.prog (binOp BinOp.eql 41 (.func f a b) .nilFunc) w = .ok (.bool false) w := fun _ _ _ _ => by rfl
  have hmf : ∀ (fn : Fn) (first cap : Array Value) (w : World), (Instr.makeFunc fn first cap).run Try.prog w = .ok (.func fn first cap) w := fun _ _ _ _ => rfl
  go_enter Try.func6, Try.ntmps6
  obtain ⟨W1, hW1, a0, a1, hB1⟩ := seq_new ⟨#[120]⟩ 9 w
  have hT1 : Hid (∀ wx, Below W1.heap.size W1 wx → Calls Try.prog 26 #[.func (.func 33) #[] #[.pointer (some ⟨w.heap.size, 0, none⟩), .pointer (some ⟨w.heap.size + 1, 0, none⟩)], .string ⟨#[120]⟩, .int .u8 9, .int .i64 0, .int .i64 0] wx fun e w' => e = .returned (.bool true) ∧ Below wx.heap.size wx w') :=
    fun wx hb => told_at (s := ⟨#[120]⟩) (by decide) (p := 9) (d := 0) (by decide) 0 a0 a1 hb
  have hBx : Hid (Calls Try.prog 25 #[.string ⟨#[120]⟩, .int .u8 9] w _) := blocks_calls ⟨#[120]⟩ 9 w
  go_wp2_with fail
  refine hBx.out.mono ?_
  rintro e w0 ⟨rfl, hw0⟩
  obtain rfl := hw0.trans hW1
  clear hBx hW1 hw0
  go_wp2_with fail
  refine (hT1.out _ (Below.refl _ _)).mono ?_
  rintro e w1 ⟨rfl, hb1⟩
  obtain ⟨W2, hW2, c0, c1, hB2⟩ := seq_new s (p : Int) w1
  have hU : Hid (∀ (l' : Int) (d : Nat) wx, d ≤ 1000 → Below W2.heap.size W2 wx → Calls Try.prog 26 #[.func (.func 33) #[] #[.pointer (some ⟨w1.heap.size, 0, none⟩), .pointer (some ⟨w1.heap.size + 1, 0, none⟩)], .string s, .int .u8 (p : Int), .int .i64 l', .int .i64 (d : Int)] wx fun e w' => e = .returned (.bool true) ∧ Below wx.heap.size wx w') :=
    fun l' d wx hd hb => told_at hs hd l' c0 c1 hb
  go_wp2_with fail
  refine (blocks_calls s p w1).mono ?_
  rintro e w0 ⟨rfl, hw0⟩
  obtain rfl := hw0.trans hW2
  clear hW2 hw0
  go_wp2_with fail
  refine (hU.out left 1 _ (by decide) (Below.refl _ _)).mono ?_
  rintro e w3 ⟨rfl, hb3⟩
  go_wp2_with fail
  refine (hU.out 0 0 w3 (by decide) hb3).mono ?_
  rintro e w4 ⟨rfl, hb4⟩
  have hb24 := hb3.trans (hb4.mono hb3.size)
  have hb12 := hb1.trans (hB2.mono hb1.size)
  have hb14 := hb12.trans (hb24.mono hb12.size)
  go_wp2_with fail
  refine (hT1.out w4 hb14).mono ?_
  rintro e w5 ⟨rfl, hb5⟩
  have hb25 := hb24.trans (hb5.mono hb24.size)
  have hb15 := hb14.trans (hb5.mono hb14.size)
  go_wp2_with fail
  refine (hU.out 2 2 w5 (by decide) hb25).mono ?_
  rintro e w6 ⟨rfl, hb6⟩
  have hb16 := hb15.trans (hb6.mono hb15.size)
  have hbe := hB1.trans (hb16.mono hB1.size)
  go_wp2
  go_ret
  exact ⟨rfl, hbe⟩

theorem blockWalks_walk (s : ByteArray) (hs : s.size ≤ reachBytes) (p : Int) (hp : (Lit.int .u8 p).wf = true) (left : Int) (_ : (Lit.int .i64 left).wf = true) (w : World) :
    Calls Try.prog 6 #[.string s, .int .u8 p, .int .i64 left] w fun e w' => e = .returned (.bool true) ∧ Below w.heap.size w w' := by
  obtain ⟨c0, c1⟩ := wf_u8 hp
  obtain ⟨X, rfl⟩ := Int.eq_ofNat_of_zero_le c0
  exact walks_nat s (by unfold reachBytes at hs; omega) X left w
end Go.Proofs.Ytjeecpgcokjjjaa
