/-
  BlockMask, BlockEqual, BlockCut, BlockCut2, BlockAwake, BlockSeq, BlockSeqK.
-/
import Derived.Test.YtlckhiflhnlgpaaGreatDoorBlockA
import Derived.Test.YtlckhiflhnlgpaaGreatDoorLanesC
import Derived.Test.YtlckhiflhnlgpaaGreatDoorKitA
import Derived.Lib.MakeNoZero
import Derived.Laws.IdiomCopy
import Derived.Laws.ResultCell
/-
  What block.Mask and block.Equal answer.
-/
namespace Go.Proofs.YtlckhiflhnlgpaaGreatDoor
open Go.RowKit

/-- 64 cells that hold the bytes f 0 to f 63. -/
def arr64 (f : Nat → Nat) : Array Value := Array.ofFn (n := 64) fun j => .int .u8 ((f j.val : Nat) : Int)
theorem arr64_at (f : Nat → Nat) (k : Nat) (h : k < 64) : (arr64 f)[k]? = some (.int .u8 ((f k : Nat) : Int)) := by
  simp [arr64, h]
theorem arr64_size (f : Nat → Nat) : (arr64 f).size = 64 := by simp [arr64]
theorem arr64_list (f : Nat → Nat) : ∃ L : List Value, L.toArray = arr64 f ∧ L.length = 64 := ⟨(arr64 f).toList, by simp, by simp [arr64]⟩
theorem arr64_one (f : Nat → Nat) {L : List Value} (hL : L.toArray = arr64 f) : ∀ v ∈ L, v.oneCell' = true := by
  intro v hv
  have h1 : v ∈ arr64 f := by rw [← hL]; simpa using hv
  obtain ⟨j, rfl⟩ := (Array.mem_ofFn.1 h1)
  rfl
theorem info64 : (Tryz.prog.info? 71).map (·.size) = some 64 := by kernel_rfl

end Go.Proofs.YtlckhiflhnlgpaaGreatDoor

/-
  What block.Equal answers.
-/
namespace Go.Proofs.YtlckhiflhnlgpaaGreatDoor
open Go.RowKit

theorem maskTo_mk (p : Nat → Bool) (W n : Nat) : maskTo p W n = mk (fun i => p (byteOf W i)) n := by
  induction n with
  | zero => rfl
  | succ n ih =>
    rw [mk_succ, ← ih]
    cases hp : p (byteOf W n)
    · rw [maskTo_off p W n hp]; simp
    · rw [← maskTo_or p W n hp]; simp
theorem mk_append (q : Nat → Bool) (a b : Nat) : mk q a ||| mk (fun i => q (a + i)) b * 2 ^ a = mk q (a + b) := by
  apply Nat.eq_of_testBit_eq
  intro i
  rw [Nat.testBit_or, mk_bit, mk_bit, Nat.testBit_mul_two_pow, mk_bit]
  by_cases h : i < a
  · have h1 : ¬ a ≤ i := by omega
    have h2 : i < a + b := by omega
    simp [h, h1, h2]
  · have h1 : a ≤ i := by omega
    have h2 : a + (i - a) = i := by omega
    by_cases h3 : i < a + b
    · have h4 : i - a < b := by omega
      simp [h, h1, h2, h3, h4]
    · have h4 : ¬ i - a < b := by omega
      simp [h, h3, h4]
/-- Eight answers of lanes.Equal, put in their place. -/
theorem equal_step (f : Nat → Nat) (hf : ∀ i, f i < 256) (x a : Nat) (ha : a + 8 ≤ 64) :
    bits BinOp.or IntKind.u64 ((mk (fun i => isB x (f i)) a : Nat) : Int) (IntKind.u64.wrap (((mask8 (isB x) (loadTo (fun j => f (a + j)) 8) : Nat) : Int) * 2 ^ a)) = ((mk (fun i => isB x (f i)) (a + 8) : Nat) : Int) := by
  have e1 : mask8 (isB x) (loadTo (fun j => f (a + j)) 8) = mk (fun i => (fun i => isB x (f i)) (a + i)) 8 := by
    unfold mask8
    rw [maskTo_mk]
    refine mk_congr _ _ 8 fun i hi => ?_
    rw [byteOf_load (fun j => f (a + j)) (fun j => hf _) 8 i hi]
  rw [e1]
  have hl := mk_lt (fun i => (fun i => isB x (f i)) (a + i)) 8
  generalize hM : mk (fun i => (fun i => isB x (f i)) (a + i)) 8 = M at hl
  have h2 : M * 2 ^ a < 18446744073709551616 := by
    have h1 : M * 2 ^ a < 2 ^ 8 * 2 ^ a := Nat.mul_lt_mul_of_pos_right hl (Nat.pow_pos (by decide))
    rw [← Nat.pow_add] at h1
    have h3 : (2 : Nat) ^ (8 + a) ≤ 2 ^ 64 := Nat.pow_le_pow_right (by decide) (by omega)
    have h4 : (2 : Nat) ^ 64 = 18446744073709551616 := by decide
    omega
  have e2 : IntKind.u64.wrap (((M : Nat) : Int) * 2 ^ a) = ((M * 2 ^ a : Nat) : Int) := by
    have e : ((M : Nat) : Int) * 2 ^ a = ((M * 2 ^ a : Nat) : Int) := by simp
    rw [e, IntKind.wrap_u64]
    generalize M * 2 ^ a = X at *
    omega
  rw [e2, u64_or_nat _ _ (mk_lt64 _ _ (by omega)) h2, ← hM, mk_append]
theorem byteArr_lit8 (f : Nat → Nat) (a : Nat) : #[.int .u8 ((f a : Nat) : Int), .int .u8 ((f (a + 1) : Nat) : Int), .int .u8 ((f (a + 2) : Nat) : Int), .int .u8 ((f (a + 3) : Nat) : Int), .int .u8 ((f (a + 4) : Nat) : Int), .int .u8 ((f (a + 5) : Nat) : Int), .int .u8 ((f (a + 6) : Nat) : Int), .int .u8 ((f (a + 7) : Nat) : Int)] = byteArr (fun j => f (a + j)) := rfl
theorem load_lt (f : Nat → Nat) (hf : ∀ i, f i < 256) : loadTo f 8 < 18446744073709551616 := by
  have h := loadTo_lt f hf 8
  have e : (256 : Nat) ^ 8 = 18446744073709551616 := by decide
  omega

theorem slice64 (b a : Nat) (ha : a + 8 ≤ 64) (w : World) : (Instr.sliceAt 71 (.pointer (some ⟨b, 0, none⟩)) (some (.int .i64 (a : Int))) (some (.int .i64 ((a : Int) + 8))) none).run Tryz.prog w = .ok (.slice (some ⟨b, a, none⟩) 8 (64 - a)) w := by
  have hl : Tryz.prog.arrayLen 71 = 64 := by kernel_rfl
  have hs : (sizeOf (Tryz.prog.elem 71)).run Tryz.prog w = .ok 1 w := by kernel_rfl
  rw [run_sliceAt_array_lh w _ _ (by kernel_rfl) _ _ _ _ (by omega) (by omega) (by rw [hl]; omega), hs, hl]
  have e1 : ((a : Int)).toNat = a := by omega
  have e2 : ((a : Int) + 8).toNat = a + 8 := by omega
  rw [Result.andThen_ok, e1, e2, slicedAt, if_neg (by omega), Nat.add_sub_cancel_left]
  simp only [Addr.add, Nat.mul_one, Nat.zero_add]
  split
  · rename_i h; rw [h]
  · rfl
theorem arrayAt8 (b a n : Nat) (w : World) : (Instr.arrayAt 114 (.slice (some ⟨b, a, none⟩) 8 n)).run Tryz.prog w = .ok (.pointer (some ⟨b, a, none⟩)) w := by
  simp [Instr.arrayAt, run_underlying Tryz.underlying114]

set_option maxRecDepth 100000 in
set_option maxHeartbeats 1000000 in
theorem equal_nat (f : Nat → Nat) (hf : ∀ i, f i < 256) (x : Nat) (hx : x < 256) (M : Nat) (HM : Hid (mk (fun i => isB x (f i)) 64 = M)) (w : World) :
    Calls Tryz.prog 91 #[.agg (arr64 f), .int .u8 (x : Int)] w fun e w' => e = .returned (.int .u64 (M : Int)) ∧ Below w.heap.size w w' := by
  go_enter Tryz.func91, Tryz.ntmps91
  go_wp2
  go_loopw [5, 6] (fun r i wr => ∃ a : Nat, a % 8 = 0 ∧ a ≤ 64 ∧ i = .int .i64 a ∧ r = .int .u64 ((mk (fun i => isB x (f i)) a : Nat) : Int) ∧ At wr w.heap.size (arr64 f) 71 ∧ Below w.heap.size w wr) (fun _ i _ => 64 - (intOf i).toNat)
  case atStart => exact ⟨0, rfl, by omega, rfl, rfl, At.new _ _ _, (Below.refl _ _).alloc (Nat.le_refl _) _⟩
  case round =>
    obtain ⟨a, hak, ha, rfl, rfl, hA, hBel⟩ := hrel
    by_cases hlt : a < 64
    · have hk8 : (a : Int) < 64 := by omega
      have ha8 : a + 8 ≤ 64 := by omega
      have hz8 : (a : Int) + 8 ≤ 64 := by omega
      have c0 : wr.cell? ⟨w.heap.size, a, none⟩ = some (.int .u8 ((f a : Nat) : Int)) := (hA.cell _).trans (arr64_at f _ (by omega))
      have c1 : wr.cell? ⟨w.heap.size, a + 1, none⟩ = some (.int .u8 ((f (a + 1) : Nat) : Int)) := (hA.cell _).trans (arr64_at f _ (by omega))
      have c2 : wr.cell? ⟨w.heap.size, a + 2, none⟩ = some (.int .u8 ((f (a + 2) : Nat) : Int)) := (hA.cell _).trans (arr64_at f _ (by omega))
      have c3 : wr.cell? ⟨w.heap.size, a + 3, none⟩ = some (.int .u8 ((f (a + 3) : Nat) : Int)) := (hA.cell _).trans (arr64_at f _ (by omega))
      have c4 : wr.cell? ⟨w.heap.size, a + 4, none⟩ = some (.int .u8 ((f (a + 4) : Nat) : Int)) := (hA.cell _).trans (arr64_at f _ (by omega))
      have c5 : wr.cell? ⟨w.heap.size, a + 5, none⟩ = some (.int .u8 ((f (a + 5) : Nat) : Int)) := (hA.cell _).trans (arr64_at f _ (by omega))
      have c6 : wr.cell? ⟨w.heap.size, a + 6, none⟩ = some (.int .u8 ((f (a + 6) : Nat) : Int)) := (hA.cell _).trans (arr64_at f _ (by omega))
      have c7 : wr.cell? ⟨w.heap.size, a + 7, none⟩ = some (.int .u8 ((f (a + 7) : Nat) : Int)) := (hA.cell _).trans (arr64_at f _ (by omega))
      have hsl := slice64 w.heap.size a ha8
      have hat := arrayAt8 w.heap.size a (64 - a)
      go_wp2_with fail
      rw [byteArr_lit8 f a]
      generalize hL : loadTo (fun j => f (a + j)) 8 = L
      have hLl : L < 18446744073709551616 := by rw [← hL]; exact load_lt _ (fun j => hf _)
      refine (load_nat (fun j => f (a + j)) (fun j => hf _) L _ hL).mono ?_
      rintro e w1 ⟨rfl, hb1⟩
      have hA1 := hA.keptAll hb1
      have hB1 := hBel.trans (hb1.mono hBel.size)
      go_wp2_with fail
      refine (equal_calls (L : Int) (x : Int) _ (by omega) (by omega) (by omega)).mono ?_
      rintro e w2 ⟨rfl, hb2⟩
      have hA2 := hA1.keptAll hb2
      have hB2 := hB1.trans (hb2.mono hB1.size)
      have hst := equal_step f hf x a ha8
      rw [hL] at hst
      have hm8 : mask8 (isB x) L < 256 := maskTo_lt _ _ 8
      simp only [Int.toNat_natCast]
      generalize mask8 (isB x) L = E at hst hm8 ⊢
      clear hsl hat c0 c1 c2 c3 c4 c5 c6 c7
      go_wp2
      exact ⟨⟨a + 8, by omega, by omega, by go_num, rfl, hA2, hB2⟩, by simp [intOf]; omega⟩
    · have hk' : a = 64 := by omega
      subst hk'
      go_wp2
      go_ret
      exact ⟨by rw [HM.out]; rfl, hBel⟩
end Go.Proofs.YtlckhiflhnlgpaaGreatDoor

/-
  What bytes.Repeat of one byte, 64 times, answers.
-/
namespace Go.Proofs.YtlckhiflhnlgpaaGreatDoor
open Go.RowKit

set_option maxRecDepth 100000 in
theorem mul_calls (w : World) : Calls Tryz.prog 110 #[.int .u64 1, .int .u64 64] w fun e w' => e = .returned (.tuple #[.int .u64 0, .int .u64 64]) ∧ w' = w := by
  go_enter Tryz.func110, Tryz.ntmps110
  go_wp2
  refine bodyPost_ret (v := .tuple #[.int .u64 0, .int .u64 64]) (by simp [results, Tryz.results110, go_sem]; decide) rfl ⟨rfl, rfl⟩

/-- The first n cells of a row of at least 64 hold the byte p. -/
def Padded (w : World) (b n p : Nat) : Prop := ∃ cs : Array Value, At w b cs 5 ∧ 64 ≤ cs.size ∧ ∀ i, i < n → cs[i]? = some (.int .u8 (p : Int))

theorem made64 (w : World) : ∃ cs : Array Value, (callFunc 111 #[.int .i64 64]).run Tryz.prog w = .ok (.value (.slice (some ⟨w.heap.size, 0, none⟩) 64 cs.size)) (w.drew.drew.alloc (.cells cs 5)) ∧ 64 ≤ cs.size := by
  obtain ⟨cs, hrun, hle, _⟩ := Lib.run_makeNoZero (P := Tryz.prog) w #[3] 39 5 Tryz.underlying39 64 (by decide)
  refine ⟨cs, ?_, hle⟩
  rw [run_callFunc_extern Tryz.func111 (by kernel_rfl) (by kernel_rfl) (by kernel_rfl) (e := Extern.BytealgMakeNoZero.makeNoZero #[3] #[39]) (by kernel_rfl)]
  have h64 : (Value.int .i64 64) = .int .i64 ((64 : Nat) : Int) := rfl
  rw [h64, hrun]
  rfl

theorem info8 : (Tryz.prog.info? 5).map (·.size) = some 1 := by kernel_rfl
/-- Of a row whose first n cells hold p, m of them are put behind these. -/
theorem copy_pad (w : World) (b n m p : Nat) (a : Addr) (sLen sCap dLen dCap : Nat) (h : Padded w b n p) (hm : Nat.min sLen dLen = m) (hfit : n + m ≤ 64) (hsrc : ∀ j, j < m → w.cell? (a.add j) = some (.int .u8 (p : Int))) :
    ∃ w1, (Builtin.copy_ #[39, 39] 3 #[.slice (some ⟨b, n, none⟩) dLen dCap, .slice (some a) sLen sCap]).run Tryz.prog w = .ok (.int .i64 (m : Int)) w1 ∧ Padded w1 b (n + m) p ∧ ∀ (k : Nat) (w0 : World), Below k w0 w → k ≤ b → Below k w0 w1 := by
  obtain ⟨cs, hA, hs, hc⟩ := h
  have hrun := run_copy_cells (P := Tryz.prog) w 39 39 3 5 b n dLen dCap a sLen sCap (List.replicate m (.int .u8 (p : Int))) Tryz.underlying39 info8 (by simp [hm])
    (fun j v hv => by
      have hj : j < m := by
        have := (List.getElem?_eq_some_iff.1 hv).1
        simpa using this
      rw [hsrc j hj]
      rw [List.getElem?_replicate, if_pos hj] at hv
      exact hv)
    (fun j hj => by rw [hA.cell, Array.getElem?_eq_getElem (by simp at hj; omega)]; rfl) (fun j _ => hA.frozen _) (fun v hv => by rw [List.eq_of_mem_replicate hv]; rfl)
  refine ⟨w.setCells b n (List.replicate m (.int .u8 (p : Int))), by rw [hrun]; simp [goInt], ?_, ?_⟩
  · obtain ⟨ds, h1, h2, h3, h4, _⟩ := At.setCells_at (List.replicate m (.int .u8 (p : Int))) n hA (by simp; omega)
    refine ⟨ds, h1, by omega, fun i hi => ?_⟩
    by_cases e : i < n
    · rw [h3 i e, hc i e]
    · have := h4 (i - n) (by simp; omega)
      rw [show n + (i - n) = i by omega, List.getElem?_replicate, if_pos (by omega)] at this
      exact this
  · exact fun k w0 hb hk => below_setCells hb hk _ _

set_option maxRecDepth 100000 in
set_option maxHeartbeats 1000000 in
theorem repeat_calls (p g : Nat) (w : World) (hA : At w g #[.int .u8 (p : Int)] 5) :
    Calls Tryz.prog 99 #[.slice (some ⟨g, 0, none⟩) 1 1, .int .i64 64] w fun e w' => e = .returned (.slice (some ⟨w.heap.size, 0, none⟩) 64 64) ∧ Padded w' w.heap.size 64 p ∧ Below w.heap.size w w' := by
  obtain ⟨cs, hmk, hge⟩ := made64 w
  have hgi : (64 : Int) ≤ (cs.size : Int) := by omega
  go_enter Tryz.func99, Tryz.ntmps99
  go_wp2_with (first | (go_at_call 110; refine (mul_calls _).mono ?_; rintro e w1 ⟨rfl, hw1⟩; rw [hw1]; clear hw1))
  have hA0 : At (w.alloc (.cells cs 5)).drew.drew w.heap.size cs 5 := At.new w cs 5
  have hP0 : Padded (w.alloc (.cells cs 5)).drew.drew w.heap.size 0 p := ⟨cs, hA0, hge, fun i hi => by omega⟩
  have hB0 : Below w.heap.size w (w.alloc (.cells cs 5)).drew.drew := ((Below.refl _ _).alloc (Nat.le_refl _) _).drew.drew
  have hg0 : At (w.alloc (.cells cs 5)).drew.drew g #[.int .u8 (p : Int)] 5 := hA.alloc _
  generalize (w.alloc (.cells cs 5)).drew.drew = W0 at *
  obtain ⟨W1, hrun1, hP1, hB1⟩ := copy_pad W0 w.heap.size 0 1 p ⟨g, 0, none⟩ 1 1 64 64 hP0 rfl (by omega) (fun j hj => by
    obtain rfl : j = 0 := by omega
    exact hg0.cell 0)
  have hB1 := hB1 _ _ hB0 (Nat.le_refl _)
  rw [hrun1]
  clear hmk hA hA0 hP0 hB0 hg0 hrun1
  go_wp2
  go_loopw [10] (fun i wr => ∃ n : Nat, 1 ≤ n ∧ n ≤ 64 ∧ i = .int .i64 n ∧ Padded wr w.heap.size n p ∧ Below w.heap.size w wr) (fun i _ => 64 - (intOf i).toNat)
  case atStart => exact ⟨1, by omega, by omega, rfl, hP1, hB1⟩
  case round =>
    obtain ⟨n, hn1, hn, rfl, hP, hBel⟩ := hrel
    by_cases hlt : n < 64
    · have hlti : (n : Int) < 64 := by omega
      have hlei : (n : Int) ≤ 64 := by omega
      have hmin : Nat.min n (64 - n) ≤ 64 - n := Nat.min_le_right _ _
      have hmn : Nat.min n (64 - n) ≤ n := Nat.min_le_left _ _
      have hm1 : 1 ≤ Nat.min n (64 - n) := Nat.le_min.2 ⟨hn1, by omega⟩
      obtain ⟨cs1, hA1, hs1, hc1⟩ := hP
      obtain ⟨W2, hrun2, hP2, hB2⟩ := copy_pad wr.drew w.heap.size n (Nat.min n (64 - n)) p ⟨w.heap.size, 0, none⟩ n 64 (64 - n) (64 - n) ⟨cs1, hA1.drew, hs1, hc1⟩ rfl (by omega) (fun j hj => by
        have e : (⟨w.heap.size, 0, none⟩ : Addr).add j = ⟨w.heap.size, j, none⟩ := by simp [Addr.add_mid]
        rw [e, hA1.drew.cell, hc1 j (by omega)])
      have hB2 := hB2 _ _ hBel.drew (Nat.le_refl _)
      generalize Nat.min n (64 - n) = m at *
      have hnm : n + m ≤ 64 := by omega
      clear hA1 hs1 hc1
      go_wp2
      go_region
      go_wp2
      go_roundw
      case rel => exact ⟨n + m, by omega, by omega, by go_num, hP2, hB2⟩
      case measure => simp [intOf]; omega
    · have hk' : n = 64 := by omega
      subst hk'
      go_wp2
      go_ret
      exact ⟨rfl, hP, hBel⟩
end Go.Proofs.YtlckhiflhnlgpaaGreatDoor

/-
  What block.Cut answers.
-/
namespace Go.Proofs.YtlckhiflhnlgpaaGreatDoor
open Go.RowKit

/-- The 64 bytes of a text from a place on, filled up. -/
def cutF (s : ByteArray) (at_ : Int) (p i : Nat) : Nat := if 0 ≤ at_ ∧ at_ + i < s.size then byteAt s (at_.toNat + i) else p
/-- How many of them are the text's. -/
def cutN (s : ByteArray) (at_ : Int) : Nat := if 0 ≤ at_ ∧ at_ < s.size then Nat.min (s.size - at_.toNat) 64 else 0
theorem cutF_lt (s : ByteArray) (at_ : Int) (p : Nat) (hp : p < 256) (i : Nat) : cutF s at_ p i < 256 := by
  unfold cutF
  split
  · exact byteAt_lt _ _
  · exact hp
/-- The first 64 cells of a row hold the bytes f. -/
def Row64 (w : World) (b : Nat) (f : Nat → Nat) : Prop := ∃ cs : Array Value, At w b cs 5 ∧ 64 ≤ cs.size ∧ ∀ i, i < 64 → cs[i]? = some (.int .u8 ((f i : Nat) : Int))
theorem Row64.range {w : World} {b : Nat} {f : Nat → Nat} (h : Row64 w b f) {L : List Value} (hL : L.toArray = arr64 f) (hl : L.length = 64) : w.rangeAt b 0 L := fun j v hv => by
  obtain ⟨cs, hA, _, hc⟩ := h
  have hj : j < 64 := by
    have := (List.getElem?_eq_some_iff.1 hv).1
    omega
  rw [Nat.zero_add, hA.cell, hc j hj, ← arr64_at f j hj, ← hL]
  simpa using hv
/-- A text is put over the bytes p. -/
theorem copy_text (w : World) (b p : Nat) (t : ByteArray) (h : Padded w b 64 p) :
    ∃ w1, (Builtin.copy_ #[39, 9] 3 #[.slice (some ⟨b, 0, none⟩) 64 64, .string t]).run Tryz.prog w = .ok (.int .i64 ((Nat.min t.size 64 : Nat) : Int)) w1 ∧ Row64 w1 b (fun i => if i < t.size then byteAt t i else p) ∧ (∀ (b' : Nat) (ds : Array Value) (t' : TypeId), b' ≠ b → At w b' ds t' → At w1 b' ds t') ∧ ∀ (k : Nat) (w0 : World), Below k w0 w → k ≤ b → Below k w0 w1 := by
  obtain ⟨cs, hA, hs, hc⟩ := h
  have hm64 : Nat.min t.size 64 ≤ 64 := Nat.min_le_right _ _
  have hmt : Nat.min t.size 64 ≤ t.size := Nat.min_le_left _ _
  have hmx : ∀ i, i < 64 → (i < Nat.min t.size 64 ↔ i < t.size) := fun i hi => ⟨fun h => by omega, fun h => Nat.lt_min.2 ⟨h, hi⟩⟩
  have hrun : ∀ n, Nat.min t.size 64 = n → (Builtin.copy_ #[39, 9] 3 #[.slice (some ⟨b, 0, none⟩) 64 64, .string t]).run Tryz.prog w = ((storeCells ⟨b, 0, none⟩ ((t.extract 0 n).data.map fun b => Value.int .u8 (b.toNat : Int)).toList).run Tryz.prog w).andThen fun _ w' => .ok (goInt n) w' := by
    intro n hn
    have hsz : (sizeOf 5).run Tryz.prog w = .ok 1 w := by kernel_rfl
    simp only [Builtin.copy_, List.getElem?_toArray, List.getElem?_cons_zero, List.getElem?_cons_succ, Sem.run_bind, run_underlying Tryz.underlying39, Result.andThen_ok, Builtin.lenOf, Builtin.firstCells, Sem.run_pure, hsz, hn]
  generalize Nat.min t.size 64 = m at *
  have hl : (((t.extract 0 m).data.map fun b => Value.int .u8 (b.toNat : Int)).toList).length = m := by
    simp only [Array.length_toList, Array.size_map]
    show (t.extract 0 m).size = m
    rw [ByteArray.size_extract]
    omega
  have hV : ∀ i, i < m → (((t.extract 0 m).data.map fun b => Value.int .u8 (b.toNat : Int)).toList)[i]? = some (.int .u8 ((byteAt t i : Nat) : Int)) := by
    intro i hi
    have h1 : i < t.data.size := by show i < t.size; omega
    simp only [byteAt, ByteArray.data_extract, Array.getElem?_toList, Array.getElem?_map, Array.getElem?_extract, Nat.zero_add, Nat.sub_zero]
    rw [if_pos (by omega), Array.getElem?_eq_getElem h1]
    rfl
  have h1c : ∀ v ∈ ((t.extract 0 m).data.map fun b => Value.int .u8 (b.toNat : Int)).toList, v.oneCell' = true := fun v hv => by
    simp only [Array.toList_map, List.mem_map] at hv
    obtain ⟨x, _, rfl⟩ := hv
    rfl
  have hrun := hrun m rfl
  generalize ((t.extract 0 m).data.map fun b => Value.int .u8 (b.toNat : Int)).toList = V at *
  have hst := run_storeCells_cells (P := Tryz.prog) b 0 V 0 w
    (fun j hj => by rw [Nat.add_zero, Nat.zero_add, hA.cell, Array.getElem?_eq_getElem (by omega)]; rfl) (fun j _ => hA.frozen _) h1c
  refine ⟨w.setCells b 0 V, ?_, ?_, fun b' ds t' hne hD => hD.setCells_other hne _ _, ?_⟩
  · rw [hrun, hst]
    rfl
  · obtain ⟨ds, h1, h2, _, h4, h5⟩ := At.setCells_at V 0 hA (by omega)
    refine ⟨ds, h1, by omega, fun i hi => ?_⟩
    by_cases e : i < m
    · have := h4 i (by omega)
      rw [Nat.zero_add, hV i e] at this
      rw [this]
      simp only [(hmx i hi).1 e, if_true]
    · rw [h5 i (by omega), hc i hi]
      show _ = some (Value.int .u8 ((if i < t.size then byteAt t i else p : Nat) : Int))
      rw [if_neg (fun h => e ((hmx i hi).2 h))]
  · exact fun k w0 hb hk => below_setCells hb hk _ _

theorem Row64.congr {w : World} {b : Nat} {f g : Nat → Nat} (h : Row64 w b f) (e : ∀ i, i < 64 → f i = g i) : Row64 w b g := by
  obtain ⟨cs, hA, hs, hc⟩ := h
  exact ⟨cs, hA, hs, fun i hi => by rw [hc i hi, e i hi]⟩
theorem cut_bytes (s : ByteArray) (A p : Nat) (hA : A < s.size) (i : Nat) : (if i < (s.extract A s.size).size then byteAt (s.extract A s.size) i else p) = cutF s A p i := by
  have hsz : (s.extract A s.size).size = s.size - A := by rw [ByteArray.size_extract]; omega
  unfold cutF
  rw [hsz, Int.toNat_natCast]
  by_cases h : i < s.size - A
  · rw [if_pos h, if_pos ⟨by omega, by omega⟩]
    have h2 : A + i < s.data.size := by show A + i < s.size; omega
    simp only [byteAt, ByteArray.data_extract, Array.getElem?_extract]
    rw [if_pos (by show i < min s.size s.data.size - A; have : s.data.size = s.size := rfl; omega)]
  · rw [if_neg h, if_neg (by omega)]
theorem arrayAt64 (b n : Nat) (w : World) : (Instr.arrayAt 71 (.slice (some ⟨b, 0, none⟩) 64 n)).run Tryz.prog w = .ok (.pointer (some ⟨b, 0, none⟩)) w := by
  simp [Instr.arrayAt, run_underlying Tryz.underlying71]
theorem zero64 : #[.int .u8 0, .int .u8 0, .int .u8 0, .int .u8 0, .int .u8 0, .int .u8 0, .int .u8 0, .int .u8 0, .int .u8 0, .int .u8 0, .int .u8 0, .int .u8 0, .int .u8 0, .int .u8 0, .int .u8 0, .int .u8 0, .int .u8 0, .int .u8 0, .int .u8 0, .int .u8 0, .int .u8 0, .int .u8 0, .int .u8 0, .int .u8 0, .int .u8 0, .int .u8 0, .int .u8 0, .int .u8 0, .int .u8 0, .int .u8 0, .int .u8 0, .int .u8 0, .int .u8 0, .int .u8 0, .int .u8 0, .int .u8 0, .int .u8 0, .int .u8 0, .int .u8 0, .int .u8 0, .int .u8 0, .int .u8 0, .int .u8 0, .int .u8 0, .int .u8 0, .int .u8 0, .int .u8 0, .int .u8 0, .int .u8 0, .int .u8 0, .int .u8 0, .int .u8 0, .int .u8 0, .int .u8 0, .int .u8 0, .int .u8 0, .int .u8 0, .int .u8 0, .int .u8 0, .int .u8 0, .int .u8 0, .int .u8 0, .int .u8 0, .int .u8 0] = arr64 (fun _ => 0) := by rfl

set_option maxRecDepth 100000 in
set_option maxHeartbeats 1000000 in
theorem cut_nat (s : ByteArray) (a : Int) (p : Nat) (n : Nat) (Hn : Hid (cutN s a = n)) (w : World) :
    Calls Tryz.prog 78 #[.string s, .int .i64 a, .int .u8 (p : Int)] w fun e w' => e = .returned (.tuple #[.agg (arr64 (cutF s a p)), .int .i64 (n : Int)]) ∧ Below w.heap.size w w' := by
  go_enter Tryz.func78, Tryz.ntmps78
  go_wp2_with fail
  rw [zero64]
  have hR0 := (At.new w (arr64 fun _ => 0) 71).alloc (.cells #[.int .u8 (p : Int)] 5)
  have hQ0 := At.new (w.alloc (.cells (arr64 fun _ => 0) 71)) #[.int .u8 (p : Int)] 5
  have hB0 : Below w.heap.size w ((w.alloc (.cells (arr64 fun _ => 0) 71)).alloc (.cells #[.int .u8 (p : Int)] 5)) := by repeat (first | with_reducible exact Below.refl _ _ | with_reducible refine Below.setCell ?_ (by first | (simp; done) | (simp; omega)) _ | with_reducible refine below_drewN ?_ _ | with_reducible refine Below.alloc ?_ (by first | (simp; done) | (simp; omega)) _ | with_reducible refine Below.drew ?_)
  have hz0 : ((w.alloc (.cells (arr64 fun _ => 0) 71)).alloc (.cells #[.int .u8 (p : Int)] 5)).heap.size = w.heap.size + 2 := by simp
  simp only [World.size_alloc] at hQ0
  generalize (w.alloc (.cells (arr64 fun _ => 0) 71)).alloc (.cells #[.int .u8 (p : Int)] 5) = W0 at *
  refine (repeat_calls p (w.heap.size + 1) W0 hQ0).mono ?_
  rintro e w1 ⟨rfl, hP, hb⟩
  have hR1 := hR0.keptAll hb
  have hB1 := hB0.trans (hb.mono hB0.size)
  rw [hz0] at hP ⊢
  clear hR0 hQ0 hB0 hb hz0
  by_cases hin : 0 ≤ a ∧ a < s.size
  · obtain ⟨h0, h1⟩ := hin
    obtain ⟨A, rfl⟩ := Int.eq_ofNat_of_zero_le h0
    have hA : A < s.size := by omega
    have hsz : (s.extract A s.size).size = s.size - A := by rw [ByteArray.size_extract]; omega
    obtain ⟨W2, hrun2, hRow, hO2, hB2⟩ := copy_text w1 (w.heap.size + 2) p (s.extract A s.size) hP
    have hB2 := hB2 _ _ hB1 (by omega)
    have hR2 := hO2 w.heap.size _ _ (by omega) hR1
    have hcong : ∀ i, i < 64 → (fun i => if i < (s.extract A s.size).size then byteAt (s.extract A s.size) i else p) i = cutF s A p i := fun i _ => cut_bytes s A p hA i
    have hRow' := hRow.congr hcong
    have hn : Nat.min (s.extract A s.size).size 64 = n := by
      rw [← Hn.out, cutN, if_pos ⟨h0, h1⟩, hsz]; rfl
    rw [hn] at hrun2
    clear hRow hcong hP hR1 hB1 hO2
    obtain ⟨L, hLt, hLl⟩ := arr64_list (cutF s A p)
    have hL1 := arr64_one _ hLt
    have hiL : (Tryz.prog.info? 71).map (·.size) = some L.length := by rw [hLl]; exact info64
    have hrg := Row64.range hRow' hLt hLl
    have hth := At.there hR2 64 (arr64_size _)
    have hth' : W2.there w.heap.size 0 L.toArray.size := by simpa [hLl] using hth
    have hiL' : (Tryz.prog.info? 71).map (·.size) = some L.toArray.size := by simpa using hiL
    have hR3 := hR2.setCells L (by rw [arr64_size, hLl])
    have hB3 := below_setCells hB2 (Nat.le_refl _) L 0
    have har := arrayAt64 (w.heap.size + 2) 64
    generalize hW3 : (W2).setCells w.heap.size 0 L = W3 at hR3 hB3
    have hLt' : Hid (L.toArray = arr64 (cutF s A p)) := hLt
    clear hLt
    go_wp2_with (first
      | (refine wpList_load_mid rfl 71 _ rfl (w.heap.size + 2) 0 rfl L _ hrg Tryz.underlying71 rfl hiL ?_)
      | (refine wpList_store_mid rfl 71 _ _ rfl w.heap.size 0 L.toArray rfl rfl hth' hiL' (all_oneCell_toArray hL1) ?_))
    refine bodyPost_ret (v := .tuple #[.agg (arr64 (cutF s A p)), .int .i64 (n : Int)]) ?_ rfl ⟨rfl, hB3⟩
    rw [results_cell_tmp rfl]
    have hl3 := run_loadVar_mid (P := Tryz.prog) W3 w.heap.size 0 71 L _ (hR3.range rfl) Tryz.underlying71 rfl hiL
    rw [hLt'.out] at hl3
    simp [asAddr, hl3]
  · have hRow : Row64 w1 (w.heap.size + 2) (cutF s a p) := by
      obtain ⟨cs, hA, hs', hc⟩ := hP
      refine ⟨cs, hA, hs', fun i hi => ?_⟩
      rw [hc i hi, cutF, if_neg (by omega)]
    by_cases h0 : 0 ≤ a
    · obtain ⟨L, hLt, hLl⟩ := arr64_list (cutF s a p)
      have hL1 := arr64_one _ hLt
      have hiL : (Tryz.prog.info? 71).map (·.size) = some L.length := by rw [hLl]; exact info64
      have hrg := Row64.range hRow hLt hLl
      have hth := At.there hR1 64 (arr64_size _)
      have hth' : w1.there w.heap.size 0 L.toArray.size := by simpa [hLl] using hth
      have hiL' : (Tryz.prog.info? 71).map (·.size) = some L.toArray.size := by simpa using hiL
      have hR3 := hR1.setCells L (by rw [arr64_size, hLl])
      have hB3 := below_setCells hB1 (Nat.le_refl _) L 0
      have har := arrayAt64 (w.heap.size + 2) 64
      generalize hW3 : (w1).setCells w.heap.size 0 L = W3 at hR3 hB3
      have hLt' : Hid (L.toArray = arr64 (cutF s a p)) := hLt
      have hn : Hid ((0 : Int) = (n : Int)) := by rw [← Hn.out, cutN, if_neg hin]; rfl
      clear hLt
      have hw : ¬ a < (s.size : Int) := by omega
      go_wp2_with (first
        | (refine wpList_load_mid rfl 71 _ rfl (w.heap.size + 2) 0 rfl L _ hrg Tryz.underlying71 rfl hiL ?_)
        | (refine wpList_store_mid rfl 71 _ _ rfl w.heap.size 0 L.toArray rfl rfl hth' hiL' (all_oneCell_toArray hL1) ?_))
      refine bodyPost_ret (v := .tuple #[.agg (arr64 (cutF s a p)), .int .i64 0]) ?_ rfl ⟨by rw [hn.out], hB3⟩
      rw [results_cell_tmp rfl]
      have hl3 := run_loadVar_mid (P := Tryz.prog) W3 w.heap.size 0 71 L _ (hR3.range rfl) Tryz.underlying71 rfl hiL
      rw [hLt'.out] at hl3
      simp [asAddr, hl3]
    · obtain ⟨L, hLt, hLl⟩ := arr64_list (cutF s a p)
      have hL1 := arr64_one _ hLt
      have hiL : (Tryz.prog.info? 71).map (·.size) = some L.length := by rw [hLl]; exact info64
      have hrg := Row64.range hRow hLt hLl
      have hth := At.there hR1 64 (arr64_size _)
      have hth' : w1.there w.heap.size 0 L.toArray.size := by simpa [hLl] using hth
      have hiL' : (Tryz.prog.info? 71).map (·.size) = some L.toArray.size := by simpa using hiL
      have hR3 := hR1.setCells L (by rw [arr64_size, hLl])
      have hB3 := below_setCells hB1 (Nat.le_refl _) L 0
      have har := arrayAt64 (w.heap.size + 2) 64
      generalize hW3 : (w1).setCells w.heap.size 0 L = W3 at hR3 hB3
      have hLt' : Hid (L.toArray = arr64 (cutF s a p)) := hLt
      have hn : Hid ((0 : Int) = (n : Int)) := by rw [← Hn.out, cutN, if_neg hin]; rfl
      clear hLt
      have hw : a < 0 := by omega
      go_wp2_with (first
        | (refine wpList_load_mid rfl 71 _ rfl (w.heap.size + 2) 0 rfl L _ hrg Tryz.underlying71 rfl hiL ?_)
        | (refine wpList_store_mid rfl 71 _ _ rfl w.heap.size 0 L.toArray rfl rfl hth' hiL' (all_oneCell_toArray hL1) ?_))
      refine bodyPost_ret (v := .tuple #[.agg (arr64 (cutF s a p)), .int .i64 0]) ?_ rfl ⟨by rw [hn.out], hB3⟩
      rw [results_cell_tmp rfl]
      have hl3 := run_loadVar_mid (P := Tryz.prog) W3 w.heap.size 0 71 L _ (hR3.range rfl) Tryz.underlying71 rfl hiL
      rw [hLt'.out] at hl3
      simp [asAddr, hl3]
end Go.Proofs.YtlckhiflhnlgpaaGreatDoor

/-
  What quarrylaw02.awake answers: true.
-/
namespace Go.Proofs.YtlckhiflhnlgpaaGreatDoor
open Go.RowKit

/-- A new block of 64 bytes, laid over at once. -/
theorem laid64 (w : World) (L : List Value) (hl : L.length = 64) : (w.alloc (.cells #[.int .u8 0, .int .u8 0, .int .u8 0, .int .u8 0, .int .u8 0, .int .u8 0, .int .u8 0, .int .u8 0, .int .u8 0, .int .u8 0, .int .u8 0, .int .u8 0, .int .u8 0, .int .u8 0, .int .u8 0, .int .u8 0, .int .u8 0, .int .u8 0, .int .u8 0, .int .u8 0, .int .u8 0, .int .u8 0, .int .u8 0, .int .u8 0, .int .u8 0, .int .u8 0, .int .u8 0, .int .u8 0, .int .u8 0, .int .u8 0, .int .u8 0, .int .u8 0, .int .u8 0, .int .u8 0, .int .u8 0, .int .u8 0, .int .u8 0, .int .u8 0, .int .u8 0, .int .u8 0, .int .u8 0, .int .u8 0, .int .u8 0, .int .u8 0, .int .u8 0, .int .u8 0, .int .u8 0, .int .u8 0, .int .u8 0, .int .u8 0, .int .u8 0, .int .u8 0, .int .u8 0, .int .u8 0, .int .u8 0, .int .u8 0, .int .u8 0, .int .u8 0, .int .u8 0, .int .u8 0, .int .u8 0, .int .u8 0, .int .u8 0, .int .u8 0] 71)).there w.heap.size 0 L.toArray.size ∧
    ∃ W, (w.alloc (.cells #[.int .u8 0, .int .u8 0, .int .u8 0, .int .u8 0, .int .u8 0, .int .u8 0, .int .u8 0, .int .u8 0, .int .u8 0, .int .u8 0, .int .u8 0, .int .u8 0, .int .u8 0, .int .u8 0, .int .u8 0, .int .u8 0, .int .u8 0, .int .u8 0, .int .u8 0, .int .u8 0, .int .u8 0, .int .u8 0, .int .u8 0, .int .u8 0, .int .u8 0, .int .u8 0, .int .u8 0, .int .u8 0, .int .u8 0, .int .u8 0, .int .u8 0, .int .u8 0, .int .u8 0, .int .u8 0, .int .u8 0, .int .u8 0, .int .u8 0, .int .u8 0, .int .u8 0, .int .u8 0, .int .u8 0, .int .u8 0, .int .u8 0, .int .u8 0, .int .u8 0, .int .u8 0, .int .u8 0, .int .u8 0, .int .u8 0, .int .u8 0, .int .u8 0, .int .u8 0, .int .u8 0, .int .u8 0, .int .u8 0, .int .u8 0, .int .u8 0, .int .u8 0, .int .u8 0, .int .u8 0, .int .u8 0, .int .u8 0, .int .u8 0, .int .u8 0] 71)).setCells w.heap.size 0 L = W ∧ At W w.heap.size L.toArray 71 ∧ Below w.heap.size w W := by
  have hA := At.new w #[.int .u8 0, .int .u8 0, .int .u8 0, .int .u8 0, .int .u8 0, .int .u8 0, .int .u8 0, .int .u8 0, .int .u8 0, .int .u8 0, .int .u8 0, .int .u8 0, .int .u8 0, .int .u8 0, .int .u8 0, .int .u8 0, .int .u8 0, .int .u8 0, .int .u8 0, .int .u8 0, .int .u8 0, .int .u8 0, .int .u8 0, .int .u8 0, .int .u8 0, .int .u8 0, .int .u8 0, .int .u8 0, .int .u8 0, .int .u8 0, .int .u8 0, .int .u8 0, .int .u8 0, .int .u8 0, .int .u8 0, .int .u8 0, .int .u8 0, .int .u8 0, .int .u8 0, .int .u8 0, .int .u8 0, .int .u8 0, .int .u8 0, .int .u8 0, .int .u8 0, .int .u8 0, .int .u8 0, .int .u8 0, .int .u8 0, .int .u8 0, .int .u8 0, .int .u8 0, .int .u8 0, .int .u8 0, .int .u8 0, .int .u8 0, .int .u8 0, .int .u8 0, .int .u8 0, .int .u8 0, .int .u8 0, .int .u8 0, .int .u8 0, .int .u8 0] 71
  refine ⟨hA.there _ (by simp [hl]), _, rfl, hA.setCells L (by simp [hl]), below_setCells ((Below.refl _ _).alloc (Nat.le_refl _) _) (Nat.le_refl _) _ _⟩

end Go.Proofs.YtlckhiflhnlgpaaGreatDoor

/-
  What block.Blocks tells: the blocks of a text, one behind the other.
-/
namespace Go.Proofs.YtlckhiflhnlgpaaGreatDoor
open Go.RowKit Go.Shelf

attribute [local go_sem] Oper.semAt_some

/-- How many blocks a text has. -/
def blocksOf (s : ByteArray) : Nat := (s.size + 63) / 64
/-- What is told of the block number r (of those behind the last one: as of the one right behind it). -/
def encB (s : ByteArray) (p r : Nat) : Array Value := #[.int .i64 ((64 * min r (blocksOf s) : Nat) : Int), .agg (arr64 (cutF s ((64 * min r (blocksOf s) : Nat) : Int) p))]

theorem blocks_calls (s : ByteArray) (p : Nat) (w : World) :
    Calls Tryz.prog 54 #[.string s, .int .u8 (p : Int)] w fun e w' => e = .returned (.func (.func 77) #[] #[.pointer (some ⟨w.heap.size, 0, none⟩), .pointer (some ⟨w.heap.size + 1, 0, none⟩)]) ∧ w' = (w.alloc (.cells #[.string s] 9)).alloc (.cells #[.int .u8 (p : Int)] 5) := by
  have hmf : ∀ (fn : Fn) (first cap : Array Value) (w : World), (Instr.makeFunc fn first cap).run Tryz.prog w = .ok (.func fn first cap) w := fun _ _ _ _ => rfl
  go_enter Tryz.func54, Tryz.ntmps54
  go_wp2
  go_ret
  exact ⟨rfl, rfl⟩
end Go.Proofs.YtlckhiflhnlgpaaGreatDoor

/-
  What block.Blocks tells, where its two variables lie among others that the caller's rounds turn.
-/
namespace Go.Proofs.YtlckhiflhnlgpaaGreatDoor
open Go.RowKit Go.Shelf

attribute [local go_sem] Oper.semAt_some

/-- The two variables of the sequence are as they were. -/
def KeepB (Bs Bp : Nat) (A B : World) : Prop := A.heap.size ≤ B.heap.size ∧ (∀ cs t, At A Bs cs t → At B Bs cs t) ∧ ∀ cs t, At A Bp cs t → At B Bp cs t
section
variable {Bs Bp : Nat} {A B C : World}
theorem KeepB.refl (Bs Bp : Nat) (A : World) : KeepB Bs Bp A A := ⟨Nat.le_refl _, fun _ _ h => h, fun _ _ h => h⟩
theorem KeepB.trans (h : KeepB Bs Bp A B) (k : KeepB Bs Bp B C) : KeepB Bs Bp A C := ⟨Nat.le_trans h.1 k.1, fun _ _ x => k.2.1 _ _ (h.2.1 _ _ x), fun _ _ x => k.2.2 _ _ (h.2.2 _ _ x)⟩
theorem KeepB.of_below (h : Below A.heap.size A B) : KeepB Bs Bp A B := ⟨h.size, fun _ _ x => x.keptAll h, fun _ _ x => x.keptAll h⟩
theorem keepB_b {w : World} (W : World) (l : Nat) (o o' : Obj) (_ : w.heap.size ≤ l) (h : W.heap[l]? = some o) (hc : o.isCells = false) (_ : o.isWalk = false) : KeepB Bs Bp W (W.putObj l o') :=
  ⟨(grownBy_putObj' W l o').size, fun _ _ x => x.own (grownBy_putObj' W l o') (fun r e => by cases e; exact ⟨o, h, hc⟩), fun _ _ x => x.own (grownBy_putObj' W l o') (fun r e => by cases e; exact ⟨o, h, hc⟩)⟩
end

set_option maxRecDepth 100000 in
set_option maxHeartbeats 4000000 in
theorem blocks1_g (n : Nat) (l Bs Bp : Nat) (s : ByteArray) (hs : s.size ≤ 9223372036854775000) (p : Nat) (enc : Nat → Array Value) (henc : ∀ r, r < blocksOf s → enc r = encB s p r) (J Jx : List Nat → World → Prop) (W : World) (hJ : AbidesFrom W.heap.size J)
    (hY : ∀ pre x W1, J pre W1 → pre.length < blocksOf s → YieldAt Fence.wide (n - 1) Tryz.prog l (enc x) W1 fun e W' =>
      (e = .returned (.bool true) ∧ J (pre ++ [x]) W' ∧ KeepB Bs Bp W1 W') ∨ (e = .returned (.bool false) ∧ Jx (pre ++ [x]) W'))
    (hAs : At W Bs #[.string s] 9) (hAp : At W Bp #[.int .u8 (p : Int)] 5) (h0 : J [] W) :
    CallsIn Fence.wide n Tryz.prog 77 #[.func (.yield l) #[] #[], .pointer (some ⟨Bs, 0, none⟩), .pointer (some ⟨Bp, 0, none⟩)] W fun e W' => (∃ v, e = .returned v) ∧
      ((∃ xs, xs = List.range (blocksOf s) ∧ J xs W') ∨ (∃ pre, (∃ k, k ≤ blocksOf s ∧ pre = List.range k) ∧ Jx pre W')) := by
  refine callsIn_of_wp Tryz.func77 rfl trivial ?_ rfl
  simp only [Tryz.ntmps77, List.size_toArray, List.length_cons, List.length_nil, Nat.reduceAdd, Nat.reduceSub, Array.replicate_succ, Array.replicate_zero, List.push_toArray, List.append_toArray, List.nil_append, List.cons_append]
  gi_wp2
  gi_loopw [4] (fun i wr => ∃ r A : Nat, Hid (A = 64 * r) ∧ r ≤ blocksOf s ∧ i = .int .i64 (A : Int) ∧ J (List.range r) wr ∧ KeepB Bs Bp W wr) (fun i _ => s.size + 64 - (intOf i).toNat)
  case atStart => exact ⟨0, 0, rfl, Nat.zero_le _, rfl, h0, KeepB.refl _ _ _⟩
  case round =>
    obtain ⟨r, A, hA, hr, rfl, hJr, hB⟩ := hrel
    have cs' := (hB.2.1 _ _ hAs).cell 0
    have cp' := (hB.2.2 _ _ hAp).cell 0
    simp only [List.getElem?_toArray, List.getElem?_cons_zero] at cs' cp'
    by_cases hlt : r < blocksOf s
    · have hlen : A < s.size := by rw [hA.out]; unfold blocksOf at hlt; omega
      have hli : (A : Int) < (s.size : Int) := by omega
      have hov : (A : Int) + 64 ≤ 9223372036854775807 := by omega
      gi_wp2_with fail
      refine ⟨trivial, (fun h => by cases h), ?_⟩
      refine (callsIn_wide.2 (cut_nat s (A : Int) p _ rfl _)).mono ?_
      rintro e w1 ⟨rfl, hb1⟩
      obtain ⟨L, hLt, hLl⟩ := arr64_list (cutF s (A : Int) p)
      have hL1 := arr64_one _ hLt
      have hiL : (Tryz.prog.info? 71).map (·.size) = some L.length := by rw [hLl]; exact info64
      have hiL' : (Tryz.prog.info? 71).map (·.size) = some L.toArray.size := by simpa using hiL
      obtain ⟨hth, W2, hW2, hA2, hB2⟩ := laid64 w1 L hLl
      have hrg := hA2.range rfl
      have hbb : Below wr.heap.size wr W2 := hb1.trans (hB2.mono hb1.size)
      have hJ2 := abides_below hJ hJr hbb
      have hB3 : KeepB Bs Bp W W2 := hB.trans (KeepB.of_below hbb)
      obtain ⟨fn, tmps, assign, body, hy, hR⟩ := hY (List.range r) r W2 hJ2 (by simpa using hlt)
      have he : enc r = #[.int .i64 (A : Int), .agg L.toArray] := by rw [henc r hlt, hLt, encB, Nat.min_eq_left hr, hA.out]
      rw [he] at hy
      rw [← hLt]
      generalize cutN s (A : Int) = nn
      clear hLt hY hJr hJ2
      gi_wp2_with (first | (refine wpListIn_store_want 71 _ _ (w1.heap.size) 0 L.toArray hth hiL' (all_oneCell_toArray hL1) rfl rfl rfl (by rfl) ?_) | (refine wpListIn_load_want 71 _ (w1.heap.size) 0 L _ hrg Tryz.underlying71 hiL rfl rfl rfl (by rfl) ?_))
      refine ⟨(fun h => by cases h), ?_⟩
      refine hR.mono ?_
      rintro e W3 (⟨rfl, hJ3, hk3⟩ | ⟨rfl, hJx3⟩)
      · clear hy hR
        gi_wp2
        go_roundw
        case rel => exact ⟨r + 1, A + 64, by show A + 64 = 64 * (r + 1); have := hA.out; omega, hlt, by simp, by rw [List.range_succ]; exact hJ3, hB3.trans hk3⟩
        case measure => simp [intOf]; omega
      · clear hy hR
        gi_wp2
        refine bodyPost_ret (results_none rfl _ _ _) rfl ?_
        exact ⟨⟨_, rfl⟩, .inr ⟨_, ⟨r + 1, by omega, (List.range_succ).symm⟩, hJx3⟩⟩
    · obtain rfl : r = blocksOf s := by omega
      have hge : ¬ (A : Int) < (s.size : Int) := by have := hA.out; unfold blocksOf at this; omega
      gi_wp2
      go_end0
      exact ⟨⟨_, rfl⟩, .inl hJr⟩

theorem blocks_stops_g (n : Nat) (Bs Bp : Nat) (s : ByteArray) (hs : s.size ≤ 9223372036854775000) (p : Nat) (enc : Nat → Array Value) (henc : ∀ r, r < blocksOf s → enc r = encB s p r) (w : World) (hAs : At w Bs #[.string s] 9) (hAp : At w Bp #[.int .u8 (p : Int)] 5) :
    SeqStopsK Fence.wide n Tryz.prog 77 #[.pointer (some ⟨Bs, 0, none⟩), .pointer (some ⟨Bp, 0, none⟩)] enc (KeepB Bs Bp) (fun xs => xs = List.range (blocksOf s)) (fun pre => ∃ k, k ≤ blocksOf s ∧ pre = List.range k) (blocksOf s) w :=
  fun l J Jx W hW hJ _ hY h0 => blocks1_g n l Bs Bp s hs p enc henc J Jx W hJ hY (hAs.keptAll hW) (hAp.keptAll hW) h0
/-- What is told of the block number r (of those behind the last one: as of the last one). -/
def encL (s : ByteArray) (p r : Nat) : Array Value := encB s p (min r (blocksOf s - 1))
theorem encL_eq (s : ByteArray) (p r : Nat) (h : r < blocksOf s) : encL s p r = encB s p r := by unfold encL; rw [Nat.min_eq_left (by omega)]
end Go.Proofs.YtlckhiflhnlgpaaGreatDoor
