/-
  What bytes.Repeat of one byte, 64 times, answers.
-/
import Derived.Test.YtkdcloiepeenoaaDoorBlockMask
import Derived.Test.YtkdcloiepeenoaaDoorRange
import Derived.Lib.MakeNoZero
import Derived.Laws.IdiomCopy
namespace Go.Proofs.YtkdcloiepeenoaaDoor
open Go.RowKit

set_option maxRecDepth 100000 in
theorem mul_calls (w : World) : Calls Tryd.prog 71 #[.int .u64 1, .int .u64 64] w fun e w' => e = .returned (.tuple #[.int .u64 0, .int .u64 64]) ∧ w' = w := by
  go_enter Tryd.func71, Tryd.ntmps71
  go_wp2
  refine bodyPost_ret (v := .tuple #[.int .u64 0, .int .u64 64]) (by simp [results, Tryd.results71, go_sem]; decide) rfl ⟨rfl, rfl⟩

/-- The first n cells of a row of at least 64 hold the byte p. -/
def Padded (w : World) (b n p : Nat) : Prop := ∃ cs : Array Value, At w b cs 5 ∧ 64 ≤ cs.size ∧ ∀ i, i < n → cs[i]? = some (.int .u8 (p : Int))

theorem made64 (w : World) : ∃ cs : Array Value, (callFunc 72 #[.int .i64 64]).run Tryd.prog w = .ok (.value (.slice (some ⟨w.heap.size, 0, none⟩) 64 cs.size)) (w.drew.drew.alloc (.cells cs 5)) ∧ 64 ≤ cs.size := by
  obtain ⟨cs, hrun, hle, _⟩ := Lib.run_makeNoZero (P := Tryd.prog) w #[3] 79 5 Tryd.underlying79 64 (by decide)
  refine ⟨cs, ?_, hle⟩
  rw [run_callFunc_extern Tryd.func72 (by kernel_rfl) (by kernel_rfl) (by kernel_rfl) (e := Extern.BytealgMakeNoZero.makeNoZero #[3] #[79]) (by kernel_rfl)]
  have h64 : (Value.int .i64 64) = .int .i64 ((64 : Nat) : Int) := rfl
  rw [h64, hrun]
  rfl

theorem info8 : (Tryd.prog.info? 5).map (·.size) = some 1 := by kernel_rfl
/-- Of a row whose first n cells hold p, m of them are put behind these. -/
theorem copy_pad (w : World) (b n m p : Nat) (a : Addr) (sLen sCap dLen dCap : Nat) (h : Padded w b n p) (hm : Nat.min sLen dLen = m) (hfit : n + m ≤ 64) (hsrc : ∀ j, j < m → w.cell? (a.add j) = some (.int .u8 (p : Int))) :
    ∃ w1, (Builtin.copy_ #[79, 79] 3 #[.slice (some ⟨b, n, none⟩) dLen dCap, .slice (some a) sLen sCap]).run Tryd.prog w = .ok (.int .i64 (m : Int)) w1 ∧ Padded w1 b (n + m) p ∧ ∀ (k : Nat) (w0 : World), Below k w0 w → k ≤ b → Below k w0 w1 := by
  obtain ⟨cs, hA, hs, hc⟩ := h
  have hrun := run_copy_cells (P := Tryd.prog) w 79 79 3 5 b n dLen dCap a sLen sCap (List.replicate m (.int .u8 (p : Int))) Tryd.underlying79 info8 (by simp [hm])
    (fun j v hv => by
      have hj : j < m := by
        have := (List.getElem?_eq_some_iff.1 hv).1
        simpa using this
      rw [hsrc j hj]
      rw [List.getElem?_replicate, if_pos hj] at hv
      exact hv)
    (fun j hj => by rw [hA.cell, Array.getElem?_eq_getElem (by simp at hj; omega)]; rfl) (fun j _ => hA.frozen _) (fun v hv => by rw [List.eq_of_mem_replicate hv]; rfl)
  refine ⟨w.setCells b n (List.replicate m (.int .u8 (p : Int))), by rw [hrun]; simp [goInt], ?_, ?_⟩
  · obtain ⟨ds, h1, h2, h3, h4, _⟩ := At.setCells_at (List.replicate m (.int .u8 (p : Int))) n hA (by simp; omega)
    refine ⟨ds, h1, by omega, fun i hi => ?_⟩
    by_cases e : i < n
    · rw [h3 i e, hc i e]
    · have := h4 (i - n) (by simp; omega)
      rw [show n + (i - n) = i by omega, List.getElem?_replicate, if_pos (by omega)] at this
      exact this
  · exact fun k w0 hb hk => below_setCells hb hk _ _

set_option maxRecDepth 100000 in
set_option maxHeartbeats 1000000 in
theorem repeat_calls (p g : Nat) (w : World) (hA : At w g #[.int .u8 (p : Int)] 5) :
    Calls Tryd.prog 66 #[.slice (some ⟨g, 0, none⟩) 1 1, .int .i64 64] w fun e w' => e = .returned (.slice (some ⟨w.heap.size, 0, none⟩) 64 64) ∧ Padded w' w.heap.size 64 p ∧ Below w.heap.size w w' := by
  obtain ⟨cs, hmk, hge⟩ := made64 w
  have hgi : (64 : Int) ≤ (cs.size : Int) := by omega
  go_enter Tryd.func66, Tryd.ntmps66
  go_wp2_with (first | (go_at_call 71; refine (mul_calls _).mono ?_; rintro e w1 ⟨rfl, hw1⟩; rw [hw1]; clear hw1))
  have hA0 : At (w.alloc (.cells cs 5)).drew.drew w.heap.size cs 5 := At.new w cs 5
  have hP0 : Padded (w.alloc (.cells cs 5)).drew.drew w.heap.size 0 p := ⟨cs, hA0, hge, fun i hi => by omega⟩
  have hB0 : Below w.heap.size w (w.alloc (.cells cs 5)).drew.drew := ((Below.refl _ _).alloc (Nat.le_refl _) _).drew.drew
  have hg0 : At (w.alloc (.cells cs 5)).drew.drew g #[.int .u8 (p : Int)] 5 := hA.alloc _
  generalize (w.alloc (.cells cs 5)).drew.drew = W0 at *
  obtain ⟨W1, hrun1, hP1, hB1⟩ := copy_pad W0 w.heap.size 0 1 p ⟨g, 0, none⟩ 1 1 64 64 hP0 rfl (by omega) (fun j hj => by
    obtain rfl : j = 0 := by omega
    exact hg0.cell 0)
  have hB1 := hB1 _ _ hB0 (Nat.le_refl _)
  rw [hrun1]
  clear hmk hA hA0 hP0 hB0 hg0 hrun1
  go_wp2
  go_loopw [10] (fun i wr => ∃ n : Nat, 1 ≤ n ∧ n ≤ 64 ∧ i = .int .i64 n ∧ Padded wr w.heap.size n p ∧ Below w.heap.size w wr) (fun i _ => 64 - (intOf i).toNat)
  case atStart => exact ⟨1, by omega, by omega, rfl, hP1, hB1⟩
  case round =>
    obtain ⟨n, hn1, hn, rfl, hP, hBel⟩ := hrel
    by_cases hlt : n < 64
    · have hlti : (n : Int) < 64 := by omega
      have hlei : (n : Int) ≤ 64 := by omega
      have hmin : Nat.min n (64 - n) ≤ 64 - n := Nat.min_le_right _ _
      have hmn : Nat.min n (64 - n) ≤ n := Nat.min_le_left _ _
      have hm1 : 1 ≤ Nat.min n (64 - n) := Nat.le_min.2 ⟨hn1, by omega⟩
      obtain ⟨cs1, hA1, hs1, hc1⟩ := hP
      obtain ⟨W2, hrun2, hP2, hB2⟩ := copy_pad wr.drew w.heap.size n (Nat.min n (64 - n)) p ⟨w.heap.size, 0, none⟩ n 64 (64 - n) (64 - n) ⟨cs1, hA1.drew, hs1, hc1⟩ rfl (by omega) (fun j hj => by
        have e : (⟨w.heap.size, 0, none⟩ : Addr).add j = ⟨w.heap.size, j, none⟩ := by simp [Addr.add_mid]
        rw [e, hA1.drew.cell, hc1 j (by omega)])
      have hB2 := hB2 _ _ hBel.drew (Nat.le_refl _)
      generalize Nat.min n (64 - n) = m at *
      have hnm : n + m ≤ 64 := by omega
      clear hA1 hs1 hc1
      go_wp2
      go_region
      go_wp2
      go_roundw
      case rel => exact ⟨n + m, by omega, by omega, by go_num, hP2, hB2⟩
      case measure => simp [intOf]; omega
    · have hk' : n = 64 := by omega
      subst hk'
      go_wp2
      go_ret
      exact ⟨rfl, hP, hBel⟩
end Go.Proofs.YtkdcloiepeenoaaDoor
