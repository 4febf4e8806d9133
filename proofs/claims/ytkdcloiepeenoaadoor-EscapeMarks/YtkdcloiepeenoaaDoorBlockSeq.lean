/-
  What block.Blocks tells: the blocks of a text, one behind the other.
-/
import Derived.Test.YtkdcloiepeenoaaDoorSeqKit
import Derived.Test.YtkdcloiepeenoaaDoorBlockAwake
namespace Go.Proofs.YtkdcloiepeenoaaDoor
open Go.RowKit Go.Shelf

attribute [local go_sem] Oper.semAt_some

/-- How many blocks a text has. -/
def blocksOf (s : ByteArray) : Nat := (s.size + 63) / 64
/-- What is told of the block number r (of those behind the last one: as of the one right behind it). -/
def encB (s : ByteArray) (p r : Nat) : Array Value := #[.int .i64 ((64 * min r (blocksOf s) : Nat) : Int), .agg (arr64 (cutF s ((64 * min r (blocksOf s) : Nat) : Int) p))]

set_option maxRecDepth 100000 in
set_option maxHeartbeats 4000000 in
theorem blocks1_in (n : Nat) (l Bs Bp n0 : Nat) (s : ByteArray) (hs : s.size ≤ 9223372036854775000) (p : Nat) (hBs : Bs < n0) (hBp : Bp < n0) (J Jx : List Nat → World → Prop) (W : World) (hn0 : n0 ≤ W.heap.size) (hJ : AbidesFrom W.heap.size J)
    (hY : ∀ pre x W1, J pre W1 → pre.length < blocksOf s → YieldAt Fence.wide (n - 1) Tryd.prog l (encB s p x) W1 fun e W' =>
      (e = .returned (.bool true) ∧ J (pre ++ [x]) W' ∧ Below n0 W1 W') ∨ (e = .returned (.bool false) ∧ Jx (pre ++ [x]) W'))
    (cs : W.cell? ⟨Bs, 0, none⟩ = some (.string s)) (cp : W.cell? ⟨Bp, 0, none⟩ = some (.int .u8 (p : Int))) (h0 : J [] W) :
    CallsIn Fence.wide n Tryd.prog 57 #[.func (.yield l) #[] #[], .pointer (some ⟨Bs, 0, none⟩), .pointer (some ⟨Bp, 0, none⟩)] W fun e W' => (∃ v, e = .returned v) ∧
      ((∃ xs, xs = List.range (blocksOf s) ∧ J xs W') ∨ (∃ pre, (∃ k, k ≤ blocksOf s ∧ pre = List.range k) ∧ Jx pre W')) := by
  refine callsIn_of_wp Tryd.func57 rfl trivial ?_ rfl
  simp only [Tryd.ntmps57, List.size_toArray, List.length_cons, List.length_nil, Nat.reduceAdd, Nat.reduceSub, Array.replicate_succ, Array.replicate_zero, List.push_toArray, List.append_toArray, List.nil_append, List.cons_append]
  gi_wp2
  gi_loopw [4] (fun i wr => ∃ r A : Nat, Hid (A = 64 * r) ∧ r ≤ blocksOf s ∧ i = .int .i64 (A : Int) ∧ J (List.range r) wr ∧ Below n0 W wr) (fun i _ => s.size + 64 - (intOf i).toNat)
  case atStart => exact ⟨0, 0, rfl, Nat.zero_le _, rfl, h0, Below.refl _ _⟩
  case round =>
    obtain ⟨r, A, hA, hr, rfl, hJr, hB⟩ := hrel
    have cs' := (hB.cell (p := ⟨Bs, 0, none⟩) hBs).trans cs
    have cp' := (hB.cell (p := ⟨Bp, 0, none⟩) hBp).trans cp
    by_cases hlt : r < blocksOf s
    · have hlen : A < s.size := by rw [hA.out]; unfold blocksOf at hlt; omega
      have hli : (A : Int) < (s.size : Int) := by omega
      have hov : (A : Int) + 64 ≤ 9223372036854775807 := by omega
      gi_wp2_with fail
      refine ⟨trivial, (fun h => by cases h), ?_⟩
      refine (callsIn_wide.2 (cut_nat s (A : Int) p _ rfl _)).mono ?_
      rintro e w1 ⟨rfl, hb1⟩
      obtain ⟨L, hLt, hLl⟩ := arr64_list (cutF s (A : Int) p)
      have hL1 := arr64_one _ hLt
      have hiL : (Tryd.prog.info? 63).map (·.size) = some L.length := by rw [hLl]; exact info64
      have hiL' : (Tryd.prog.info? 63).map (·.size) = some L.toArray.size := by simpa using hiL
      obtain ⟨hth, W2, hW2, hA2, hB2⟩ := laid64 w1 L hLl
      have hrg := hA2.range rfl
      have hbb : Below wr.heap.size wr W2 := hb1.trans (hB2.mono hb1.size)
      have hJ2 := abides_below hJ hJr hbb
      have hB3 : Below n0 W W2 := hB.trans (hbb.mono (Nat.le_trans hn0 hB.size))
      obtain ⟨fn, tmps, assign, body, hy, hR⟩ := hY (List.range r) r W2 hJ2 (by simpa using hlt)
      have he : encB s p r = #[.int .i64 (A : Int), .agg L.toArray] := by rw [hLt, encB, Nat.min_eq_left hr, hA.out]
      rw [he] at hy
      rw [← hLt]
      generalize cutN s (A : Int) = nn
      clear hLt hY hJr hJ2
      gi_wp2_with (first | (refine wpListIn_store_want 63 _ _ (w1.heap.size) 0 L.toArray hth hiL' (all_oneCell_toArray hL1) rfl rfl rfl (by rfl) ?_) | (refine wpListIn_load_want 63 _ (w1.heap.size) 0 L _ hrg Tryd.underlying63 hiL rfl rfl rfl (by rfl) ?_))
      refine ⟨(fun h => by cases h), ?_⟩
      refine hR.mono ?_
      rintro e W3 (⟨rfl, hJ3, hk3⟩ | ⟨rfl, hJx3⟩)
      · clear hy hR
        gi_wp2
        go_roundw
        case rel => exact ⟨r + 1, A + 64, by show A + 64 = 64 * (r + 1); have := hA.out; omega, hlt, by simp, by rw [List.range_succ]; exact hJ3, hB3.trans hk3⟩
        case measure => simp [intOf]; omega
      · clear hy hR
        gi_wp2
        refine bodyPost_ret (results_none rfl _ _ _) rfl ?_
        exact ⟨⟨_, rfl⟩, .inr ⟨_, ⟨r + 1, by omega, (List.range_succ).symm⟩, hJx3⟩⟩
    · obtain rfl : r = blocksOf s := by omega
      have hge : ¬ (A : Int) < (s.size : Int) := by have := hA.out; unfold blocksOf at this; omega
      gi_wp2
      go_end0
      exact ⟨⟨_, rfl⟩, .inl hJr⟩

theorem blocks_stops (n : Nat) (Bs Bp n0 : Nat) (s : ByteArray) (hs : s.size ≤ 9223372036854775000) (p : Nat) (w : World) (hBs : Bs < n0) (hBp : Bp < n0) (hn0 : n0 ≤ w.heap.size)
    (cs : w.cell? ⟨Bs, 0, none⟩ = some (.string s)) (cp : w.cell? ⟨Bp, 0, none⟩ = some (.int .u8 (p : Int))) :
    SeqStopsK Fence.wide n Tryd.prog 57 #[.pointer (some ⟨Bs, 0, none⟩), .pointer (some ⟨Bp, 0, none⟩)] (encB s p) (Below n0) (fun xs => xs = List.range (blocksOf s)) (fun pre => ∃ k, k ≤ blocksOf s ∧ pre = List.range k) (blocksOf s) w :=
  fun l J Jx W hW hJ _ hY h0 => blocks1_in n l Bs Bp n0 s hs p hBs hBp J Jx W (Nat.le_trans hn0 hW.size) hJ hY ((hW.cell (p := ⟨Bs, 0, none⟩) (Nat.lt_of_lt_of_le hBs hn0)).trans cs) ((hW.cell (p := ⟨Bp, 0, none⟩) (Nat.lt_of_lt_of_le hBp hn0)).trans cp) h0

theorem blocks_calls (s : ByteArray) (p : Nat) (w : World) :
    Calls Tryd.prog 45 #[.string s, .int .u8 (p : Int)] w fun e w' => e = .returned (.func (.func 57) #[] #[.pointer (some ⟨w.heap.size, 0, none⟩), .pointer (some ⟨w.heap.size + 1, 0, none⟩)]) ∧ w' = (w.alloc (.cells #[.string s] 9)).alloc (.cells #[.int .u8 (p : Int)] 5) := by
  have hmf : ∀ (fn : Fn) (first cap : Array Value) (w : World), (Instr.makeFunc fn first cap).run Tryd.prog w = .ok (.func fn first cap) w := fun _ _ _ _ => rfl
  go_enter Tryd.func45, Tryd.ntmps45
  go_wp2
  go_ret
  exact ⟨rfl, rfl⟩
end Go.Proofs.YtkdcloiepeenoaaDoor
