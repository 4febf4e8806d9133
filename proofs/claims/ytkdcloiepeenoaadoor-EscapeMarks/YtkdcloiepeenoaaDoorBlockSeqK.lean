/-
  What block.Blocks tells, where its two variables lie among others that the caller's rounds turn.
-/
import Derived.Test.YtkdcloiepeenoaaDoorBlockSeq
namespace Go.Proofs.YtkdcloiepeenoaaDoor
open Go.RowKit Go.Shelf

attribute [local go_sem] Oper.semAt_some

/-- The two variables of the sequence are as they were. -/
def KeepB (Bs Bp : Nat) (A B : World) : Prop := A.heap.size ≤ B.heap.size ∧ (∀ cs t, At A Bs cs t → At B Bs cs t) ∧ ∀ cs t, At A Bp cs t → At B Bp cs t
section
variable {Bs Bp : Nat} {A B C : World}
theorem KeepB.refl (Bs Bp : Nat) (A : World) : KeepB Bs Bp A A := ⟨Nat.le_refl _, fun _ _ h => h, fun _ _ h => h⟩
theorem KeepB.trans (h : KeepB Bs Bp A B) (k : KeepB Bs Bp B C) : KeepB Bs Bp A C := ⟨Nat.le_trans h.1 k.1, fun _ _ x => k.2.1 _ _ (h.2.1 _ _ x), fun _ _ x => k.2.2 _ _ (h.2.2 _ _ x)⟩
theorem KeepB.of_below (h : Below A.heap.size A B) : KeepB Bs Bp A B := ⟨h.size, fun _ _ x => x.keptAll h, fun _ _ x => x.keptAll h⟩
theorem keepB_b {w : World} (W : World) (l : Nat) (o o' : Obj) (_ : w.heap.size ≤ l) (h : W.heap[l]? = some o) (hc : o.isCells = false) (_ : o.isWalk = false) : KeepB Bs Bp W (W.putObj l o') :=
  ⟨(grownBy_putObj' W l o').size, fun _ _ x => x.own (grownBy_putObj' W l o') (fun r e => by cases e; exact ⟨o, h, hc⟩), fun _ _ x => x.own (grownBy_putObj' W l o') (fun r e => by cases e; exact ⟨o, h, hc⟩)⟩
end

set_option maxRecDepth 100000 in
set_option maxHeartbeats 4000000 in
theorem blocks1_g (n : Nat) (l Bs Bp : Nat) (s : ByteArray) (hs : s.size ≤ 9223372036854775000) (p : Nat) (enc : Nat → Array Value) (henc : ∀ r, r < blocksOf s → enc r = encB s p r) (J Jx : List Nat → World → Prop) (W : World) (hJ : AbidesFrom W.heap.size J)
    (hY : ∀ pre x W1, J pre W1 → pre.length < blocksOf s → YieldAt Fence.wide (n - 1) Tryd.prog l (enc x) W1 fun e W' =>
      (e = .returned (.bool true) ∧ J (pre ++ [x]) W' ∧ KeepB Bs Bp W1 W') ∨ (e = .returned (.bool false) ∧ Jx (pre ++ [x]) W'))
    (hAs : At W Bs #[.string s] 9) (hAp : At W Bp #[.int .u8 (p : Int)] 5) (h0 : J [] W) :
    CallsIn Fence.wide n Tryd.prog 57 #[.func (.yield l) #[] #[], .pointer (some ⟨Bs, 0, none⟩), .pointer (some ⟨Bp, 0, none⟩)] W fun e W' => (∃ v, e = .returned v) ∧
      ((∃ xs, xs = List.range (blocksOf s) ∧ J xs W') ∨ (∃ pre, (∃ k, k ≤ blocksOf s ∧ pre = List.range k) ∧ Jx pre W')) := by
  refine callsIn_of_wp Tryd.func57 rfl trivial ?_ rfl
  simp only [Tryd.ntmps57, List.size_toArray, List.length_cons, List.length_nil, Nat.reduceAdd, Nat.reduceSub, Array.replicate_succ, Array.replicate_zero, List.push_toArray, List.append_toArray, List.nil_append, List.cons_append]
  gi_wp2
  gi_loopw [4] (fun i wr => ∃ r A : Nat, Hid (A = 64 * r) ∧ r ≤ blocksOf s ∧ i = .int .i64 (A : Int) ∧ J (List.range r) wr ∧ KeepB Bs Bp W wr) (fun i _ => s.size + 64 - (intOf i).toNat)
  case atStart => exact ⟨0, 0, rfl, Nat.zero_le _, rfl, h0, KeepB.refl _ _ _⟩
  case round =>
    obtain ⟨r, A, hA, hr, rfl, hJr, hB⟩ := hrel
    have cs' := (hB.2.1 _ _ hAs).cell 0
    have cp' := (hB.2.2 _ _ hAp).cell 0
    simp only [List.getElem?_toArray, List.getElem?_cons_zero] at cs' cp'
    by_cases hlt : r < blocksOf s
    · have hlen : A < s.size := by rw [hA.out]; unfold blocksOf at hlt; omega
      have hli : (A : Int) < (s.size : Int) := by omega
      have hov : (A : Int) + 64 ≤ 9223372036854775807 := by omega
      gi_wp2_with fail
      refine ⟨trivial, (fun h => by cases h), ?_⟩
      refine (callsIn_wide.2 (cut_nat s (A : Int) p _ rfl _)).mono ?_
      rintro e w1 ⟨rfl, hb1⟩
      obtain ⟨L, hLt, hLl⟩ := arr64_list (cutF s (A : Int) p)
      have hL1 := arr64_one _ hLt
      have hiL : (Tryd.prog.info? 63).map (·.size) = some L.length := by rw [hLl]; exact info64
      have hiL' : (Tryd.prog.info? 63).map (·.size) = some L.toArray.size := by simpa using hiL
      obtain ⟨hth, W2, hW2, hA2, hB2⟩ := laid64 w1 L hLl
      have hrg := hA2.range rfl
      have hbb : Below wr.heap.size wr W2 := hb1.trans (hB2.mono hb1.size)
      have hJ2 := abides_below hJ hJr hbb
      have hB3 : KeepB Bs Bp W W2 := hB.trans (KeepB.of_below hbb)
      obtain ⟨fn, tmps, assign, body, hy, hR⟩ := hY (List.range r) r W2 hJ2 (by simpa using hlt)
      have he : enc r = #[.int .i64 (A : Int), .agg L.toArray] := by rw [henc r hlt, hLt, encB, Nat.min_eq_left hr, hA.out]
      rw [he] at hy
      rw [← hLt]
      generalize cutN s (A : Int) = nn
      clear hLt hY hJr hJ2
      gi_wp2_with (first | (refine wpListIn_store_want 63 _ _ (w1.heap.size) 0 L.toArray hth hiL' (all_oneCell_toArray hL1) rfl rfl rfl (by rfl) ?_) | (refine wpListIn_load_want 63 _ (w1.heap.size) 0 L _ hrg Tryd.underlying63 hiL rfl rfl rfl (by rfl) ?_))
      refine ⟨(fun h => by cases h), ?_⟩
      refine hR.mono ?_
      rintro e W3 (⟨rfl, hJ3, hk3⟩ | ⟨rfl, hJx3⟩)
      · clear hy hR
        gi_wp2
        go_roundw
        case rel => exact ⟨r + 1, A + 64, by show A + 64 = 64 * (r + 1); have := hA.out; omega, hlt, by simp, by rw [List.range_succ]; exact hJ3, hB3.trans hk3⟩
        case measure => simp [intOf]; omega
      · clear hy hR
        gi_wp2
        refine bodyPost_ret (results_none rfl _ _ _) rfl ?_
        exact ⟨⟨_, rfl⟩, .inr ⟨_, ⟨r + 1, by omega, (List.range_succ).symm⟩, hJx3⟩⟩
    · obtain rfl : r = blocksOf s := by omega
      have hge : ¬ (A : Int) < (s.size : Int) := by have := hA.out; unfold blocksOf at this; omega
      gi_wp2
      go_end0
      exact ⟨⟨_, rfl⟩, .inl hJr⟩

theorem blocks_stops_g (n : Nat) (Bs Bp : Nat) (s : ByteArray) (hs : s.size ≤ 9223372036854775000) (p : Nat) (enc : Nat → Array Value) (henc : ∀ r, r < blocksOf s → enc r = encB s p r) (w : World) (hAs : At w Bs #[.string s] 9) (hAp : At w Bp #[.int .u8 (p : Int)] 5) :
    SeqStopsK Fence.wide n Tryd.prog 57 #[.pointer (some ⟨Bs, 0, none⟩), .pointer (some ⟨Bp, 0, none⟩)] enc (KeepB Bs Bp) (fun xs => xs = List.range (blocksOf s)) (fun pre => ∃ k, k ≤ blocksOf s ∧ pre = List.range k) (blocksOf s) w :=
  fun l J Jx W hW hJ _ hY h0 => blocks1_g n l Bs Bp s hs p enc henc J Jx W hJ hY (hAs.keptAll hW) (hAp.keptAll hW) h0
theorem blocks_stops_k (n : Nat) (Bs Bp : Nat) (s : ByteArray) (hs : s.size ≤ 9223372036854775000) (p : Nat) (w : World) (hAs : At w Bs #[.string s] 9) (hAp : At w Bp #[.int .u8 (p : Int)] 5) :
    SeqStopsK Fence.wide n Tryd.prog 57 #[.pointer (some ⟨Bs, 0, none⟩), .pointer (some ⟨Bp, 0, none⟩)] (encB s p) (KeepB Bs Bp) (fun xs => xs = List.range (blocksOf s)) (fun pre => ∃ k, k ≤ blocksOf s ∧ pre = List.range k) (blocksOf s) w :=
  blocks_stops_g n Bs Bp s hs p (encB s p) (fun _ _ => rfl) w hAs hAp

/-- What is told of the block number r (of those behind the last one: as of the last one). -/
def encL (s : ByteArray) (p r : Nat) : Array Value := encB s p (min r (blocksOf s - 1))
theorem encL_eq (s : ByteArray) (p r : Nat) (h : r < blocksOf s) : encL s p r = encB s p r := by unfold encL; rw [Nat.min_eq_left (by omega)]
end Go.Proofs.YtkdcloiepeenoaaDoor
