/-
  What block.Blocks tells, number by number.
-/
import Derived.Test.YtmjmcdoanolelaaDoorBlockB
import Derived.Test.YtmjmcdoanolelaaDoorTellKit
namespace Go.Proofs.YtmjmcdoanolelaaDoor
open Go.RowKit Go.Shelf

attribute [local go_sem] Oper.semAt_some

set_option maxRecDepth 100000 in
set_option maxHeartbeats 4000000 in
theorem blocks1_t (n : Nat) (l Bs Bp : Nat) (s : ByteArray) (hs : s.size ≤ 9223372036854775000) (p : Nat) (J Jx : Nat → World → Prop) (W : World) (hJ : AbidesFrom W.heap.size J)
    (hY : ∀ r W1, J r W1 → r < blocksOf s → YieldAt Fence.wide (n - 1) Tryd.prog l (encB s p r) W1 fun e W' =>
      (e = .returned (.bool true) ∧ J (r + 1) W' ∧ KeepB Bs Bp W1 W') ∨ (e = .returned (.bool false) ∧ Jx (r + 1) W'))
    (hAs : At W Bs #[.string s] 9) (hAp : At W Bp #[.int .u8 (p : Int)] 5) (h0 : J 0 W) :
    CallsIn Fence.wide n Tryd.prog 47 #[.func (.yield l) #[] #[], .pointer (some ⟨Bs, 0, none⟩), .pointer (some ⟨Bp, 0, none⟩)] W fun e W' => (∃ v, e = .returned v) ∧
      (J (blocksOf s) W' ∨ ∃ r, r ≤ blocksOf s ∧ Jx r W') := by
  refine callsIn_of_wp Tryd.func47 rfl trivial ?_ rfl
  simp only [Tryd.ntmps47, List.size_toArray, List.length_cons, List.length_nil, Nat.reduceAdd, Nat.reduceSub, Array.replicate_succ, Array.replicate_zero, List.push_toArray, List.append_toArray, List.nil_append, List.cons_append]
  gi_wp2
  gi_loopw [4] (fun i wr => ∃ r A : Nat, Hid (A = 64 * r) ∧ r ≤ blocksOf s ∧ i = .int .i64 (A : Int) ∧ J r wr ∧ KeepB Bs Bp W wr) (fun i _ => s.size + 64 - (intOf i).toNat)
  case atStart => exact ⟨0, 0, rfl, Nat.zero_le _, rfl, h0, KeepB.refl _ _ _⟩
  case round =>
    obtain ⟨r, A, hA, hr, rfl, hJr, hB⟩ := hrel
    have cs' := (hB.2.1 _ _ hAs).cell 0
    have cp' := (hB.2.2 _ _ hAp).cell 0
    simp only [List.getElem?_toArray, List.getElem?_cons_zero] at cs' cp'
    by_cases hlt : r < blocksOf s
    · have hlen : A < s.size := by rw [hA.out]; unfold blocksOf at hlt; omega
      have hli : (A : Int) < (s.size : Int) := by omega
      have hov : (A : Int) + 64 ≤ 9223372036854775807 := by omega
      gi_wp2_with fail
      refine ⟨trivial, (fun h => by cases h), ?_⟩
      refine (callsIn_wide.2 (cut_nat s (A : Int) p _ rfl _)).mono ?_
      rintro e w1 ⟨rfl, hb1⟩
      obtain ⟨L, hLt, hLl⟩ := arr64_list (cutF s (A : Int) p)
      have hL1 := arr64_one _ hLt
      have hiL : (Tryd.prog.info? 50).map (·.size) = some L.length := by rw [hLl]; exact info64
      have hiL' : (Tryd.prog.info? 50).map (·.size) = some L.toArray.size := by simpa using hiL
      obtain ⟨hth, W2, hW2, hA2, hB2⟩ := laid64 w1 L hLl
      have hrg := hA2.range rfl
      have hbb : Below wr.heap.size wr W2 := hb1.trans (hB2.mono hb1.size)
      have hJ2 := abides_below hJ hJr hbb
      have hB3 : KeepB Bs Bp W W2 := hB.trans (KeepB.of_below hbb)
      obtain ⟨fn, tmps, assign, body, hy, hR⟩ := hY r W2 hJ2 hlt
      have he : encB s p r = #[.int .i64 (A : Int), .agg L.toArray] := by rw [hLt, encB, Nat.min_eq_left hr, hA.out]
      rw [he] at hy
      rw [← hLt]
      generalize cutN s (A : Int) = nn
      clear hLt hY hJr hJ2
      gi_wp2_with (first | (refine wpListIn_store_want 50 _ _ (w1.heap.size) 0 L.toArray hth hiL' (all_oneCell_toArray hL1) rfl rfl rfl (by rfl) ?_) | (refine wpListIn_load_want 50 _ (w1.heap.size) 0 L _ hrg Tryd.underlying50 hiL rfl rfl rfl (by rfl) ?_))
      refine ⟨(fun h => by cases h), ?_⟩
      refine hR.mono ?_
      rintro e W3 (⟨rfl, hJ3, hk3⟩ | ⟨rfl, hJx3⟩)
      · clear hy hR
        gi_wp2
        go_roundw
        case rel => exact ⟨r + 1, A + 64, by show A + 64 = 64 * (r + 1); have := hA.out; omega, hlt, by simp, hJ3, hB3.trans hk3⟩
        case measure => simp [intOf]; omega
      · clear hy hR
        gi_wp2
        refine bodyPost_ret (results_none rfl _ _ _) rfl ?_
        exact ⟨⟨_, rfl⟩, .inr ⟨_, hlt, hJx3⟩⟩
    · obtain rfl : r = blocksOf s := by omega
      have hge : ¬ (A : Int) < (s.size : Int) := by have := hA.out; unfold blocksOf at this; omega
      gi_wp2
      go_end0
      exact ⟨⟨_, rfl⟩, .inl hJr⟩

theorem blocks_tell (n : Nat) (Bs Bp : Nat) (s : ByteArray) (hs : s.size ≤ 9223372036854775000) (p : Nat) (w : World) (hAs : At w Bs #[.string s] 9) (hAp : At w Bp #[.int .u8 (p : Int)] 5) :
    SeqTell n Tryd.prog 47 #[.pointer (some ⟨Bs, 0, none⟩), .pointer (some ⟨Bp, 0, none⟩)] (encB s p) (KeepB Bs Bp) (blocksOf s) w :=
  fun l J Jx W hW hJ _ hY h0 => blocks1_t n l Bs Bp s hs p J Jx W hJ hY (hAs.keptAll hW) (hAp.keptAll hW) h0
end Go.Proofs.YtmjmcdoanolelaaDoor
