/-
  What words.Each tells: the places of the set bits, one behind the other.
-/
import Derived.Test.YtmjmcdoanolelaaDoorKitA
import Derived.Test.YtmjmcdoanolelaaDoorRankWalk
import Derived.Test.YtmjmcdoanolelaaDoorWordsA
namespace Go.Proofs.YtmjmcdoanolelaaDoor
open Go.RowKit Go.Shelf

attribute [local go_sem] Oper.semAt_some

/-- What is told of a place. -/
def encE (p : Nat) : Array Value := #[.int .i64 ((p % 64 : Nat) : Int)]

set_option maxRecDepth 100000 in
set_option maxHeartbeats 4000000 in
theorem each1_in (n : Nat) (l Bx n0 x : Nat) (hx : x < 18446744073709551616) (h0 : 0 < n0) (J Jx : List Nat → World → Prop) (W : World)
    (hY : ∀ pre p W1, J pre W1 → pre.length < (places x).length → YieldAt Fence.wide (n - 1) Tryd.prog l (encE p) W1 fun e W' =>
      (e = .returned (.bool true) ∧ J (pre ++ [p]) W' ∧ Below n0 W1 W') ∨ (e = .returned (.bool false) ∧ Jx (pre ++ [p]) W'))
    (hT : Tab W) (cx : W.cell? ⟨Bx, 0, none⟩ = some (.int .u64 (x : Int))) (hJ0 : J [] W) :
    CallsIn Fence.wide n Tryd.prog 65 #[.func (.yield l) #[] #[], .pointer (some ⟨Bx, 0, none⟩)] W fun e W' => (∃ v, e = .returned v) ∧
      ((∃ xs, xs = places x ∧ J xs W') ∨ (∃ pre, pre <+: places x ∧ Jx pre W')) := by
  refine callsIn_of_wp Tryd.func65 rfl trivial ?_ rfl
  simp only [Tryd.ntmps65, List.size_toArray, List.length_cons, List.length_nil, Nat.reduceAdd, Nat.reduceSub, Array.replicate_succ, Array.replicate_zero, List.push_toArray, List.append_toArray, List.nil_append, List.cons_append]
  gi_wp2
  gi_loopw [3] (fun r wr => ∃ (R : Nat) (pre : List Nat), Hid (places x = pre ++ places R) ∧ R < 18446744073709551616 ∧ r = .int .u64 (R : Int) ∧ J pre wr ∧ Tab wr) (fun r _ => (places (intOf r).toNat).length)
  case atStart => exact ⟨x, [], rfl, hx, rfl, hJ0, hT⟩
  case round =>
    obtain ⟨R, pre, hR, hRl, rfl, hJr, hTr⟩ := hrel
    by_cases hz : R = 0
    · subst hz
      have hpx : Hid (places x = pre) := hR.out.trans (by rw [places_zero, List.append_nil])
      clear hR
      gi_wp2
      go_end0
      exact ⟨⟨_, rfl⟩, .inl ⟨pre, hpx.out.symm, hJr⟩⟩
    · have hst := places_step hz hRl
      obtain ⟨R', hR'⟩ : ∃ R', R &&& (R - 1) = R' := ⟨_, rfl⟩
      obtain ⟨K, hK⟩ : ∃ K, Hid (Lib.ctz 64 R = K) := ⟨_, rfl⟩
      have hKl : K < 64 := hK.out ▸ ctz_lt hz hRl
      rw [hR', hK.out] at hst
      have hRl' : R' < 18446744073709551616 := hR' ▸ Nat.lt_of_le_of_lt Nat.and_le_left hRl
      have e1 : bits BinOp.and IntKind.u64 (R : Int) (IntKind.u64.wrap ((R : Int) - 1)) = (R' : Int) := by
        rw [show IntKind.u64.wrap ((R : Int) - 1) = ((R - 1 : Nat) : Int) by rw [IntKind.wrap_u64]; omega, bits_and_u64_nat _ _ hRl (by omega), hR']
      have e2 : bits BinOp.and IntKind.u64 (R : Int) ((R : Int) - 1) = (R' : Int) := by
        rw [show ((R : Int) - 1) = ((R - 1 : Nat) : Int) by omega, bits_and_u64_nat _ _ hRl (by omega), hR']
      have hz' : ((R : Int) != 0) = true := by simp; omega
      have hpl : pre.length < (places x).length := by rw [hR.out, hst]; simp
      have hst' : Hid (places R = K :: places R') := hst
      obtain ⟨fn, tmps, assign, body, hy, hRd⟩ := hY pre K wr hJr hpl
      rw [show encE K = #[.int .i64 (K : Int)] by rw [encE, Nat.mod_eq_of_lt hKl]] at hy
      clear hst hR' hY hpl
      gi_wp2_with fail
      refine ⟨trivial, (fun h => by cases h), ?_⟩
      refine (callsIn_wide.2 (tz_calls R K hRl hK _ hTr)).mono ?_
      rintro e w1 ⟨rfl, rfl⟩
      gi_wp2
      refine ⟨(fun h => by cases h), ?_⟩
      refine hRd.mono ?_
      rintro e W3 (⟨rfl, hJ3, hk3⟩ | ⟨rfl, hJx3⟩)
      · have hT3 := hTr.below hk3 h0
        clear hy hRd
        gi_wp2
        go_roundw
        case rel => exact ⟨R', pre ++ [K], by show _ = _; rw [hR.out, hst'.out]; simp, hRl', rfl, hJ3, hT3⟩
        case measure => simp [intOf, hst'.out]
      · clear hy hRd
        gi_wp2
        refine bodyPost_ret (results_none rfl _ _ _) rfl ?_
        exact ⟨⟨_, rfl⟩, .inr ⟨_, ⟨places R', by rw [hR.out, hst'.out]; simp⟩, hJx3⟩⟩

theorem each_stops (n : Nat) (Bx n0 x : Nat) (hx : x < 18446744073709551616) (h0 : 0 < n0) (w : World) (hBx : Bx < w.heap.size) (hw0 : 0 < w.heap.size) (hT : Tab w) (cx : w.cell? ⟨Bx, 0, none⟩ = some (.int .u64 (x : Int))) :
    SeqStopsK Fence.wide n Tryd.prog 65 #[.pointer (some ⟨Bx, 0, none⟩)] encE (Below n0) (fun xs => xs = places x) (fun pre => pre <+: places x) (places x).length w :=
  fun l J Jx W hW _ _ hY hJ0 => each1_in n l Bx n0 x hx h0 J Jx W hY (hT.below hW hw0) ((hW.cell (p := ⟨Bx, 0, none⟩) hBx).trans cx) hJ0

theorem each_calls (x : Nat) (w : World) :
    Calls Tryd.prog 55 #[.int .u64 (x : Int)] w fun e w' => e = .returned (.func (.func 65) #[] #[.pointer (some ⟨w.heap.size, 0, none⟩)]) ∧ w' = w.alloc (.cells #[.int .u64 (x : Int)] 46) := by
  have hmf : ∀ (fn : Fn) (first cap : Array Value) (w : World), (Instr.makeFunc fn first cap).run Tryd.prog w = .ok (.func fn first cap) w := fun _ _ _ _ => rfl
  go_enter Tryd.func55, Tryd.ntmps55
  go_wp2
  go_ret
  exact ⟨rfl, rfl⟩
end Go.Proofs.YtmjmcdoanolelaaDoor
