/-
  What words.Each tells, number by number; it asks of a round that the table of math/bits stays.
-/
import Derived.Test.YtlckhiflhnlgpabGreatDoorWordsB
import Derived.Test.YtlckhiflhnlgpabGreatDoorQuoE
namespace Go.Proofs.YtlckhiflhnlgpabGreatDoor
open Go.RowKit Go.Shelf

attribute [local go_sem] Oper.semAt_some

/-- What is told of the place number r. -/
def plc (x r : Nat) : Nat := (places x).getD r 0
def encP (x r : Nat) : Array Value := encE (plc x r)
/-- The table stays. -/
def KeepTab (W W' : World) : Prop := Tab W → Tab W'
theorem KeepTab.trans {A B C : World} (h1 : KeepTab A B) (h2 : KeepTab B C) : KeepTab A C := fun h => h2 (h1 h)
theorem keepTab_b {w : World} (h0 : 0 < w.heap.size) (W : World) (l : Nat) (r r' : Loop) (hl : w.heap.size ≤ l) (_ : W.heap[l]? = some (.loop r)) : KeepTab W (W.putObj l (.loop r')) := fun h j hj =>
  (World.cell?_of_block (w := W) (World.putObj_heap_other (by first | (show (0 : Nat) ≠ l; omega) | (show l ≠ (0 : Nat); omega)))).trans (h j hj)
theorem KeepTab.of_below {n : Nat} {W W' : World} (hb : Below n W W') (h0 : 0 < n) : KeepTab W W' := fun h => h.below hb h0

set_option maxRecDepth 100000 in
set_option maxHeartbeats 4000000 in
theorem each1_t (n : Nat) (l Bx x : Nat) (hx : x < 18446744073709551616) (J Jx : Nat → World → Prop) (W : World)
    (hY : ∀ r W1, J r W1 → r < (places x).length → YieldAt Fence.wide (n - 1) Tryz.prog l (encP x r) W1 fun e W' =>
      (e = .returned (.bool true) ∧ J (r + 1) W' ∧ KeepTab W1 W') ∨ (e = .returned (.bool false) ∧ Jx (r + 1) W'))
    (hT : Tab W) (cx : W.cell? ⟨Bx, 0, none⟩ = some (.int .u64 (x : Int))) (hJ0 : J 0 W) :
    CallsIn Fence.wide n Tryz.prog 31 #[.func (.yield l) #[] #[], .pointer (some ⟨Bx, 0, none⟩)] W fun e W' => (∃ v, e = .returned v) ∧
      (J (places x).length W' ∨ ∃ r, r ≤ (places x).length ∧ Jx r W') := by
  refine callsIn_of_wp Tryz.func31 rfl trivial ?_ rfl
  simp only [Tryz.ntmps31, List.size_toArray, List.length_cons, List.length_nil, Nat.reduceAdd, Nat.reduceSub, Array.replicate_succ, Array.replicate_zero, List.push_toArray, List.append_toArray, List.nil_append, List.cons_append]
  gi_wp2
  gi_loopw [3] (fun r wr => ∃ (R : Nat) (pre : List Nat), Hid (places x = pre ++ places R) ∧ R < 18446744073709551616 ∧ r = .int .u64 (R : Int) ∧ J pre.length wr ∧ Tab wr) (fun r _ => (places (intOf r).toNat).length)
  case atStart => exact ⟨x, [], rfl, hx, rfl, hJ0, hT⟩
  case round =>
    obtain ⟨R, pre, hR, hRl, rfl, hJr, hTr⟩ := hrel
    by_cases hz : R = 0
    · subst hz
      have hpx : Hid (places x = pre) := hR.out.trans (by rw [places_zero, List.append_nil])
      clear hR
      gi_wp2
      go_end0
      exact ⟨⟨_, rfl⟩, .inl (by rw [hpx.out]; exact hJr)⟩
    · have hst := places_step hz hRl
      obtain ⟨R', hR'⟩ : ∃ R', R &&& (R - 1) = R' := ⟨_, rfl⟩
      obtain ⟨K, hK⟩ : ∃ K, Hid (Lib.ctz 64 R = K) := ⟨_, rfl⟩
      have hKl : K < 64 := hK.out ▸ ctz_lt hz hRl
      rw [hR', hK.out] at hst
      have hRl' : R' < 18446744073709551616 := hR' ▸ Nat.lt_of_le_of_lt Nat.and_le_left hRl
      have e1 : bits BinOp.and IntKind.u64 (R : Int) (IntKind.u64.wrap ((R : Int) - 1)) = (R' : Int) := by
        rw [show IntKind.u64.wrap ((R : Int) - 1) = ((R - 1 : Nat) : Int) by rw [IntKind.wrap_u64]; omega, bits_and_u64_nat _ _ hRl (by omega), hR']
      have e2 : bits BinOp.and IntKind.u64 (R : Int) ((R : Int) - 1) = (R' : Int) := by
        rw [show ((R : Int) - 1) = ((R - 1 : Nat) : Int) by omega, bits_and_u64_nat _ _ hRl (by omega), hR']
      have hz' : ((R : Int) != 0) = true := by simp; omega
      have hpl : pre.length < (places x).length := by rw [hR.out, hst]; simp
      have hst' : Hid (places R = K :: places R') := hst
      obtain ⟨fn, tmps, assign, body, hy, hRd⟩ := hY pre.length wr hJr hpl
      rw [show encP x pre.length = #[.int .i64 (K : Int)] by rw [encP, plc, hR.out, hst]; simp [encE, List.getD, Nat.mod_eq_of_lt hKl]] at hy
      have hle : Hid (pre.length + 1 ≤ (places x).length) := hpl
      clear hst hR' hY hpl
      gi_wp2_with fail
      refine ⟨trivial, (fun h => by cases h), ?_⟩
      refine (callsIn_wide.2 (tz_calls R K hRl hK _ hTr)).mono ?_
      rintro e w1 ⟨rfl, rfl⟩
      gi_wp2
      refine ⟨(fun h => by cases h), ?_⟩
      refine hRd.mono ?_
      rintro e W3 (⟨rfl, hJ3, hk3⟩ | ⟨rfl, hJx3⟩)
      · have hT3 := hk3 hTr
        clear hy hRd
        gi_wp2
        go_roundw
        case rel => exact ⟨R', pre ++ [K], by show _ = _; rw [hR.out, hst'.out]; simp, hRl', rfl, by simpa using hJ3, hT3⟩
        case measure => simp [intOf, hst'.out]
      · clear hy hRd
        gi_wp2
        refine bodyPost_ret (results_none rfl _ _ _) rfl ?_
        exact ⟨⟨_, rfl⟩, .inr ⟨_, hle.out, hJx3⟩⟩

theorem each_tell (n : Nat) (Bx x : Nat) (hx : x < 18446744073709551616) (w : World) (hw0 : 0 < w.heap.size) (hT : Tab w) (ax : At w Bx #[.int .u64 (x : Int)] 41) :
    SeqTell n Tryz.prog 31 #[.pointer (some ⟨Bx, 0, none⟩)] (encP x) KeepTab (places x).length w :=
  fun l J Jx W hW _ _ hY hJ0 => each1_t n l Bx x hx J Jx W hY (hT.below hW hw0) ((ax.keptAll hW).cell 0) hJ0
end Go.Proofs.YtlckhiflhnlgpabGreatDoor
