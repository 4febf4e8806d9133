/-
  Statements of layer 25: equal lists, Pick; what is fixed.
-/
import Derived.Test.YtiggfigjibggaaaHpP
import Derived.Test.YtiggfigjibggaaaHpR
namespace Go.Proofs.Ytiggfigjibggaaa
open Go.RowKit Go.Shelf Go.Maps

theorem pick25_calls (i : Int) (M : Nat) (hM : 0 < M) (hM2 : M ≤ 4611686018427387904) (w : World) :
    Calls Try.prog 14 #[.int .i64 i, .int .i64 (M : Int)] w fun e w' => (∃ I : Nat, I < M ∧ e = .returned (.int .i64 (I : Int))) ∧ w' = w := by
  obtain ⟨r, hr⟩ : ∃ r, Hid (i.tmod (M : Int) = r) := ⟨_, rfl⟩
  have hne : ((M : Int) == 0) = false := by simp; omega
  have hr2 : -(M : Int) < r ∧ r < (M : Int) := by
    rw [← hr.out]
    refine ⟨?_, Int.tmod_lt_of_pos i (by omega)⟩
    have h1 := Int.tmod_lt_of_pos (-i) (show (0 : Int) < (M : Int) by omega)
    rw [Int.neg_tmod] at h1
    omega
  have hrm : i.tmod (M : Int) = r := hr.out
  go_enter Try.func14, Try.ntmps14
  by_cases h0 : r < 0
  · go_wp2
    go_ret
    exact ⟨⟨(r + M).toNat, by omega, by rw [show (((r + M).toNat : Nat) : Int) = r + M by omega]; rfl⟩, rfl⟩
  · go_wp2
    go_ret
    exact ⟨⟨r.toNat, by omega, by rw [show ((r.toNat : Nat) : Int) = r by omega]; rfl⟩, rfl⟩
set_option maxRecDepth 20000 in
/-- A learnt place is itself. -/
theorem eqLr (r n : ByteArray) (p h : Int) (u : World) : (Op.equalIn 10000 25 (.agg #[.string r, .string n, .int .i64 p, .int .i64 h]) (.agg #[.string r, .string n, .int .i64 p, .int .i64 h])).run Try.prog u = .ok true u := by
  have hf : ((Try.prog.fieldsOf 25).toList.map fun f => (decide (f.name ≠ "_"), f.type, f.offset)) = [(true, 9, 0), (true, 9, 1), (true, 3, 2), (true, 3, 3)] := by kernel_rfl
  rw [run_equalIn_struct u 9999 25 _ _ Try.underlying25 (by kernel_rfl)]
  generalize (Try.prog.fieldsOf 25).toList = fs at hf
  obtain ⟨f0, fs1, rfl, h0, hf1⟩ := List.map_eq_cons_iff.1 hf
  obtain ⟨f1, fs2, rfl, h1, hf2⟩ := List.map_eq_cons_iff.1 hf1
  obtain ⟨f2, fs3, rfl, h2, hf3⟩ := List.map_eq_cons_iff.1 hf2
  obtain ⟨f3, fs4, rfl, h3, hf4⟩ := List.map_eq_cons_iff.1 hf3
  obtain rfl := List.map_eq_nil_iff.1 hf4
  simp only [Prod.mk.injEq] at h0 h1 h2 h3
  obtain ⟨n0, t0, o0⟩ := h0
  obtain ⟨n1, t1, o1⟩ := h1
  obtain ⟨n2, t2, o2⟩ := h2
  obtain ⟨n3, t3, o3⟩ := h3
  have q0 : ∀ v0 v1 v2 v3, (Go.part 9 #[v0, v1, v2, v3] 0).run Try.prog u = .ok v0 u := fun _ _ _ _ => by kernel_rfl
  have q1 : ∀ v0 v1 v2 v3, (Go.part 9 #[v0, v1, v2, v3] 1).run Try.prog u = .ok v1 u := fun _ _ _ _ => by kernel_rfl
  have q2 : ∀ v0 v1 v2 v3, (Go.part 3 #[v0, v1, v2, v3] 2).run Try.prog u = .ok v2 u := fun _ _ _ _ => by kernel_rfl
  have q3 : ∀ v0 v1 v2 v3, (Go.part 3 #[v0, v1, v2, v3] 3).run Try.prog u = .ok v3 u := fun _ _ _ _ => by kernel_rfl
  have b0 := run_equalIn_string (P := Try.prog) u 9998 9 r r Try.underlying9
  have b1 := run_equalIn_string (P := Try.prog) u 9998 9 n n Try.underlying9
  have b2 := run_equalIn_int (P := Try.prog) u 9998 3 .i64 .i64 p p Try.underlying3
  have b3 := run_equalIn_int (P := Try.prog) u 9998 3 .i64 .i64 h h Try.underlying3
  simp only [Nat.reduceAdd, beq_self_eq_true] at b0 b1 b2 b3
  simp only [Op.eqFields, if_pos (of_decide_eq_true n0), if_pos (of_decide_eq_true n1), if_pos (of_decide_eq_true n2), if_pos (of_decide_eq_true n3), t0, o0, t1, o1, t2, o2, t3, o3, Sem.run_bind, q0, q1, q2, q3, Result.andThen_ok, b0, b1, b2, b3, Bool.not_true, Bool.false_eq_true, if_false]
  try simp
theorem lns_at {w : World} {ao : Option Addr} {l : List Lr} (h : LnsAt w ao l) {i : Nat} {x : Lr} (hi : l[i]? = some x) : ∃ b off, ao = some ⟨b, off, none⟩ ∧ b < w.heap.size ∧ w.rangeAt b (off + i * 4) [.string x.r, .string x.n, .int .i64 x.p, .int .i64 x.h] := (h i x hi).2
set_option maxRecDepth 10000 in
set_option maxHeartbeats 8000000 in
/-- quarryref00.SameLearnts of two rows with the same places. -/
theorem same25_calls (l : List Lr) (ao bo : Option Addr) (N cap cap' : Nat) (hN : Hid (l.length = N)) (hNi : N ≤ 1073741824) (w : World) (hL : Hid (LnsAt w ao l)) (hk : Hid (LnsAt w bo l)) :
    Calls Try.prog 11 #[.slice ao N cap, .slice bo N cap'] w fun e w' => e = .returned (.bool true) ∧ Below w.heap.size w w' := by
  have hNi' : (N : Int) ≤ 1073741824 := by omega
  go_enter Try.func11, Try.ntmps11
  go_wp2
  go_loopw [5] (fun ii wr => ∃ i : Nat, i ≤ N ∧ ii = .int .i64 (i : Int) ∧ Hid (Below w.heap.size w wr)) (fun ii _ => N - (intOf ii).toNat)
  case atStart => exact ⟨0, Nat.zero_le _, rfl, hid (Below.refl _ _)⟩
  case round =>
    obtain ⟨i, hi, rfl, hb⟩ := hrel
    by_cases hlt : i < N
    · have hlt' := hid (show i + 1 ≤ N by omega)
      have hli : (i : Int) < (N : Int) := by omega
      obtain ⟨s, hs⟩ : ∃ s, Hid (l[i]? = some s) := ⟨l[i]'(by rw [hN.out]; exact hlt), List.getElem?_eq_getElem _⟩
      obtain ⟨g1, o1, rfl, -, hr1⟩ := lns_at (hL.out.kept hb.out) hs.out
      obtain ⟨g2, o2, rfl, -, hr2⟩ := lns_at (hk.out.kept hb.out) hs.out
      obtain ⟨sr, sn, sp, sh⟩ := s
      have R1 := hid hr1
      have R2 := hid hr2
      have ad1 : (⟨g1, o1, none⟩ : Addr).add (i * 4) = ⟨g1, o1 + i * 4, none⟩ := by by_cases h : i * 4 = 0 <;> simp [Addr.add, h]
      have ad2 : (⟨g2, o2, none⟩ : Addr).add (i * 4) = ⟨g2, o2 + i * 4, none⟩ := by by_cases h : i * 4 = 0 <;> simp [Addr.add, h]
      have eqs := eqLr sr sn sp sh
      have e1 : decide ((i : Int) < (N : Int)) = true := by simp; omega
      clear hs hr1 hr2 hL hk hN
      go_wp2
      refine wp_region_quiet (C := (fun w' => Below wr.heap.size wr w')) (by kernel_rfl) (by kernel_rfl) ((Below.refl _ _).drew) ?_
      dsimp only
      repeat (first
        | go_big_quiet_skip
        | (refine' wpQuiet_take (by rfl) ?_ ?_
           rotate_left
           · (intro wq hq; (try dsimp only at hq); go_simp
              first
                | done
                | with_reducible rfl
             )
           simp only [Act.put, List.setIfInBounds_toArray, List.set_cons_zero, List.set_cons_succ])
        | (refine wpQuiet_load 25 _ (g1) (o1 + i * 4) [.string sr, .string sn, .int .i64 sp, .int .i64 sh] _ (fun wq hq => range_kept R1.out hq) Try.underlying25 sizeLr rfl rfl rfl (by rfl) ?_; simp only [Act.put, List.setIfInBounds_toArray, List.set_cons_zero, List.set_cons_succ])
        | (refine wpQuiet_load 25 _ (g2) (o2 + i * 4) [.string sr, .string sn, .int .i64 sp, .int .i64 sh] _ (fun wq hq => range_kept R2.out hq) Try.underlying25 sizeLr rfl rfl rfl (by rfl) ?_; simp only [Act.put, List.setIfInBounds_toArray, List.set_cons_zero, List.set_cons_succ]))
      refine wpQuiet_nil ?_
      intro wz hwz
      have hfin := hid (hb.out.trans (Below.mono hwz hb.out.size))
      clear hwz
      go_wp2
      go_roundw
      case rel => exact ⟨i + 1, hlt'.out, by simp, hfin⟩
      case measure => simp [intOf]; have := hlt'.out; omega
    · obtain rfl : i = N := by omega
      clear hL hk hN
      go_wp2
      go_ret
      exact ⟨rfl, hb.out⟩
end Go.Proofs.Ytiggfigjibggaaa
