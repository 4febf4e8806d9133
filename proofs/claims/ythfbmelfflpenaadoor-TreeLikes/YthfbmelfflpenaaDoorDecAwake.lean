/-
  What awake answers: yes.
-/
import Derived.Test.YthfbmelfflpenaaDoorDecR
namespace Go.Proofs.YthfbmelfflpenaaDoor
open Go.RowKit Go.Shelf

set_option maxRecDepth 20000 in
/-- A decimal is itself. -/
theorem eqDec (n : Bool) (t : ByteArray) (x : Int) (u : World) : (Op.equalIn 10000 35 (.agg #[.bool n, .string t, .int .i64 x]) (.agg #[.bool n, .string t, .int .i64 x])).run Tryd.prog u = .ok true u := by
  have hf : ((Tryd.prog.fieldsOf 35).toList.map fun f => (decide (f.name ≠ "_"), f.type, f.offset)) = [(true, 4, 0), (true, 9, 1), (true, 3, 2)] := by kernel_rfl
  rw [run_equalIn_struct u 9999 35 _ _ Tryd.underlying35 (by kernel_rfl)]
  generalize (Tryd.prog.fieldsOf 35).toList = fs at hf
  obtain ⟨f0, fs1, rfl, h0, hf1⟩ := List.map_eq_cons_iff.1 hf
  obtain ⟨f1, fs2, rfl, h1, hf2⟩ := List.map_eq_cons_iff.1 hf1
  obtain ⟨f2, fs3, rfl, h2, hf3⟩ := List.map_eq_cons_iff.1 hf2
  obtain rfl := List.map_eq_nil_iff.1 hf3
  simp only [Prod.mk.injEq] at h0 h1 h2
  obtain ⟨n0, t0, o0⟩ := h0
  obtain ⟨n1, t1, o1⟩ := h1
  obtain ⟨n2, t2, o2⟩ := h2
  have q0 : ∀ v0 v1 v2, (Go.part 4 #[v0, v1, v2] 0).run Tryd.prog u = .ok v0 u := fun _ _ _ => by kernel_rfl
  have q1 : ∀ v0 v1 v2, (Go.part 9 #[v0, v1, v2] 1).run Tryd.prog u = .ok v1 u := fun _ _ _ => by kernel_rfl
  have q2 : ∀ v0 v1 v2, (Go.part 3 #[v0, v1, v2] 2).run Tryd.prog u = .ok v2 u := fun _ _ _ => by kernel_rfl
  have b0 := run_equalIn_bool (P := Tryd.prog) u 9998 4 n n Tryd.underlying4
  have b1 := run_equalIn_string (P := Tryd.prog) u 9998 9 t t Tryd.underlying9
  have b2 := run_equalIn_int (P := Tryd.prog) u 9998 3 .i64 .i64 x x Tryd.underlying3
  simp only [Nat.reduceAdd, beq_self_eq_true] at b0 b1 b2
  simp only [Op.eqFields, if_pos (of_decide_eq_true n0), if_pos (of_decide_eq_true n1), if_pos (of_decide_eq_true n2), t0, o0, t1, o1, t2, o2, Sem.run_bind, q0, q1, q2, Result.andThen_ok, b0, b1, b2, Bool.not_true, Bool.false_eq_true, if_false]
  try simp
theorem aw1 : ofV ⟨#[45, 49, 50, 46, 53, 48, 101, 51]⟩ = .tuple #[.agg #[.bool true, .string ⟨#[49, 50, 53]⟩, .int .i64 2], .int .i64 0] := by kernel_rfl
theorem aw2 : ofV ⟨#[48, 49]⟩ = .tuple #[.agg #[.bool false, .string ⟨#[]⟩, .int .i64 0], .int .i64 110] := by kernel_rfl
end Go.Proofs.YthfbmelfflpenaaDoor
