/-
  What the reference's one and Escape answer.
-/
import Derived.Test.YtlcihopklnnhdabRefTx3
import Derived.Test.YtlcihopklnnhdabTxBack
import Derived.BigQuiet
namespace Go.Proofs.Ytlcihopklnnhdab
open Go.RowKit Go.Shelf

theorem oneL_lt {c : Nat} (h : c < 256) : (∀ x ∈ oneL c, x < 256) ∧ 1 ≤ (oneL c).length ∧ (oneL c).length ≤ 6 := by
  unfold oneL
  repeat' split
  all_goals refine ⟨?_, by simp, by simp⟩
  all_goals intro x hx; simp at hx
  all_goals first
    | omega
    | (rcases hx with rfl | rfl | rfl | rfl | rfl | rfl <;> first | omega | (unfold hexC; split <;> omega))
def hexD16 : ByteArray := ⟨#[48, 49, 50, 51, 52, 53, 54, 55, 56, 57, 97, 98, 99, 100, 101, 102]⟩
theorem one_hex : ∀ c : Fin 32, ((⟨#[92, 117, 48, 48]⟩ ++ hexD16.extract (c.val / 16) (c.val / 16 + 1)) ++ hexD16.extract (c.val % 16) (c.val % 16 + 1) : ByteArray) = mkS [92, 117, 48, 48, hexC (c.val / 16), hexC (c.val % 16)] := by decide +kernel

/-- What Escape answers. -/
def wrS (s : ByteArray) : ByteArray × Int := if 0 ≤ badOf s then (⟨#[]⟩, 50) else (mkS ((byts s).flatMap oneL), 0)
/-- The first i bytes, as Escape has them. -/
def wrI (s : ByteArray) (i : Nat) : ByteArray := mkS (((byts s).take i).flatMap oneL)
theorem mkS_app (a b : List Nat) : mkS (a ++ b) = mkS a ++ mkS b := by
  unfold mkS
  apply ByteArray.ext
  simp
theorem wrI_next {s : ByteArray} {i x : Nat} (h : (byts s)[i]? = some x) : wrI s (i + 1) = wrI s i ++ mkS (oneL x) := by
  unfold wrI
  rw [List.take_add_one, h, List.flatMap_append, mkS_app]
  simp
theorem wrI_len (s : ByteArray) (i : Nat) : (wrI s i).size ≤ 6 * i := by
  unfold wrI
  rw [mkS_size]
  induction i with
  | zero => simp
  | succ i ih =>
    rw [List.take_add_one, List.flatMap_append, List.length_append]
    cases h : (byts s)[i]? with
    | none => simp only [Option.toList_none, List.flatMap_nil, List.length_nil]; omega
    | some x =>
      have := (oneL_lt (byts_lt s x (List.mem_of_getElem? h))).2.2
      simp only [Option.toList_some, List.flatMap_cons, List.flatMap_nil, List.append_nil]
      omega
theorem wpList_append_tx {ops : Array Oper} {rest : List Oper} {o : Oper} {a : Act} {w : World} {Q : Exit → Act → World → Prop} (hgd : o.guard = none) (x y : Operand)
    (ho : o.op = .call { callee := .builtin .append, args := #[x, y], argTypes := #[32, 9] }) (base : Nat) (v : Value) (S t : ByteArray) (hx : a.eval x = v) (hy : a.eval y = .string t)
    (hown : w.ownsRow base 5 1 v S.size (Lib.strCells S)) (hsz : S.size + t.size ≤ 67108864) (hbase : base ≤ w.heap.size)
    (h : ∀ v' w', w'.ownsRow base 5 1 v' (S ++ t).size (Lib.strCells (S ++ t)) → w.grownBy w' v.ownBlock → wpList Try.prog ops Q rest (a.put o.dst v') w') : wpList Try.prog ops Q (o :: rest) a w := by
  obtain ⟨i0, hi, hz0, hz1, hz2⟩ := info_parts infoU8
  obtain ⟨v', w', hr, r1, r2, -⟩ := Lib.run_append_own_string (P := Try.prog) w base 32 9 o.type 5 i0 Try.underlying32 Try.underlying9 hi hz0 hz1 hz2 v S.size (Lib.strCells S) hown t (by unfold maxLen; omega) (by omega) hbase
  rw [← strCells_append, ← ByteArray.size_append] at r1
  refine wpList_plain hgd fun K hK => ?_
  unfold Oper.wp execOp
  simp only [ho, resolve, invoke, builtin, Sem.run_bind, Sem.run_pure, Result.andThen_ok, List.map_toArray, List.map_cons, List.map_nil, hx, hy, hr]
  exact hK _ _ (h v' w' r1 r2)

end Go.Proofs.Ytlcihopklnnhdab
