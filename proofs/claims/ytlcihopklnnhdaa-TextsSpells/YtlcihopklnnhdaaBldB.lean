/-
  strings.Builder's WriteByte; what a write keeps.
-/
import Derived.Test.YtlcihopklnnhdaaBld
import Derived.Laws.AppendOwn
namespace Go.Proofs.Ytlcihopklnnhdaa
open Go.RowKit Go.Shelf

theorem wpList_append_byte {ops : Array Oper} {rest : List Oper} {o : Oper} {a : Act} {w : World} {Q : Exit → Act → World → Prop} (hgd : o.guard = none) (sl x : Operand)
    (ho : o.op = .call { callee := .builtin .append, args := #[sl, x], argTypes := #[32, 32] }) (base : Nat) (v : Value) (n : Nat) (xs : List Value) (hs : a.eval sl = v) (hown : w.ownsRow base 5 1 v n xs) (b : Nat) (C : Int) (hx : a.eval x = .slice (some ⟨b, 0, none⟩) 1 1) (hc : w.cell? ⟨b, 0, none⟩ = some (.int .u8 C))
    (hn : n + 1 ≤ 140737488355328) (hbase : base ≤ w.heap.size)
    (h : ∀ v' w', w'.ownsRow base 5 1 v' (n + 1) (xs ++ [.int .u8 C]) → w.grownBy w' v.ownBlock → wpList Try.prog ops Q rest (a.put o.dst v') w') : wpList Try.prog ops Q (o :: rest) a w := by
  obtain ⟨i0, hi, hz0, hz1, hz2⟩ := info_parts infoBy
  exact wpList_append_own w hgd sl x 32 ho base 5 i0 (.int .u8 0) 1 1 Try.underlying32 hi hz0 hz1 hz2 rfl (by decide) v n xs hs hown ⟨b, 0, none⟩ 1 1 [.int .u8 C] hx rfl (fun j u hj => by
    match j, hj with
    | 0, hj => simp at hj; subst hj; simpa [Addr.add] using hc) (fun u hu => by simp at hu; subst hu; rfl) (by unfold maxLen; omega) (by omega) hbase (fun v' w' h1 h2 _ => h v' w' h1 h2)

/-- WriteString, with what it keeps. -/
theorem bstr_calls (m B : Nat) (l : List UInt8) (s : ByteArray) (hm : m < B) (hn : l.length + s.size ≤ 140737488355328) (w : World) (h : BdI w m B l) (hB : B ≤ w.heap.size) :
    Calls Try.prog 22 #[.pointer (some ⟨m, 0, none⟩), .string s] w fun e w' => e = .returned (.tuple #[.int .i64 (s.size : Int), .nilIface]) ∧ BdI w' m B (l ++ s.data.toList) ∧ Below m w w' := by
  refine (bwrite_calls m B l s hm hn w h hB).mono ?_
  rintro e w' ⟨rfl, h1, h2⟩
  exact ⟨rfl, h1, (h2 m (m + 1) (m + 1) (Nat.le_refl _) (Nat.lt_succ_self _) (Nat.succ_ne_self _)).1⟩
end Go.Proofs.Ytlcihopklnnhdaa
