/-
 RefVa, RefVa2, RefVa3, RefVa3c, RefVa4, one behind the other.
-/
import Derived.Test.YtkejlejhnnjdkaaGreatDoorPack1
import Derived.Test.YtkejlejhnnjdkaaGreatDoorPack6
import Derived.Laws.AppendOwn
/- What the reference of documents answers of a byte. -/
namespace Go.Proofs.YtkejlejhnnjdkaaGreatDoor
open Go.RowKit Go.Shelf
end Go.Proofs.YtkejlejhnnjdkaaGreatDoor
/- What the reference's machine does with a byte behind a backslash. -/
namespace Go.Proofs.YtkejlejhnnjdkaaGreatDoor
open Go.RowKit Go.Shelf
end Go.Proofs.YtkejlejhnnjdkaaGreatDoor
/- What the reference's machine does with a byte within a text. -/
namespace Go.Proofs.YtkejlejhnnjdkaaGreatDoor
open Go.RowKit Go.Shelf
end Go.Proofs.YtkejlejhnnjdkaaGreatDoor
/- What the reference's machine does with a byte within a text, put together. -/
namespace Go.Proofs.YtkejlejhnnjdkaaGreatDoor
open Go.RowKit Go.Shelf
end Go.Proofs.YtkejlejhnnjdkaaGreatDoor
/- The reference's machine in memory; which bracket was opened last. -/
namespace Go.Proofs.YtkejlejhnnjdkaaGreatDoor
open Go.RowKit Go.Shelf
/-- The cells of a row of bytes. -/
def opC (l : List Nat) : List Value := l.map fun n => .int .u8 ((n : Nat) : Int)
theorem opC_app (a b : List Nat) : opC (a ++ b) = opC a ++ opC b := by simp [opC]
/-- All is as it was, but the block b and the block o. -/
structure BelX (o : Option Nat) (b : Nat) (w w' : World) : Prop where
 os : w'.os = w.os
 tape : w'.tape = w.tape
 output : w'.output = w.output
 size : w.heap.size ≤ w'.heap.size
 block : ∀ k, k < w.heap.size → k ≠ b → some k ≠ o → w'.heap[k]? = w.heap[k]?
theorem BelX.refl (o : Option Nat) (b : Nat) (w : World) : BelX o b w w := ⟨rfl, rfl, rfl, Nat.le_refl _, fun _ _ _ _ => rfl⟩
theorem BelX.trans {o : Option Nat} {b : Nat} {x y z : World} (h : BelX o b x y) (k : BelX o b y z) : BelX o b x z :=
 ⟨k.os.trans h.os, k.tape.trans h.tape, k.output.trans h.output, Nat.le_trans h.size k.size, fun i hi hb ho => (k.block i (by have := h.size; omega) hb ho).trans (h.block i hi hb ho)⟩
theorem BelX.of_only {o : Option Nat} {b : Nat} {w w' : World} (h : Only b w w') : BelX o b w w' := ⟨h.1.os, h.1.tape, h.1.output, h.1.size, fun k _ hk _ => h.2.2 k hk⟩
theorem BelX.of_below {o : Option Nat} {b : Nat} {w w' : World} (h : Below w.heap.size w w') : BelX o b w w' := ⟨h.os, h.tape, h.output, h.size, fun k hk _ _ => h.block k hk⟩
theorem BelX.of_grown {o : Option Nat} {b : Nat} {w w' : World} (h : w.grownBy w' o) : BelX o b w w' :=
 ⟨h.os, h.tape, h.output, h.size, fun k hk _ ho => h.block k hk ho⟩
theorem own_only {B b n : Nat} {v : Value} {xs : List Value} {w w' : World} (h : w.ownsRow B 5 1 v n xs) (hb : b < B) (ho : Only b w w') : w'.ownsRow B 5 1 v n xs :=
 h.kept (row := some b) ⟨ho.1.os, ho.1.tape, ho.1.output, ho.1.size, fun k _ hk => ho.2.2 k (fun e => hk (by rw [e]))⟩ (by
  cases hv : v.ownBlock with
  | none => exact .inl rfl
  | some g => exact .inr (fun e => by have := (h.lt g hv).1; injection e with e; omega))
theorem own_below {B n : Nat} {v : Value} {xs : List Value} {w w' : World} (h : w.ownsRow B 5 1 v n xs) (hb : Below w.heap.size w w') : w'.ownsRow B 5 1 v n xs :=
 h.kept (row := none) ⟨hb.os, hb.tape, hb.output, hb.size, fun k hk _ => hb.block k hk⟩ (by cases v.ownBlock <;> simp)
end Go.Proofs.YtkejlejhnnjdkaaGreatDoor
