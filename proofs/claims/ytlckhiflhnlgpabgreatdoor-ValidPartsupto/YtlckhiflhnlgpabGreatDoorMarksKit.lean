/-
  The marks that ranges over functions leave behind in a loop, and how a call ends that bears them.
-/
import Derived.Test.YtlckhiflhnlgpabGreatDoorKitA
namespace Go.Proofs.YtlckhiflhnlgpabGreatDoor
open Go.RowKit Go.Shelf

/-- Marks of ranges over functions, the latest first: their blocks lie from B on and below U, each below the one ahead. -/
def Marks (B : Nat) : Nat → List Deferred → World → Prop
  | _, [], _ => True
  | U, d :: ds, W => ∃ D, d = { target := .collected D, args := #[] } ∧ B ≤ D ∧ D < U ∧ W.heap[D]? = some (.deferred (some [])) ∧ Marks B D ds W
theorem Marks.of {B : Nat} {W W' : World} : ∀ {ds : List Deferred} {U : Nat}, Marks B U ds W → (∀ D, B ≤ D → D < U → W.heap[D]? = some (.deferred (some [])) → W'.heap[D]? = W.heap[D]?) → Marks B U ds W'
  | [], _, _, _ => trivial
  | _ :: _, _, ⟨D, h1, h2, h3, h4, h5⟩, h => ⟨D, h1, h2, h3, (h D h2 h3 h4).trans h4, h5.of (fun D' a b c => h D' a (by omega) c)⟩
theorem Marks.up {B U U' : Nat} {ds : List Deferred} {W : World} (h : Marks B U ds W) (hU : U ≤ U') : Marks B U' ds W := by
  cases ds with
  | nil => trivial
  | cons d ds =>
    obtain ⟨D, h1, h2, h3, h4, h5⟩ := h
    exact ⟨D, h1, h2, by omega, h4, h5⟩
theorem Marks.below {B U n : Nat} {ds : List Deferred} {W W' : World} (h : Marks B U ds W) (hb : Below n W W') (hn : U ≤ n) : Marks B U ds W' := h.of (fun D _ h2 _ => hb.block D (by omega))
theorem Marks.own {B U : Nat} {ds : List Deferred} {W W' : World} {row : Option Nat} (h : Marks B U ds W) (hg : W.grownBy W' row) (hr : ∀ r, row = some r → U ≤ r) : Marks B U ds W' :=
  h.of (fun D _ h2 h3 => hg.block D (Array.getElem?_eq_some_iff.1 h3).1 (fun e => by have := hr D e.symm; omega))
theorem Marks.held {B U n0 B' Bx : Nat} {ds : List Deferred} {W W' : World} (h : Marks B U ds W) (hh : Held n0 B' Bx W W') (hB : B' ≤ B) : Marks B U ds W' :=
  h.of (fun D h1 _ h3 => (hh.2.2 D _ (.inl (by omega)) h3).trans h3.symm)

/-- A call that bears such marks ends as it would without them. -/
theorem leaves_marks {F : Fence} {n : Nat} {P : Program} {fn : Func} {tmps : Array Value} {R : Ending → World → Prop} {β : Type} {s : β} {J : β → World → Prop} {B : Nat} (hJ : OwnFrom B J)
    (hend : ∀ W', J s W' → LeavesInM F n P fn tmps R [] .returning W') : ∀ (ds : List Deferred) (U : Nat) (W : World), Marks B U ds W → J s W → LeavesInM F n P fn tmps R ds .returning W
  | [], _, W, _, hj => hend W hj
  | _ :: ds, _, W, ⟨D, h1, h2, _, h4, h5⟩, hj => by
    subst h1
    refine ⟨by simp, .inl ⟨D, _, rfl, run_takeDeferred h4, ?_⟩⟩
    refine leaves_marks hJ hend ds D _ (h5.of (fun D' _ b _ => World.putObj_heap_other (by omega))) (hJ.putObj _ hj h2 h4 rfl)
end Go.Proofs.YtlckhiflhnlgpabGreatDoor
