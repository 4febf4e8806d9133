/-
  Regions that draw their order: inside a round; where nothing panics.
-/
import Derived.Test.YtomeaejjdjidlaaDoorKitA
import Derived.Deep.RegionHeld
import Derived.Laws.EntriesVeiled
namespace Go.Proofs.YtomeaejjdjidlaaDoor
open Go.RowKit Go.Shelf

/-- A region that draws its order, in a round: one walk of the text's order, each operation quiet in the class. -/
theorem wpIn_region_quiet_round {P : Program} {ops : Array Oper} {C : World → Prop} {id l n : Nat} {Q : Exit → Act → World → Prop} {a : Act} {w : World} (hm : P.follows .mixedOrders = true) (hB : Region.lexB .any ops = true) (hnd : ops.all (fun o => match o.op with | .defer _ => false | _ => true) = true) (hC : C { w with drawn := w.drawn + 1 })
    (h : wpQuiet P ops C (fun a' => ∀ w', C w' → Q .normal a' w') ops.toList a) : (Code.region id ops true).wpIn (Fence.wide.inRound l) n P Q a w := by
  simp only [Region.lexB, Bool.and_eq_true] at hB
  refine wpIn_mono (Q := OnlyN (Q .normal)) (wpIn_region_any hm (wpAnyIn_round ?_ ?_ _ _ _ _ (wpAny_of_quiet (Q := fun a' => ∀ w', C w' → Q .normal a' w') (Q' := OnlyN (Q .normal)) (fun _ w' hw' h => h w' hw') _ _ _ _ hC ?_))) ?_
  · intro i o hi c hc
    have := Array.all_eq_true.1 hnd i (Array.getElem?_eq_some_iff.1 hi).1
    rw [(Array.getElem?_eq_some_iff.1 hi).2, hc] at this
    cases this
  · rintro ⟨a, w, h⟩
    exact h
  · have := wpAnyQ_lex (C := C) (md := .any) hB.1 ops.toList 0 (Array.replicate ops.size false) a (by simp) (by simpa using hB.2) h
    simpa using this
  · intro e a w h
    cases e with
    | normal => exact h
    | _ => exact False.elim h
/-- A region that draws its order, held by S, where what follows a panic isn't nothing (functions with marks). -/
theorem wp_region_held_only {P : Program} {ops : Array Oper} {id : Nat} {S : World → Prop} {Q : Exit → Act → World → Prop} {a : Act} {w : World} (hm : P.follows .mixedOrders = true) (hS : S w.drew)
    (h : S w.drew → wpAnyH P .any ops (OnlyN (Q .normal)) S ops.size (Array.replicate ops.size false) a w.drew) : (Code.region id ops true).wp P Q a w :=
  wp_mono (wp_region_held_drew (Q := OnlyN (Q .normal)) hm hS h) (fun e a w h => by
    cases e with
    | normal => exact h
    | _ => exact False.elim h)
end Go.Proofs.YtomeaejjdjidlaaDoor
