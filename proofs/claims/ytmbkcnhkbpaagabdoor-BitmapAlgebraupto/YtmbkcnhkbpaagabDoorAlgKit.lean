/-
  What the walk of quarrylaw04.BitmapAlgebra shares.
-/
import Derived.Test.YtmbkcnhkbpaagabDoorAwakeWalk
import Derived.Test.YtmbkcnhkbpaagabDoorSameWalk
import Derived.Test.YtmbkcnhkbpaagabDoorJoinGives
import Derived.Test.YtmbkcnhkbpaagabDoorBitEach2
import Derived.Test.YtmbkcnhkbpaagabDoorAppendApart
import Derived.Test.YtmbkcnhkbpaagabDoorAlgMath
import Derived.Test.YtmbkcnhkbpaagabDoorRoundKit
import Derived.Deep.DeepCutAuto
import Derived.Deep.RegionHeld
import Derived.Laws.EntriesVeiled
namespace Go.Proofs.YtmbkcnhkbpaagabDoor
open Go.RowKit Go.Shelf

theorem mark_kept {W W' : World} {D : Nat} {o : Obj} (h : W.heap[D]? = some o) (hb : Below W.heap.size W W') : W'.heap[D]? = some o := (hb.block D (Array.getElem?_eq_some_iff.1 h).1).trans h
theorem below_al (w : World) (o : Obj) : Below w.heap.size w (w.alloc o) := (Below.refl _ _).alloc (Nat.le_refl _) _
theorem Own.congr {B : Nat} {w : World} {so : Option Addr} {r : Nat} {Z Z' : Nat → Nat} (h : Own B w so r Z) (hZ : ∀ j, j < r → Z j = Z' j) : Own B w so r Z' := by
  rcases h with h | ⟨g, h4, h5, h6⟩
  · exact .inl h
  · exact .inr ⟨g, h4, h5, rowCells_congr hZ ▸ h6⟩
/-- Two rows that are the same. -/
theorem same_tr (q : Int) (ao bo : Option Addr) (r cap cap' : Nat) (Z : Nat → Nat) (hq : (Lit.int .i64 q).wf = true) (hr : r ≤ 17592186044416) (w : World) (hW : Wds w ao r Z) (hV : Wds w bo r Z) :
    Calls Tryd.prog 18 #[bv q ao r cap, bv q bo r cap'] w fun e w' => e = .returned (.bool true) ∧ Below w.heap.size w w' :=
  same_calls q q ao bo r r cap cap' Z Z true hq hq hr hr ⟨fun _ => rfl, fun _ => ⟨rfl, rfl, fun _ _ => rfl⟩⟩ w hW hV
theorem undef_bool {b : Bool} (h : some undef = some (Value.bool b)) : False := by first | (cases h; done) | (simp [undef] at h)
/-- All blocks of w6 but block mp are as they were. -/
def KeptX (w w6 : World) (mp : Nat) (W : World) : Prop := Below w.heap.size w W ∧ w6.heap.size ≤ W.heap.size ∧ ∀ b cs t, b ≠ mp → At w6 b cs t → At W b cs t
section
variable {w w6 W W' : World} {mp : Nat}
theorem KeptX.kept (h : KeptX w w6 mp W) (hb : Below W.heap.size W W') : KeptX w w6 mp W' := ⟨h.1.trans (hb.mono h.1.size), Nat.le_trans h.2.1 hb.size, fun b cs t h1 h2 => (h.2.2 b cs t h1 h2).keptAll hb⟩
theorem KeptX.own (h : KeptX w w6 mp W) {D : Nat} (hD : w.heap.size ≤ D) {row : Option Nat} (hg : W.grownBy W' row) (hr : ∀ r, row = some r → D ≤ r ∧ ∃ o : Obj, W.heap[r]? = some o ∧ o.isCells = false) : KeptX w w6 mp W' :=
  ⟨ownFrom_below (β := List Nat) (Nat.le_refl _) hD [] W W' row h.1 hg hr, Nat.le_trans h.2.1 hg.size, fun b cs t h1 h2 => (h.2.2 b cs t h1 h2).own hg (fun r e => (hr r e).2)⟩
end
theorem HeldS.refl (Safe : Nat → World → Prop) (n0 B Bx : Nat) (W : World) : HeldS Safe n0 B Bx W W := ⟨Below.refl _ _, Nat.le_refl _, fun _ _ _ _ h => h, fun _ _ _ _ h1 h2 => ⟨h2, h1⟩⟩
theorem heldI_below {mp n0 B Bx : Nat} {W W' : World} (hn : n0 ≤ W.heap.size) (hb : Below W.heap.size W W') : HeldS (SafeI mp) n0 B Bx W W' :=
  ⟨hb.mono hn, hb.size, fun k _ _ _ ho => (hb.block k (Array.getElem?_eq_some_iff.1 ho).1).trans ho, fun _ _ _ _ ⟨v, h1, h2⟩ ha => ⟨ha.keptAll hb, v, h1.keptAll hb, h2⟩⟩
theorem heldI_set {mp n0 B Bx b : Nat} (W : World) (u : Value) (h1 : n0 ≤ b) (h2 : b < B) (h3 : b ≠ Bx) (h4 : b ≠ mp) {x : Value} {t : TypeId} (ha : At W b #[x] t) : HeldS (SafeI mp) n0 B Bx W (W.setCell ⟨b, 0, none⟩ u) :=
  ⟨(Below.refl _ _).setCell (p := ⟨b, 0, none⟩) h1 u, by simp, fun k o _ hc ho => (Below.heap_setCell W ⟨b, 0, none⟩ u k (fun e => by
      have e' : k = b := e
      subst e'
      have h : W.heap[k]? = some (.cells #[x] t) := ha
      rw [h] at ho
      cases ho
      cases hc)).trans ho,
    fun b' _ _ hb ⟨v, hv, hs⟩ ha' => ⟨ha'.other (p := ⟨b, 0, none⟩) (by show b' ≠ b; omega) u, v, hv.other (p := ⟨b, 0, none⟩) (fun e => h4 e.symm) u, hs⟩⟩
theorem heldI_turn {mp n0 B Bx l : Nat} {W : World} {r r' : Loop} (hl : W.heap[l]? = some (.loop r)) (h1 : n0 ≤ l) (h2 : l < B) : HeldS (SafeI mp) n0 B Bx W (W.putObj l (.loop r')) := by
  have hg := grownBy_putObj' W l (.loop r')
  have hlt := (Array.getElem?_eq_some_iff.1 hl).1
  have hr : ∀ k, some l = some k → ∃ o : Obj, W.heap[k]? = some o ∧ o.isCells = false := fun k e => by cases e; exact ⟨_, hl, rfl⟩
  exact ⟨(Below.refl n0 W).grown hg (by omega) (fun k e => by cases e; omega), hg.size, fun k _ hk _ ho => (World.putObj_heap_other (by omega)).trans ho, fun _ _ _ _ ⟨v, hv, hs⟩ ha => ⟨ha.own hg hr, v, hv.own hg hr, hs⟩⟩
/-- A region that draws its order, in a round: one walk of the text's order, each operation quiet in the class. -/
theorem wpIn_region_quiet_round {P : Program} {ops : Array Oper} {C : World → Prop} {id l n : Nat} {Q : Exit → Act → World → Prop} {a : Act} {w : World} (hm : P.follows .mixedOrders = true) (hB : Region.lexB .any ops = true) (hnd : ops.all (fun o => match o.op with | .defer _ => false | _ => true) = true) (hC : C { w with drawn := w.drawn + 1 })
    (h : wpQuiet P ops C (fun a' => ∀ w', C w' → Q .normal a' w') ops.toList a) : (Code.region id ops true).wpIn (Fence.wide.inRound l) n P Q a w := by
  simp only [Region.lexB, Bool.and_eq_true] at hB
  refine wpIn_mono (Q := OnlyN (Q .normal)) (wpIn_region_any hm (wpAnyIn_round ?_ ?_ _ _ _ _ (wpAny_of_quiet (Q := fun a' => ∀ w', C w' → Q .normal a' w') (Q' := OnlyN (Q .normal)) (fun _ w' hw' h => h w' hw') _ _ _ _ hC ?_))) ?_
  · intro i o hi c hc
    have := Array.all_eq_true.1 hnd i (Array.getElem?_eq_some_iff.1 hi).1
    rw [(Array.getElem?_eq_some_iff.1 hi).2, hc] at this
    cases this
  · rintro ⟨a, w, h⟩
    exact h
  · have := wpAnyQ_lex (C := C) (md := .any) hB.1 ops.toList 0 (Array.replicate ops.size false) a (by simp) (by simpa using hB.2) h
    simpa using this
  · intro e a w h
    cases e with
    | normal => exact h
    | _ => exact False.elim h
theorem At.apart {W : World} {b b' : Nat} {cs cs' : Array Value} {t t' : TypeId} (h : At W b cs t) (h' : At W b' cs' t') (ht : t ≠ t') : b ≠ b' := by
  rintro rfl
  have h1 : W.heap[b]? = some (.cells cs t) := h
  have h2 : W.heap[b]? = some (.cells cs' t') := h'
  rw [h1] at h2
  exact ht (by simpa using (Obj.cells.inj (Option.some.inj h2)).2.1)
theorem Own.keptX {w w6 W : World} {mp B r : Nat} {so : Option Addr} {Z : Nat → Nat} {v : Value} (h : Own B w6 so r Z) (hp : At w6 mp #[v] 35) (hk : KeptX w w6 mp W) : Own B W so r Z := by
  rcases h with h | ⟨g, h1, h2, h3⟩
  · exact .inl h
  · exact .inr ⟨g, h1, h2, hk.2.2 g _ _ (h3.apart hp (by decide)) h3⟩
theorem KeptX.at {w w6 W : World} {mp b : Nat} {cs : Array Value} {t : TypeId} (hk : KeptX w w6 mp W) (hb : b ≠ mp) (h : At w6 b cs t) : At W b cs t := hk.2.2 b cs t hb h
theorem ownI_al {W : World} {B n : Nat} {v : Value} {xs : List Value} (h : W.ownsRow B 3 1 v n xs) (o : Obj) : (W.alloc o).ownsRow B 3 1 v n xs := h.kept (grown_of_below (below_al W o)) (by
  rcases rowI_block h with e | ⟨g, cur, e, _⟩
  · exact .inl e
  · exact .inr (by rw [e]; simp))
theorem rowI_slice {W : World} {B n : Nat} {v : Value} {xs : List Value} (h : W.ownsRow B 3 1 v n xs) : ∃ so c, v = .slice so n c := by
  rcases h.2 with ⟨rfl, rfl⟩ | ⟨g, cap, cur, rfl, _⟩
  · exact ⟨_, _, rfl⟩
  · exact ⟨_, _, rfl⟩
theorem getD_at (L : List Nat) {j : Nat} (hj : j < L.length) : L.getD j 0 = L[j] := by simp [List.getD, hj]
/-- The places that were gathered, as the numbers of a slice. -/
theorem gathI_nums {W : World} {m B : Nat} {L : List Nat} (hL : ∀ p, p ∈ L → p < 4611686018427387904) (h : GathI W m B (L.map (· % 4611686018427387904))) :
    ∃ po pc, At W m #[.slice po L.length pc] 35 ∧ Nums W po L.length (fun t => ((L.getD t 0 : Nat) : Int)) := by
  have e : L.map (· % 4611686018427387904) = L := by
    conv => rhs; rw [← List.map_id L]
    exact List.map_congr_left (fun p hp => Nat.mod_eq_of_lt (hL p hp))
  rw [e] at h
  obtain ⟨v, hv, hown⟩ := h
  rcases hown.2 with ⟨rfl, hl⟩ | ⟨g, cap, cur, rfl, hrest⟩
  · exact ⟨none, 0, by rw [hl]; exact hv, fun j hj => by omega⟩
  · refine ⟨_, _, hv, fun j hj => ⟨WalkArith.wf_i64 ?_, g, 0, rfl, ?_⟩⟩
    · have := hL _ (List.getElem_mem hj)
      dsimp only
      rw [getD_at L hj]
      omega
    · have := hown.cells (g := g) rfl j (.int .i64 ((L.getD j 0 : Nat) : Int)) (by
        rw [getD_at L hj]
        simp [ints, hj])
      have ea : ((⟨g, 0, none⟩ : Addr).add j) = ⟨g, 0 + j, none⟩ := by
        unfold Addr.add
        split
        · rename_i h0
          subst h0
          rfl
        · rfl
      rw [← ea]
      exact this
/-- What Make answers of the places of a row. -/
theorem made_again {Y : Nat → Nat} {M l N : Nat} {E q : Int} {r : Nat} (hl : l = need M) (hN : N = (placesB Y M).length) (h : makeE (M : Int) N (fun t => (((placesB Y M).getD t 0 : Nat) : Int)) E q r) :
    (M ≤ 16777216 ∧ E = 0 ∧ q = (M : Int) ∧ l = r) ∨ (¬ M ≤ 16777216 ∧ E = 2 ∧ q = 0 ∧ r = 0) := by
  subst hN
  rcases h with ⟨h1, h2, h3, h4⟩ | ⟨h1, h2, h3, h4⟩
  · refine .inr ⟨fun h => h1 ⟨by omega, by omega, fun t ht => ?_⟩, h2, h3, h4⟩
    have := placesB_mem (List.getElem_mem ht)
    dsimp only
    rw [getD_at _ ht]
    omega
  · have h5 : (M : Int) ≤ 16777216 := h1.2.1
    exact .inl ⟨by omega, h2, h3, by rw [h4, hl]; simp⟩
theorem again_row' {Y : Nat → Nat} {M l j : Nat} (hf : formed M l Y) (hj : j < l) (hY : Y j < 18446744073709551616) : rowOf (setTo (fun t => (((placesB Y M).getD t 0 : Nat) : Int)) (placesB Y M).length) M j = Y j :=
  again_row hf hj hY (fun t p h => by simp [h])
theorem cntIn_all (X : Nat → Nat) (N : Nat) : cntIn X N 0 (N : Int) = cntB X N := by simp [cntIn, cntB]
theorem cellK {w w' : World} {a : Addr} {v : Value} (h : w.cell? a = some v) (hb : Below w.heap.size w w') : w'.cell? a = some v := (hb.cell (cell_block h)).trans h
/-- A region that draws its order, held by S, where what follows a panic isn't nothing (functions with marks). -/
theorem wp_region_held_only {P : Program} {ops : Array Oper} {id : Nat} {S : World → Prop} {Q : Exit → Act → World → Prop} {a : Act} {w : World} (hm : P.follows .mixedOrders = true) (hS : S w.drew)
    (h : S w.drew → wpAnyH P .any ops (OnlyN (Q .normal)) S ops.size (Array.replicate ops.size false) a w.drew) : (Code.region id ops true).wp P Q a w :=
  wp_mono (wp_region_held_drew (Q := OnlyN (Q .normal)) hm hS h) (fun e a w h => by
    cases e with
    | normal => exact h
    | _ => exact False.elim h)
end Go.Proofs.YtmbkcnhkbpaagabDoor
