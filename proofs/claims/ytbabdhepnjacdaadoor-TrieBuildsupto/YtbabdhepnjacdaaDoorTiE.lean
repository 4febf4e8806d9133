/-
 Lists of numbers that grow; slices.Sort; quarryref00.SameInts.
-/
import Derived.Test.YtbabdhepnjacdaaDoorTiB
import Derived.Test.YtbabdhepnjacdaaDoorTqF
import Derived.Test.YtbabdhepnjacdaaDoorTpF2
import Derived.Test.YtbabdhepnjacdaaDoorShelfQ
import Derived.Shelf.Sort.Plain
import Derived.Shelf.Slices.In.SortNone
namespace Go.Proofs.YtbabdhepnjacdaaDoor
open Go.RowKit Go.Shelf
def inC (L : List Int) : List Value := L.map fun x => Value.int .i64 x
theorem infoIn : (Tryd.prog.info? 3).map (fun i => (i.zero, i.size, i.bytes)) = some (some (.int .i64 0), 1, 8) := by kernel_rfl
/-- A list of numbers that grows, its row from B on. -/
def InG (B : Nat) (w : World) (v : Value) (L : List Int) : Prop := w.ownsRow B 3 1 v L.length (inC L)
section
variable {B : Nat} {W W' : World} {v : Value} {L : List Int}
theorem InG.nil (B : Nat) (W : World) : InG B W (.slice none 0 0) [] := by
 unfold InG inC
 simpa using World.ownsRow_nil W B 3 1
theorem InG.kept (h : InG B W v L) (hs : SameOn (fun c => B ≤ c) W W') : InG B W' v L := own_on h (fun g _ hg hl => hs.2 g hg hl)
theorem InG.shape (h : InG B W v L) : ∃ so cap, v = .slice so L.length cap := own_shape h
theorem InG.row {vo : Option Addr} {n vc : Nat} (h : InG B W (.slice vo n vc) L) (h64 : ∀ x ∈ L, i64B x) : n = L.length ∧ IntsZ W vo L := by
 obtain ⟨so, cap, e⟩ := own_shape h
 cases e
 refine ⟨rfl, fun i x hi => ⟨h64 x (List.mem_of_getElem? hi), ?_⟩⟩
 have hl := (List.getElem?_eq_some_iff.1 hi).1
 rcases h.2 with ⟨e, h0⟩ | ⟨g, cap, cur, e, hb, hg, -⟩
 ·omega
 ·cases e
  refine ⟨g, 0, rfl, (h.lt g rfl).2, ?_⟩
  have := h.cellAt i (by omega)
  show W.cell? ⟨g, 0 + i, none⟩ = _
  rw [Nat.zero_add, this]
  simp [inC, hi]
theorem InG.app {x : Int} {ty : TypeId} (h : InG B W v L) (ad : Addr) (c : Nat) (hC : W.cell? (ad.add 0) = some (.int .i64 x)) (hn : L.length < 1099511627776) (hB : B ≤ W.heap.size) :
  ∃ v' W', (Builtin.append_ #[36, 36] ty #[v, .slice (some ad) 1 c]).run Tryd.prog W = .ok v' W' ∧ InG B W' v' (L ++ [x]) ∧ W.grownBy W' v.ownBlock := by
 obtain ⟨i0, hi, hz0, hz1, hz2⟩ := info_partsV infoIn
 obtain ⟨v', W', hr, r1, r2⟩ := appendV (P := Tryd.prog) (ty := ty) Tryd.underlying36 hi hz0 hz1 hz2 rfl (by decide) h ad 1 c [.int .i64 x] (by simp) (fun j u hj => by
  match j, hj with
  | 0, hj => rw [hC]; simpa using hj
  | j + 1, hj => simp at hj) (by simp; rfl) (by unfold maxLen; omega) (by omega) hB
 refine ⟨v', W', hr, ?_, ?_⟩
 ·unfold InG inC
  rw [List.length_append, List.length_singleton, List.map_append, List.map_cons, List.map_nil]
  exact r1
 ·rcases r2 with ⟨g, cap, rfl, rfl, hg⟩ | ⟨-, hg⟩
  ·exact hg
  ·exact grown_weaken hg
end
theorem append_tyZ (ts : Array TypeId) (ty ty' : TypeId) (vs : Array Value) : Builtin.append_ ts ty vs = Builtin.append_ ts ty' vs := rfl
set_option maxRecDepth 10000 in
set_option maxHeartbeats 1000000 in
theorem sameZ_calls (L : List Int) (n : Nat) (hn : Hid (L.length = n)) (hl : n ≤ 4611686018427387904) (ao bo : Option Addr) (cap cap' : Nat) (w : World) (hA : IntsZ w ao L) (hB : IntsZ w bo L) :
  Calls Tryd.prog 22 #[.slice ao n cap, .slice bo n cap'] w fun e w' => e = .returned (.bool true) ∧ Below w.heap.size w w' := by
 have hA' := hid hA
 have hB' := hid hB
 have hnl : (n : Int) ≤ 4611686018427387904 := by omega
 have e0 : ((n : Int) != (n : Int)) = false := by simp
 clear hA hB
 go_enter Tryd.func22, Tryd.ntmps22
 go_wp2
 go_loopw [5] (fun ii wr => ∃ i : Nat, i ≤ n ∧ ii = .int .i64 (i : Int) ∧ Below w.heap.size w wr) (fun ii _ => n - (intOf ii).toNat)
 case atStart => exact ⟨0, Nat.zero_le _, rfl, Below.refl _ _⟩
 case round =>
  obtain ⟨i, hi, rfl, hb⟩ := hrel
  by_cases hlt : i < n
  ·have hli : (i : Int) < (n : Int) := by omega
   obtain ⟨p, hp⟩ : ∃ p, L[i]? = some p := ⟨_, List.getElem?_eq_getElem (by rw [hn.out]; exact hlt)⟩
   obtain ⟨-, g, o, rfl, hg, cg⟩ := hA'.out i p hp
   obtain ⟨-, h, o2, rfl, hh, ch⟩ := hB'.out i p hp
   have ad1 : (⟨g, o, none⟩ : Addr).add i = ⟨g, o + i, none⟩ := by by_cases h : i = 0 <;> simp [Addr.add, h]
   have ad2 : (⟨h, o2, none⟩ : Addr).add i = ⟨h, o2 + i, none⟩ := by by_cases h : i = 0 <;> simp [Addr.add, h]
   have s1 := (hb.cell (p := ⟨g, o + i, none⟩) hg).trans cg
   have s2 := (hb.cell (p := ⟨h, o2 + i, none⟩) hh).trans ch
   have ep : ((p : Int) != (p : Int)) = false := by simp
   clear hp cg ch
   go_wp2
   go_quiet (fail)
   go_wp2
   go_roundw
   case rel => exact ⟨i + 1, by omega, by simp, below_drewN hb _⟩
   case measure => simp [intOf]; omega
  ·obtain rfl : i = n := by omega
   go_wp2
   go_ret
   exact ⟨rfl, hb⟩
end Go.Proofs.YtbabdhepnjacdaaDoor
