/-
 trie.numbers.
-/
import Derived.Test.YtbabdhepnjacdaaDoorTiY
namespace Go.Proofs.YtbabdhepnjacdaaDoor
open Go.RowKit Go.Shelf
theorem make_int (K : Nat) (hK : K ≤ 4294967296) (u : World) : (Instr.makeSlice 36 (.int .i64 (K : Int)) (.int .i64 (K : Int))).run Tryd.prog u =
  .ok (.slice (some ⟨u.heap.size, 0, none⟩) K K) (u.alloc (.cells (tabC K (fun _ => [.int .i64 0])) 3)) := by
 obtain ⟨i0, hi, hz0, hz1, hz2⟩ := info_partsV infoIn
 have h := run_make (P := Tryd.prog) u 36 3 i0 _ Tryd.underlying36 hi hz0 .i64 .i64 (K : Int) (K : Int) (by omega) (Int.le_refl _) (by rw [hz2]; omega) (by omega)
 rw [Int.toNat_natCast] at h
 rw [h, hz1]
 have := tab_made #[.int .i64 0] (by decide) K
 simp only [Value.cells]
 rw [show K * 1 = K * (#[Value.int .i64 0] : Array Value).size from rfl, this]
theorem IntsZ.on {w w' : World} {g o : Nat} {L : List Int} (h : IntsZ w (some ⟨g, o, none⟩) L) (hs : w.heap.size ≤ w'.heap.size) (he : w'.heap[g]? = w.heap[g]?) : IntsZ w' (some ⟨g, o, none⟩) L := fun i x hi => by
 obtain ⟨h0, b, off, e, h1, h2⟩ := h i x hi
 cases e
 exact ⟨h0, g, o, rfl, Nat.lt_of_lt_of_le h1 hs, (World.cell?_of_block (w := w) he).trans h2⟩
set_option maxRecDepth 10000 in
set_option maxHeartbeats 4000000 in
theorem numbers23_calls (bs : List Nat) (xs : List Int) (M : Nat) (hMb : M ≤ 1048576) (hb : Hid (bs.length = M)) (hx : Hid (xs.length = M)) (h64 : Hid (∀ x ∈ xs, i64B x)) (so : Option Addr) (sc : Nat) (w : World)
  (hp : Hid (∀ j b, bs[j]? = some b → ∃ g, so = some ⟨g, 0, none⟩ ∧ g < w.heap.size ∧ w.cell? ⟨g, j, none⟩ = some (.pointer (some ⟨b, 0, none⟩)))) (hc : Hid (∀ (j b : Nat) (x : Int), bs[j]? = some b → xs[j]? = some x → b < w.heap.size ∧ w.cell? ⟨b, 3, none⟩ = some (.int .i64 x))) :
  Calls Tryd.prog 52 #[.slice so M sc] w fun e w' => (e = .returned (.slice (some ⟨w.heap.size, 0, none⟩) M M) ∧ IntsZ w' (some ⟨w.heap.size, 0, none⟩) xs ∧ w.heap.size < w'.heap.size) ∧ Below w.heap.size w w' := by
 have hMi : (M : Int) ≤ 1048576 := by omega
 have hmk := fun u => make_int M (by omega) u
 go_enter Tryd.func52, Tryd.ntmps52
 go_wp2
 go_loopw [11] (fun jj wr => ∃ (j : Nat) (F : Nat → Int), j ≤ M ∧ jj = .int .i64 (j : Int) ∧ Hid (At wr w.heap.size (tabC M fun i => [.int .i64 (F i)]) 3) ∧ Hid (∀ i, i < j → xs[i]? = some (F i)) ∧ Hid (Below w.heap.size w wr)) (fun jj _ => M - (intOf jj).toNat)
 case atStart => exact ⟨0, fun _ => 0, Nat.zero_le _, rfl, hid (At.new _ _ _), hid (fun i h => by omega), hid ((Below.refl _ _).alloc (Nat.le_refl _) _)⟩
 case round =>
  clear hmk
  obtain ⟨j, F, hj, rfl, hA, hF, hbl⟩ := hrel
  by_cases hjl : j < M
  ·have hji : (j : Int) < (M : Int) := by omega
   have hj' := hid (show j + 1 ≤ M by omega)
   obtain ⟨b, hbj⟩ : ∃ b, Hid (bs[j]? = some b) := ⟨_, List.getElem?_eq_getElem (by rw [hb.out]; exact hjl)⟩
   obtain ⟨x, hxj⟩ : ∃ x, Hid (xs[j]? = some x) := ⟨_, List.getElem?_eq_getElem (by rw [hx.out]; exact hjl)⟩
   obtain ⟨g, rfl, hg, hcg⟩ := hp.out j b hbj.out
   obtain ⟨hbw, hcb⟩ := hc.out j b x hbj.out hxj.out
   have c1 := (hbl.out.cell (p := ⟨g, j, none⟩) hg).trans hcg
   have c2 := (hbl.out.cell (p := ⟨b, 3, none⟩) hbw).trans hcb
   have ad1 : (⟨g, 0, none⟩ : Addr).add j = ⟨g, j, none⟩ := by by_cases h : j = 0 <;> simp [Addr.add, h]
   have ad2 : (⟨w.heap.size, 0, none⟩ : Addr).add j = ⟨w.heap.size, j, none⟩ := by by_cases h : j = 0 <;> simp [Addr.add, h]
   have c3 := tab_cell (z := 1) (j := 0) hA.out (fun _ _ => rfl) hjl (by decide)
   rw [Nat.mul_one, Nat.add_zero] at c3
   simp only [List.getElem?_cons_zero] at c3
   have c4 := hA.out.frozen j
   have A2 := hid (show At (wr.setCell ⟨w.heap.size, j, none⟩ (.int .i64 x)) w.heap.size (tabC M fun i => [.int .i64 (if i = j then x else F i)]) 3 from by
    have h := hA.out.set j (.int .i64 x)
    rw [tab1_set M j (.int .i64 x) (fun i => .int .i64 (F i))] at h
    rwa [tabC_congr (D := fun i => [.int .i64 (if i = j then x else F i)]) (fun k _ => by split <;> rfl)] at h)
   have F2 : Hid (∀ i, i < j + 1 → xs[i]? = some (if i = j then x else F i)) := hid (fun i hi => by
    by_cases e : i = j
    ·subst e; rw [if_pos rfl]; exact hxj.out
    ·rw [if_neg e]; exact hF.out i (by omega))
   have B2 := hid (hbl.out.setCell (p := ⟨w.heap.size, j, none⟩) (Nat.le_refl _) (.int .i64 x))
   clear hg hcg hbw hcb hA hF hbl hbj hxj
   go_wp2
   go_roundw
   case rel => exact ⟨j + 1, _, hj'.out, by simp, A2, F2, B2⟩
   case measure => simp [intOf]; have := hj'.out; omega
  ·obtain rfl : M = j := by omega
   have hfin : Hid (IntsZ wr (some ⟨w.heap.size, 0, none⟩) xs) := hid (fun i x hi => by
    have hl := (List.getElem?_eq_some_iff.1 hi).1
    have h1 := hF.out i (by have := hx.out; omega)
    have h3 := tab_cell (z := 1) (j := 0) hA.out (fun _ _ => rfl) (i := i) (by have := hx.out; omega) (by decide)
    rw [Nat.mul_one, Nat.add_zero] at h3
    rw [hi] at h1
    cases h1
    exact ⟨h64.out _ (List.mem_of_getElem? hi), w.heap.size, 0, rfl, hA.out.lt, by rw [Nat.zero_add]; exact h3⟩)
   have hlt := hid hA.out.lt
   clear hA hF
   go_wp2
   go_ret
   exact ⟨⟨rfl, hfin.out, hlt.out⟩, hbl.out⟩
theorem GrX.num {B gb K : Nat} {w : World} {ln : Nat → Nat → Nat} {vl : Nat → Nat → List Value} {nb : Nat → Nat} {v : Value} {vv : Nat → Nat → Value} {num : Nat → Int} (h : GrX B w gb K ln vl nb v vv num) {i : Nat} (hi : i < K) (x : Int) : GrX B (w.setCell ⟨nb i, 3, none⟩ (.int .i64 x)) gb K ln vl nb v vv (fun j => if j = i then x else num j) where
 box := h.box.other (at_ne h.box (h.node i hi) (by decide)) _
 boxB := h.boxB
 row := own_setCell h.row (h.node i hi) (by decide)
 node := fun j hj => by
  by_cases e : j = i
  ·subst e
   have hs := (h.node j hj).set 3 (.int .i64 x)
   simpa using hs
  ·simp only [if_neg e]
   exact (h.node j hj).other (fun e' => e (h.inj j i hj hi e')) _
 nodeB := h.nodeB
 inj := h.inj
 own := fun j k hj hk => own_setCell (h.own j k hj hk) (h.node i hi) (te_node hk)
 apt := h.apt
 aptG := h.aptG
end Go.Proofs.YtbabdhepnjacdaaDoor
