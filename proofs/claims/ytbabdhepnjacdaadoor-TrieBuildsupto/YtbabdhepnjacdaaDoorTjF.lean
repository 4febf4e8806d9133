/-
 Paths that come in; the law TrieBack, walked.
-/
import Derived.Test.YtbabdhepnjacdaaDoorTjE
namespace Go.Proofs.YtbabdhepnjacdaaDoor
open Go.ChangeShapes Go.WideShapes Go.ChangeAt Go.RowKit Go.Shelf
set_option maxRecDepth 100000
theorem bulk_pos {H : Type} (d : DataW H) : 1 ≤ Rows.uptoBulk d := by
 unfold Rows.uptoBulk
 split <;> omega
def bkP (p : List Stp) : Nat := max 1 ((p.map fun s => s.name.size + 4).sum)
theorem bkP_len : ∀ p : List Stp, p.length * 4 ≤ (p.map fun s => s.name.size + 4).sum
 | [] => by simp
 | s :: p => by
  have := bkP_len p
  rw [List.length_cons, List.map_cons, List.sum_cons]
  omega
theorem sum_le {α : Type} (f g : α → Nat) (h : ∀ a, f a ≤ g a) : ∀ L : List α, (L.map f).sum ≤ (L.map g).sum
 | [] => Nat.le_refl _
 | x :: L => by
  have := sum_le f g h L
  have := h x
  rw [List.map_cons, List.sum_cons, List.map_cons, List.sum_cons]
  omega
theorem midP_bk {L : List (List Stp)} (h : (L.map bkP).sum ≤ 1048576) (hB : ∀ p ∈ L, stpB p) : L.length ≤ 1048576 ∧ MidP L := by
 refine ⟨Nat.le_trans (sum_len bkP (fun p => Nat.le_max_left _ _) L) h, ?_, fun p hp s hs => ?_, hB⟩
 ·have h1 : (L.map fun p => p.length * 4).sum ≤ (L.map bkP).sum := sum_le _ _ (fun p => Nat.le_trans (bkP_len p) (Nat.le_max_right _ _)) L
  have h2 : (L.map fun p => p.length * 4).sum = (L.map List.length).sum * 4 := by
   clear h h1 hB
   induction L with
   | nil => rfl
   | cons p L ih => rw [List.map_cons, List.sum_cons, ih, List.map_cons, List.sum_cons]; omega
  omega
 ·have h1 := sum_mem bkP hp
  have h2 := sum_mem (fun s : Stp => s.name.size + 4) hs
  have h3 : (p.map fun s => s.name.size + 4).sum ≤ bkP p := Nat.le_max_right _ _
  omega
section
variable {H : Type} {enc : TypeId × Value → H} {w : World} {base : Nat} {spare : Nat → Bool} {held : Bool}
theorem open_pthsU {r : Reach} {b0 : Nat} {v : Value} {d : DataW H} {ps : List MemPlace} (hval : Value.okWide Tryd.prog w r b0 22 v) (hd : DataW.Trod enc Tryd.prog w base spare held 22 v d ps) (hwt : Rows.uptoBulk d ≤ 1048576) :
  ∃ (ao : Option Addr) (cap : Nat) (L : List (List Stp)), v = .slice ao L.length cap ∧ L.length ≤ 1048576 ∧ MidP L ∧ PthsAt w ao L := by
 obtain ⟨ao, len, cap, rfl⟩ := okWide_slice Tryd.underlying22 hval
 obtain ⟨fuel, hf⟩ := hd
 have hf' : DataW.trod enc Tryd.prog w base spare held fuel 22 [.slice ao len cap] = some (d, ps) := by simpa [Value.cells] using hf
 obtain ⟨ao, cap, L, e, hs, hall⟩ := open_listG (α := List Stp) (te := 45) (sz := 1) Tryd.underlying22 cellsSs22 Nat.one_pos bkP (fun p cs => (∃ so sc, cs = [.slice so p.length sc] ∧ StepsAt w so p) ∧ stpB p) (fun {m cs y} h hb hl => by
  obtain ⟨c0, rfl⟩ : ∃ c, cs = [c] := by
   match cs, hl with
   | [c], _ => exact ⟨c, rfl⟩
  obtain ⟨so, sc, p, rfl, h1, h2, h3⟩ := open_stpsZ h hb
  exact ⟨p, ⟨⟨so, sc, rfl, h3⟩, h2⟩, Nat.max_le.2 ⟨bulk_pos _, h1⟩⟩) hf' hwt
 have hB : ∀ p ∈ L, stpB p := fun p hp => by
  obtain ⟨i, hi, e⟩ := List.mem_iff_getElem.1 hp
  obtain ⟨b, off, cs, -, -, -, -, -, h4⟩ := hall i p (by rw [List.getElem?_eq_getElem hi, e])
  exact h4
 obtain ⟨h1, h2⟩ := midP_bk (Nat.le_trans hs hwt) hB
 refine ⟨ao, cap, L, e, h1, h2, fun i p hi => ?_⟩
 obtain ⟨b, off, cs, g1, g2, -, g3, ⟨so, sc, rfl, g4⟩, -⟩ := hall i p hi
 refine ⟨b, off, so, sc, g1, g2, ?_, g4⟩
 have := g3 0 _ rfl
 rwa [show off + i * 1 + 0 = off + i by omega] at this
end
theorem bld_mid {L : List (List Stp)} {T : List Nod} (h : BldT L T) (hm : MidP L) (hL : L.length ≤ 256) : Mid T ∧ ∀ n ∈ T, ∀ s ∈ n.steps, s.name.size ≤ 1048576 := by
 have hI := h.inv (Q := fun s => s.name.size ≤ 1048576) hm.2.1
 have h1 := bld_len h
 have h2 := hm.1
 have h3 := hI.len
 have h4 : (enA T).length = L.length := by rw [hI.end_.length_eq]; simp
 refine ⟨⟨by omega, by omega, by omega, fun n hn => ?_⟩, hI.q⟩
 have h5 := (hI.nd n hn).1
 obtain ⟨i, hi, e⟩ := List.mem_iff_getElem.1 hn
 have h6 := (flat_pre Nod.tos (t := T) (i := i) (n := n) (by rw [List.getElem?_eq_getElem hi, e]) n.tos.length).length_le
 rw [List.length_append, List.take_length] at h6
 unfold toA at h3
 omega
end Go.Proofs.YtbabdhepnjacdaaDoor
