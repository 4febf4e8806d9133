/-
 Tries in memory, and such as come in.
-/
import Derived.Test.YtbabdhepnjacdaaDoorTiA
import Derived.Test.YtbabdhepnjacdaaDoorPzC
import Derived.Test.YtbabdhepnjacdaaDoorTrN0
namespace Go.Proofs.YtbabdhepnjacdaaDoor
open Go.ChangeShapes Go.WideShapes Go.ChangeAt Go.RowKit
set_option maxRecDepth 100000
def i64B (x : Int) : Prop := -9223372036854775808 ≤ x ∧ x ≤ 9223372036854775807
/-- Numbers in memory. -/
def IntsZ (w : World) (ao : Option Addr) (L : List Int) : Prop := ∀ (i : Nat) (x : Int), L[i]? = some x → i64B x ∧ ∃ b off, ao = some ⟨b, off, none⟩ ∧ b < w.heap.size ∧ w.cell? ⟨b, off + i, none⟩ = some (.int .i64 x)
theorem IntsZ.kept {w w' : World} {ao : Option Addr} {L : List Int} (h : IntsZ w ao L) (hb : Below w.heap.size w w') : IntsZ w' ao L := fun i x hi => by
 obtain ⟨h0, b, off, h1, h2, h3⟩ := h i x hi
 exact ⟨h0, b, off, h1, Nat.lt_of_lt_of_le h2 hb.size, (hb.cell (p := ⟨b, off + i, none⟩) h2).trans h3⟩
/-- Each kind and place is an int. -/
def stpB (ss : List Stp) : Prop := ∀ s ∈ ss, i64B s.kind ∧ i64B s.place
/-- A node's cells. -/
def NodE (w : World) (n : Nod) (cs : List Value) : Prop := ∃ sa sc ta tc ea ec, cs = [.slice sa n.steps.length sc, .slice ta n.tos.length tc, .slice ea n.ends.length ec] ∧ StepsAt w sa n.steps ∧ stpB n.steps ∧ IntsZ w ta n.tos ∧ IntsZ w ea n.ends
theorem NodE.kept {w w' : World} {n : Nod} {cs : List Value} (h : NodE w n cs) (hb : Below w.heap.size w w') : NodE w' n cs := by
 obtain ⟨sa, sc, ta, tc, ea, ec, h1, h2, h3, h4, h5⟩ := h
 exact ⟨sa, sc, ta, tc, ea, ec, h1, h2.kept hb, h3, h4.kept hb, h5.kept hb⟩
/-- Nodes in memory. -/
def NodesAt (w : World) (ao : Option Addr) (t : List Nod) : Prop := ∀ (i : Nat) (n : Nod), t[i]? = some n → ∃ b off cs, ao = some ⟨b, off, none⟩ ∧ b < w.heap.size ∧ w.rangeAt b (off + i * 3) cs ∧ NodE w n cs
theorem NodesAt.kept {w w' : World} {ao : Option Addr} {t : List Nod} (h : NodesAt w ao t) (hb : Below w.heap.size w w') : NodesAt w' ao t := fun i n hi => by
 obtain ⟨b, off, cs, h1, h2, h3, h4⟩ := h i n hi
 exact ⟨b, off, cs, h1, Nat.lt_of_lt_of_le h2 hb.size, range_kept h3 hb, h4.kept hb⟩
theorem sum_get {α : Type} (f : α → Nat) : ∀ {L : List α} {i : Nat} {a : α}, L[i]? = some a → f a ≤ (L.map f).sum
 | [], i, a, h => by simp at h
 | x :: L, 0, a, h => by simp at h; subst h; simp
 | x :: L, i + 1, a, h => by
  have := sum_get f (L := L) (i := i) (by simpa using h)
  simp
  omega
theorem sum_mem {α : Type} (f : α → Nat) {L : List α} {a : α} (h : a ∈ L) : f a ≤ (L.map f).sum := by
 obtain ⟨i, hi, e⟩ := List.mem_iff_getElem.1 h
 exact sum_get f (i := i) (by rw [List.getElem?_eq_getElem hi, e])
theorem sum_len {α : Type} (f : α → Nat) (h1 : ∀ a, 1 ≤ f a) : ∀ L : List α, L.length ≤ (L.map f).sum
 | [] => Nat.zero_le _
 | x :: L => by
  have h2 := sum_len f h1 L
  have h3 := h1 x
  rw [List.map_cons, List.sum_cons, List.length_cons]
  omega
section
variable {H : Type} {enc : TypeId × Value → H} {w : World} {base : Nat} {spare : Nat → Bool} {held : Bool}
/-- A list that comes in, element by element. -/
theorem open_listG {α : Type} {te ty : TypeId} {sz : Nat} (hty : Tryd.prog.underlying ty = some (.slice te)) (hsz : Tryd.prog.cellsOf te = sz) (h0 : 0 < sz) (bk : α → Nat) (E : α → List Value → Prop)
  (one : ∀ {m : Nat} {cs : List Value} {y : DataW H × List MemPlace}, DataW.trod enc Tryd.prog w base spare held m te cs = some y → Rows.uptoBulk y.1 ≤ 1048576 → cs.length = sz → ∃ x : α, E x cs ∧ bk x ≤ Rows.uptoBulk y.1)
  {fuel : Nat} {v : Value} {x : DataW H × List MemPlace} (hf : DataW.trod enc Tryd.prog w base spare held fuel ty [v] = some x) (hwt : Rows.uptoBulk x.1 ≤ 1048576) :
  ∃ (ao : Option Addr) (cap : Nat) (L : List α), v = .slice ao L.length cap ∧ (L.map bk).sum ≤ Rows.uptoBulk x.1 ∧ ∀ (i : Nat) (a : α), L[i]? = some a → ∃ b off cs, ao = some ⟨b, off, none⟩ ∧ b < w.heap.size ∧ cs.length = sz ∧ w.rangeAt b (off + i * sz) cs ∧ E a cs := by
 rcases DataW.trod_slice hty hf with ⟨hcs, _⟩ | ⟨a, len, cap, elems, rest, n, _, hcs, hx, hb, hl, hm, hlen, hel, -, -⟩
 ·simp at hcs
  subst hcs
  exact ⟨none, 0, [], rfl, Nat.zero_le _, fun i s h => by simp at h⟩
 ·simp at hcs
  subst hcs
  have hx' := congrArg Prod.fst hx
  dsimp only at hx'
  rw [hx'] at hwt ⊢
  simp only [Rows.uptoBulk] at hwt ⊢
  have le_all : ∀ (k : Nat), Rows.uptoBulkAll ((elems.take k).map (·.1)) ≤ Rows.uptoBulkAll (elems.map (·.1)) := by
   intro k
   have : elems.map (·.1) = (elems.take k).map (·.1) ++ (elems.drop k).map (·.1) := by rw [← List.map_append, List.take_append_drop]
   rw [this]
   generalize (elems.take k).map (·.1) = A
   induction A with
   | nil => exact Nat.zero_le _
   | cons p A ih => simp only [List.cons_append, Rows.uptoBulkAll]; omega
  have key : ∀ k, k ≤ elems.length → ∃ L : List α, L.length = k ∧ (L.map bk).sum ≤ Rows.uptoBulkAll ((elems.take k).map (·.1)) ∧ ∀ (i : Nat) (x : α), L[i]? = some x → ∃ cs, w.cells? base (a.add (i * sz)) sz = some cs ∧ E x cs := by
   intro k
   induction k with
   | zero => exact fun _ => ⟨[], rfl, by simp, fun i o h => by simp at h⟩
   | succ k ih =>
    intro hk
    obtain ⟨L, hL, hbl, hall⟩ := ih (by omega)
    have h := hel k (by omega)
    rw [hsz, List.getElem?_eq_getElem (by omega), Option.bind_eq_some_iff] at h
    obtain ⟨cs, h1, h2⟩ := h
    have hsn : Rows.uptoBulkAll ((elems.take (k + 1)).map (·.1)) = Rows.uptoBulkAll ((elems.take k).map (·.1)) + Rows.uptoBulk (elems[k]'(by omega)).1 := by
     rw [List.take_add_one, List.getElem?_eq_getElem (by omega), Option.toList_some, List.map_append, List.map_cons, List.map_nil, bulk_snoc]
    have hle := le_all (k + 1)
    obtain ⟨x, hx1, hx2⟩ := one h2 (by omega) (World.cells?_some h1).2.1
    refine ⟨L ++ [x], by simp [hL], by rw [hsn, List.map_append, List.sum_append, List.map_cons, List.map_nil, List.sum_cons, List.sum_nil]; omega, fun i o' h => ?_⟩
    by_cases hi : i < k
    ·rw [List.getElem?_append_left (by omega)] at h
     exact hall i o' h
    ·have hi2 := (List.getElem?_eq_some_iff.1 h).1
     rw [List.length_append, List.length_cons, List.length_nil] at hi2
     obtain rfl : i = k := by omega
     rw [List.getElem?_append_right (by omega), hL] at h
     simp at h
     subst h
     exact ⟨cs, h1, hx1⟩
  obtain ⟨L, hL, hbl, hall⟩ := key elems.length (Nat.le_refl _)
  rw [List.take_length] at hbl
  refine ⟨some a, cap, L, by rw [hL, hlen], by omega, fun i s hi => ?_⟩
  obtain ⟨cs, hcs, hE⟩ := hall i s hi
  have hc := World.cells?_some hcs
  obtain ⟨b, off, spot⟩ := a
  have hspot : spot = none := by
   have hi2 := (List.getElem?_eq_some_iff.1 hi).1
   obtain ⟨o0, ho0⟩ : ∃ o0, L[0]? = some o0 := ⟨_, List.getElem?_eq_getElem (by omega)⟩
   obtain ⟨cs0, h00, -⟩ := hall 0 o0 ho0
   have hc0 := World.cells?_some h00
   obtain ⟨y0, hy0⟩ : ∃ y, cs0[0]? = some y := ⟨_, List.getElem?_eq_getElem (by rw [hc0.2.1]; exact h0)⟩
   have := World.cell?_spot ((hc0.2.2 0 h0).trans hy0)
   simpa [Addr.add] using this
  subst hspot
  have e : ∀ j, ((⟨b, off, none⟩ : Addr).add (i * sz)).add j = ⟨b, off + i * sz + j, none⟩ := by
   intro j
   by_cases h : i * sz = 0 <;> by_cases h' : j = 0 <;> simp [Addr.add, h, h']
  have hcell : ∀ j, j < sz → w.cell? ⟨b, off + i * sz + j, none⟩ = cs[j]? := fun j hj => by
   have h2 := hc.2.2 j hj
   rw [e] at h2
   exact h2
  obtain ⟨y0, hy0⟩ : ∃ y, cs[0]? = some y := ⟨_, List.getElem?_eq_getElem (by rw [hc.2.1]; exact h0)⟩
  refine ⟨b, off, cs, rfl, cell_ltT ((hcell 0 h0).trans hy0), hc.2.1, fun j y hj => ?_, hE⟩
  have hj3 : j < sz := by have := (List.getElem?_eq_some_iff.1 hj).1; rw [hc.2.1] at this; exact this
  exact (hcell j hj3).trans hj
theorem i64_wf {x : Int} (h : (Lit.int .i64 x).wf = true) : i64B x := by
 have := wf_i64 h
 unfold i64B
 omega
/-- Steps that come in. -/
theorem open_stpsZ {fuel : Nat} {v : Value} {x : DataW H × List MemPlace} (hf : DataW.trod enc Tryd.prog w base spare held fuel 45 [v] = some x) (hwt : Rows.uptoBulk x.1 ≤ 1048576) :
  ∃ (ao : Option Addr) (cap : Nat) (L : List Stp), v = .slice ao L.length cap ∧ (L.map fun s => s.name.size + 4).sum ≤ Rows.uptoBulk x.1 ∧ stpB L ∧ StepsAt w ao L := by
 obtain ⟨ao, cap, L, e, hs, hall⟩ := open_listG (α := Stp) (te := 53) (sz := 3) Tryd.underlying45 cellsSp (by decide) (fun s => s.name.size + 4) (fun s cs => cs = [.int .i64 s.kind, .string s.name, .int .i64 s.place] ∧ i64B s.kind ∧ i64B s.place) (fun {m cs y} h _ hl => by
  obtain ⟨c0, c1, c2, rfl⟩ : ∃ c0 c1 c2, cs = [c0, c1, c2] := by
   match cs, hl with
   | [a, b, c], _ => exact ⟨a, b, c, rfl⟩
  obtain ⟨k, nm, p, he, ⟨hw0, hw2⟩, hy⟩ := trod_step h
  refine ⟨⟨k, nm, p⟩, ⟨he, i64_wf hw0, i64_wf hw2⟩, ?_⟩
  rw [hy]
  simp only [Rows.uptoBulk, Rows.uptoBulkAll, Array.length_toList]
  have : nm.data.size = nm.size := rfl
  omega) hf hwt
 refine ⟨ao, cap, L, e, hs, fun s hs' => ?_, fun i s hi => ?_⟩
 ·obtain ⟨i, hi, e⟩ := List.mem_iff_getElem.1 hs'
  obtain ⟨b, off, cs, -, -, -, -, -, h4, h5⟩ := hall i s (by rw [List.getElem?_eq_getElem hi, e])
  exact ⟨h4, h5⟩
 ·obtain ⟨b, off, cs, h1, h2, -, h3, rfl, -, -⟩ := hall i s hi
  have h4 := sum_get (fun s : Stp => s.name.size + 4) hi
  refine ⟨by unfold capT; omega, b, off, h1, h2, h3⟩
theorem cellsSs22 : Tryd.prog.cellsOf 45 = 1 := by kernel_rfl
end
end Go.Proofs.YtbabdhepnjacdaaDoor
