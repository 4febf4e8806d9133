/-
  A row of bits that comes in by value; lists of words.
-/
import Derived.Test.YtlckhiflhnlgpabGreatDoorKit
import Derived.ChangeSlices
import Derived.ChangeSame
import Derived.SizedLaws
namespace Go.Proofs.YtlckhiflhnlgpabGreatDoor
open Go.ChangeShapes Go.WideShapes Go.ChangeAt Go.RowKit
set_option maxRecDepth 100000

/-- The slice's cells hold these words. -/
def Wds (w : World) (ao : Option Addr) (k : Nat) (X : Nat → Nat) : Prop :=
  ∀ j, j < k → X j < 18446744073709551616 ∧ ∃ g off, ao = some ⟨g, off, none⟩ ∧ w.cell? ⟨g, off + j, none⟩ = some (.int .u64 ((X j : Nat) : Int))
/-- The slice's cells hold these numbers. -/
def Nums (w : World) (ao : Option Addr) (k : Nat) (Z : Nat → Int) : Prop :=
  ∀ j, j < k → (Lit.int .i64 (Z j)).wf = true ∧ ∃ g off, ao = some ⟨g, off, none⟩ ∧ w.cell? ⟨g, off + j, none⟩ = some (.int .i64 (Z j))

theorem cell_block {w : World} {a : Addr} {v : Value} (h : w.cell? a = some v) : a.block < w.heap.size := by
  unfold World.cell? at h
  cases ho : w.heap[a.block]? with
  | none => simp [ho] at h
  | some o => exact (Array.getElem?_eq_some_iff.1 ho).1
theorem Wds.kept {w w' : World} {ao : Option Addr} {k : Nat} {X : Nat → Nat} (h : Wds w ao k X) (hb : Below w.heap.size w w') : Wds w' ao k X := fun j hj => by
  obtain ⟨h1, g, off, h2, h3⟩ := h j hj
  exact ⟨h1, g, off, h2, (hb.cell (p := ⟨g, off + j, none⟩) (cell_block h3)).trans h3⟩
theorem Nums.kept {w w' : World} {ao : Option Addr} {k : Nat} {Z : Nat → Int} (h : Nums w ao k Z) (hb : Below w.heap.size w w') : Nums w' ao k Z := fun j hj => by
  obtain ⟨h1, g, off, h2, h3⟩ := h j hj
  exact ⟨h1, g, off, h2, (hb.cell (p := ⟨g, off + j, none⟩) (cell_block h3)).trans h3⟩
theorem Wds.le {w : World} {ao : Option Addr} {k k' : Nat} {X : Nat → Nat} (h : Wds w ao k X) (hk : k' ≤ k) : Wds w ao k' X := fun j hj => h j (by omega)

section
variable {H : Type} {enc : TypeId × Value → H} {P : Program} {w : World} {base : Nat} {spare : Nat → Bool} {held : Bool}
/-- What the datum of a slice tells of its length. -/
def Long (d : DataW H) (k : Nat) : Prop := k = 0 ∨ ∃ elems spare, d = .slice elems spare ∧ elems.length = k

theorem ints_slice {t e : TypeId} {k : IntKind} {fuel : Nat} {v : Value} {x : DataW H × List MemPlace} (ht : P.underlying t = some (.slice e)) (he : P.underlying e = some (.int k)) (hc : P.cellsOf e = 1)
    (h : DataW.trod enc P w base spare held fuel t [v] = some x) :
    ∃ (ao : Option Addr) (len cap : Nat) (Z : Nat → Int), v = .slice ao len cap ∧ len ≤ cap ∧ cap ≤ maxLen ∧ Long x.1 len ∧
      ∀ j, j < len → (Lit.int k (Z j)).wf = true ∧ ∃ g off, ao = some ⟨g, off, none⟩ ∧ w.cell? ⟨g, off + j, none⟩ = some (.int k (Z j)) := by
  rcases open_ints ht he hc h with ⟨hcs, _⟩ | ⟨a, len, cap, zs, hcs, _, hl, hm, hz, hx, hcell, hwz⟩
  · simp at hcs
    subst hcs
    exact ⟨none, 0, 0, fun _ => 0, rfl, Nat.le_refl _, Nat.zero_le _, .inl rfl, fun j hj => by omega⟩
  · simp at hcs
    subst hcs
    have hlz : len ≤ zs.length := by rw [hz]; split <;> omega
    refine ⟨some a, len, cap, fun j => zs.getD j 0, rfl, hl, hm, .inr ⟨_, _, by rw [hx], by simp [lits]; omega⟩, fun i hi => ?_⟩
    obtain ⟨b, off, spot⟩ := a
    have hspot : spot = none := by simpa [Addr.add] using World.cell?_spot (hcell 0 (by omega))
    subst hspot
    have hci := hcell i (by omega)
    have e : (⟨b, off, none⟩ : Addr).add i = ⟨b, off + i, none⟩ := by by_cases h : i = 0 <;> simp [Addr.add, h]
    rw [e] at hci
    refine ⟨hwz _ ?_, b, off, rfl, hci⟩
    show zs.getD i 0 ∈ zs
    rw [show zs.getD i 0 = zs[i]'(by omega) by simp [List.getD, show i < zs.length by omega]]
    exact List.getElem_mem _
end

section
variable {H : Type} {enc : TypeId × Value → H} {w : World} {base : Nat} {spare : Nat → Bool} {held : Bool}
theorem cellsBits : Tryz.prog.cellsOf 70 = 2 := by kernel_rfl
theorem cellsSl : Tryz.prog.cellsOf 54 = 1 := by kernel_rfl
theorem cellsW : Tryz.prog.cellsOf 41 = 1 := by kernel_rfl
theorem cellsI : Tryz.prog.cellsOf 3 = 1 := by kernel_rfl
theorem okWide_strct {P : Program} {r : Reach} {b0 : Nat} {t : TypeId} {v : Value} {fs : Array Field} (ht : P.underlying t = some (.struct fs)) (h : Value.okWide P w r b0 t v) : ∃ cs, v = .agg cs ∧ cs.size = P.cellsOf t := by
  simp only [Value.okWide, ht] at h
  obtain ⟨cs, h1, h2, _⟩ := h
  exact ⟨cs, h1, h2⟩

set_option maxRecDepth 100000 in
/-- A row of bits by value. -/
theorem open_bits {r : Reach} {b0 : Nat} {v : Value} {d : DataW H} {ps : List MemPlace} (hval : Value.okWide Tryz.prog w r b0 70 v) (hd : DataW.Trod enc Tryz.prog w base spare held 70 v d ps) :
    ∃ (n : Int) (ao : Option Addr) (k cap : Nat) (X : Nat → Nat) (d1 : DataW H), v = .agg #[.int .i64 n, .slice ao k cap] ∧ (Lit.int .i64 n).wf = true ∧ k ≤ maxLen ∧ d = .agg [.lit (.int .i64 n), d1] ∧ Long d1 k ∧ Wds w ao k X := by
  obtain ⟨cs, rfl, hs⟩ := okWide_strct Tryz.underlying70 hval
  obtain ⟨fuel, hf⟩ := hd
  obtain ⟨y0, y1, m, hx, hl, h0, h1⟩ := trod_struct2 Tryz.underlying70 hf
  rw [cellsBits] at hs hl
  obtain ⟨c0, c1, rfl⟩ : ∃ c0 c1, cs = #[c0, c1] := by
    obtain ⟨l⟩ := cs
    match l, hs with
    | [c0, c1], _ => exact ⟨c0, c1, rfl⟩
  have e0 : (((Value.agg #[c0, c1]).cells.toList.drop 0).take (Tryz.prog.cellsOf 3)) = [c0] := by rw [cellsI]; rfl
  have e1 : (((Value.agg #[c0, c1]).cells.toList.drop 1).take (Tryz.prog.cellsOf 54)) = [c1] := by rw [cellsSl]; rfl
  have h0' : DataW.trod enc Tryz.prog w base spare held m 3 [c0] = some y0 := by rw [← e0]; exact h0
  have h1' : DataW.trod enc Tryz.prog w base spare held m 54 [c1] = some y1 := by rw [← e1]; exact h1
  obtain ⟨n, hn, hd0, hw⟩ := DataW.trod_int Tryz.underlying3 h0'
  obtain ⟨ao, len, cap, Z, rfl, hlc, hm, hlong, hz⟩ := ints_slice Tryz.underlying54 Tryz.underlying41 cellsW h1'
  simp at hn
  subst hn
  refine ⟨n, ao, len, cap, fun j => (Z j).toNat, y1.1, rfl, hw, by omega, ?_, hlong, fun j hj => ?_⟩
  · have := congrArg Prod.fst hx
    simp only at this
    rw [this, hd0]
  · obtain ⟨hw1, g, off, h3, h4⟩ := hz j hj
    obtain ⟨b0, b1⟩ := wf_u64 hw1
    have e : ((Z j).toNat : Int) = Z j := by omega
    refine ⟨show (Z j).toNat < _ by omega, g, off, h3, ?_⟩
    show _ = some (Value.int .u64 (((Z j).toNat : Nat) : Int))
    rw [e]
    exact h4
/-- A list of numbers. -/
theorem open_nums {r : Reach} {b0 : Nat} {v : Value} {d : DataW H} {ps : List MemPlace} (hval : Value.okWide Tryz.prog w r b0 28 v) (hd : DataW.Trod enc Tryz.prog w base spare held 28 v d ps) :
    ∃ (ao : Option Addr) (k cap : Nat) (Z : Nat → Int), v = .slice ao k cap ∧ k ≤ maxLen ∧ Long d k ∧ Nums w ao k Z := by
  obtain ⟨ao, len, cap, rfl⟩ := okWide_slice Tryz.underlying28 hval
  obtain ⟨fuel, hf⟩ := hd
  obtain ⟨ao', len', cap', Z, he, hlc, hm, hlong, hz⟩ := ints_slice Tryz.underlying28 Tryz.underlying3 cellsI hf
  cases he
  exact ⟨ao, len, cap, Z, rfl, by omega, hlong, hz⟩

/-- What the row's own reach pays. -/
theorem sized_bits {ts : List TypeId} {ds : List (DataW H)} (h : (DataW.weightsEach Tryz.prog ts ds).all (· ≤ reachBytes) = true) {j : Nat} {n : Int} {k : Nat} {d1 : DataW H} (ht : ts[j]? = some 70) (hd : ds[j]? = some (.agg [.lit (.int .i64 n), d1])) (hk : Long d1 k) : k * 8 ≤ 140737488351232 := by
  rcases hk with rfl | ⟨el, sp, rfl, rfl⟩
  · simp
  · have hb : Tryz.prog.bytesOf 41 = 8 := by kernel_rfl
    have hm : (el.length + sp.length) * Tryz.prog.bytesOf 41 ∈ DataW.weights Tryz.prog 70 (DataW.agg (H := H) [.lit (.int .i64 n), .slice el sp]) := by
      simp [DataW.weights, DataW.weightsEach, Tryz.underlying70, Tryz.underlying54]
    have := List.all_eq_true.1 h _ (DataW.weights_mem_each ht hd _ hm)
    rw [hb] at this
    have h2 : (el.length + sp.length) * 8 ≤ reachBytes := by simpa using this
    unfold reachBytes at h2
    omega
theorem sized_nums {ts : List TypeId} {ds : List (DataW H)} (h : (DataW.weightsEach Tryz.prog ts ds).all (· ≤ reachBytes) = true) {j : Nat} {k : Nat} {d : DataW H} (ht : ts[j]? = some 28) (hd : ds[j]? = some d) (hk : Long d k) : k * 8 ≤ 140737488351232 := by
  rcases hk with rfl | ⟨el, sp, rfl, rfl⟩
  · simp
  · have hb : Tryz.prog.bytesOf 3 = 8 := by kernel_rfl
    have h2 := sized_slice h ht hd Tryz.underlying28
    rw [hb] at h2
    unfold reachBytes at h2
    omega
end
end Go.Proofs.YtlckhiflhnlgpabGreatDoor
