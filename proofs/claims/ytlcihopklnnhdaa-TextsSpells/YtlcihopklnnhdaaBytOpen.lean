/-
  A row of bytes that comes in; what the second form's bound gives of it.
-/
import Derived.Test.YtlcihopklnnhdaaKitA
import Derived.Test.YtlcihopklnnhdaaRows
import Derived.ChangeSlices
import Derived.SizedLaws
namespace Go.Proofs.Ytlcihopklnnhdaa
open Go.ChangeShapes Go.WideShapes Go.ChangeAt Go.RowKit
set_option maxRecDepth 100000

/-- The cells of a row of bytes that came in. -/
def BytesOf (w : World) (ao : Option Addr) (xs : List Nat) : Prop := ∀ (i : Nat) (x : Nat), xs[i]? = some x → x < 256 ∧ ∃ b off, ao = some ⟨b, off, none⟩ ∧ b < w.heap.size ∧ w.cell? ⟨b, off + i, none⟩ = some (.int .u8 (x : Int))
theorem BytesOf.below {w W : World} {ao : Option Addr} {xs : List Nat} (h : BytesOf w ao xs) (hb : Below w.heap.size w W) : BytesOf W ao xs := fun i x hi => by
  obtain ⟨h0, b, off, h1, h2, h3⟩ := h i x hi
  exact ⟨h0, b, off, h1, by have := hb.size; omega, (hb.cell (p := ⟨b, off + i, none⟩) h2).trans h3⟩
theorem cell_ltB {w : World} {a : Addr} {v : Value} (h : w.cell? a = some v) : a.block < w.heap.size := by
  unfold World.cell? at h
  cases ho : w.heap[a.block]? with
  | none => simp [ho] at h
  | some o => exact (Array.getElem?_eq_some_iff.1 ho).1
theorem wf_byte {z : Int} (h : (Lit.int .u8 z).wf = true) : 0 ≤ z ∧ z < 256 := by
  have h2 : IntKind.u8.min ≤ z ∧ z ≤ IntKind.u8.max := by simpa [Lit.wf] using h
  have e1 : IntKind.u8.min = 0 := by decide
  have e2 : IntKind.u8.max = 255 := by decide
  omega
section
variable {H : Type} {enc : TypeId × Value → H} {P : Program} {w : World} {base : Nat} {spare : Nat → Bool} {held : Bool}
/-- What the datum tells. -/
def BytesD (d : DataW H) (xs : List Nat) : Prop := xs = [] ∨ ∃ el sp, d = .slice el sp ∧ el.length = xs.length
theorem open_u8s {r : Reach} {b0 : Nat} {t e : TypeId} {v : Value} {d : DataW H} {ps : List MemPlace} (ht : P.underlying t = some (.slice e)) (he : P.underlying e = some (.int .u8)) (hc : P.cellsOf e = 1)
    (hval : Value.okWide P w r b0 t v) (hd : DataW.Trod enc P w base spare held t v d ps) :
    ∃ (ao : Option Addr) (cap : Nat) (xs : List Nat), v = .slice ao xs.length cap ∧ BytesOf w ao xs ∧ BytesD d xs := by
  obtain ⟨ao, len, cap, rfl⟩ := okWide_slice ht hval
  obtain ⟨fuel, hf⟩ := hd
  rcases open_ints ht he hc hf with ⟨hcs, _⟩ | ⟨a, len', cap', zs, hcs, _, hl, hm, hz, hx, hcell, hwz⟩
  · simp [Value.cells] at hcs
    obtain ⟨rfl, rfl, rfl⟩ := hcs
    exact ⟨none, 0, [], rfl, fun i s h => by simp at h, .inl rfl⟩
  · simp [Value.cells] at hcs
    obtain ⟨rfl, rfl, rfl⟩ := hcs
    have hlz : len ≤ zs.length := by rw [hz]; split <;> omega
    have hl2 : ((zs.take len).map Int.toNat).length = len := by rw [List.length_map, List.length_take, Nat.min_eq_left hlz]
    refine ⟨some a, cap, (zs.take len).map Int.toNat, by rw [hl2], fun i x hi => ?_, .inr ⟨_, _, congrArg Prod.fst hx, by rw [hl2]; simp [lits, Nat.min_eq_left hlz]⟩⟩
    have hi2 := (List.getElem?_eq_some_iff.1 hi).1
    rw [hl2] at hi2
    obtain ⟨b, off, spot⟩ := a
    have hspot : spot = none := by simpa [Addr.add] using World.cell?_spot (hcell 0 (by omega))
    subst hspot
    have hci := hcell i (by omega)
    have e : (⟨b, off, none⟩ : Addr).add i = ⟨b, off + i, none⟩ := by by_cases h : i = 0 <;> simp [Addr.add, h]
    rw [List.getElem?_map, List.getElem?_take_of_lt hi2, List.getElem?_eq_getElem (by omega)] at hi
    have hi : (zs[i]'(by omega)).toNat = x := by simpa using hi
    rw [e, List.getD_eq_getElem?_getD, List.getElem?_eq_getElem (by omega)] at hci
    have hw := wf_byte (hwz _ (List.getElem_mem (by omega : i < zs.length)))
    have hxz : (x : Int) = zs[i]'(by omega) := by rw [← hi]; omega
    refine ⟨by omega, b, off, rfl, cell_ltB hci, ?_⟩
    rw [hxz]
    exact hci
end
theorem sized_u8s {H : Type} {ts : List TypeId} {ds : List (DataW H)} (h : (DataW.weightsEach Try.prog ts ds).all (· ≤ reachBytes) = true) {j : Nat} {xs : List Nat} {d : DataW H} (ht : ts[j]? = some 32) (hd : ds[j]? = some d) (hk : BytesD d xs) : xs.length ≤ 140737488351232 := by
  rcases hk with rfl | ⟨el, sp, rfl, hl⟩
  · simp
  · have hb : Try.prog.bytesOf 5 = 1 := by kernel_rfl
    have h2 := sized_slice h ht hd Try.underlying32
    rw [hb] at h2
    unfold reachBytes at h2
    omega
theorem bulk_len {H : Type} (el : List (DataW H)) : el.length ≤ Rows.uptoBulkAll el := by
  induction el with
  | nil => exact Nat.zero_le _
  | cons s r ih =>
    simp only [Rows.uptoBulkAll, List.length_cons]
    have : 1 ≤ Rows.uptoBulk s := by
      cases s with
      | lit l => cases l <;> simp only [Rows.uptoBulk] <;> omega
      | _ => simp only [Rows.uptoBulk]; omega
    omega
theorem bulk_u8s {H : Type} {d : DataW H} {xs : List Nat} (h : BytesD d xs) : xs.length ≤ Rows.uptoBulk d := by
  rcases h with rfl | ⟨el, sp, rfl, hl⟩
  · exact Nat.zero_le _
  · have := bulk_len el
    simp only [Rows.uptoBulk]
    omega
end Go.Proofs.Ytlcihopklnnhdaa
