/-
  Rows of bytes, and what string(..) makes of them.
-/
import Derived.Test.YtlcihopklnnhdaaUtf8State
import Derived.Test.YtlcihopklnnhdaaUtf8Forms
import Derived.Lib.AppendStr
import Derived.Lib.BufferRead
import Derived.Laws.IdiomStrings
import Derived.WalkKit
namespace Go.Proofs.Ytlcihopklnnhdaa
open Go.RowKit

/-- The text of these bytes. -/
def mkS (l : List Nat) : ByteArray := ⟨(l.map UInt8.ofNat).toArray⟩
theorem mkS_size (l : List Nat) : (mkS l).size = l.length := by show (l.map UInt8.ofNat).toArray.size = _; simp
theorem byts_mkS {l : List Nat} (h : ∀ x ∈ l, x < 256) : byts (mkS l) = l := by
  unfold byts mkS
  simp only [List.map_map]
  conv => rhs; rw [← List.map_id l]
  apply List.map_congr_left
  intro x hx
  have := h x hx
  simp [UInt8.toNat_ofNat']
  omega
theorem mkS_byts (s : ByteArray) : mkS (byts s) = s := by
  apply ByteArray.ext
  apply Array.toList_inj.1
  show ((byts s).map UInt8.ofNat) = s.data.toList
  unfold byts
  rw [List.map_map]
  conv => rhs; rw [← List.map_id s.data.toList]
  apply List.map_congr_left
  intro x _
  simp
theorem byts_inj {a b : ByteArray} (h : byts a = byts b) : a = b := by rw [← mkS_byts a, ← mkS_byts b, h]
theorem strCells_byts (s : ByteArray) : Lib.strCells s = (byts s).map fun (x : Nat) => Value.int .u8 (x : Int) := by
  unfold Lib.strCells byts
  rw [List.map_map]
  rfl
theorem strCells_mkS {l : List Nat} (h : ∀ x ∈ l, x < 256) : Lib.strCells (mkS l) = l.map fun (x : Nat) => Value.int .u8 (x : Int) := by rw [strCells_byts, byts_mkS h]
theorem strCells_append (a b : ByteArray) : Lib.strCells (a ++ b) = Lib.strCells a ++ Lib.strCells b := by rw [strCells_byts, strCells_byts, strCells_byts, byts_append, List.map_append]

/-- The text of a row of bytes. -/
theorem conv_row {w : World} {B : Nat} {v : Value} {S : ByteArray} (h : w.ownsRow B 5 1 v S.size (Lib.strCells S)) : (convert 32 9 v).run Try.prog w = .ok (.string S) w := by
  rcases h.2 with ⟨rfl, h0⟩ | ⟨g, cap, cur, rfl, hb, hgb, h3⟩
  · have e : S = ByteArray.empty := by
      apply byts_inj
      have h1 := byts_length S
      rw [h0] at h1
      rw [List.eq_nil_of_length_eq_zero h1]
      rfl
    rw [e]
    exact Lib.run_convert_nil_bytes w 32 9 5 0 Try.underlying32 Try.underlying5 Try.underlying9
  · have hl : S.size = S.data.toList.length := by rw [Array.length_toList]; rfl
    have hr := run_convert_bytes_back (P := Try.prog) w 32 9 5 ⟨g, 0, none⟩ cap S.data.toList Try.underlying32 Try.underlying5 Try.underlying9 (fun j hj => by
      exact h.cells (g := g) rfl j _ (by
        unfold Lib.strCells
        rw [List.getElem?_map, List.getElem?_eq_getElem hj]
        rfl))
    rw [← hl] at hr
    rw [hr]
theorem infoU8 : (Try.prog.info? 5).map (fun i => (i.zero, i.size, i.bytes)) = some (some (.int .u8 0), 1, 1) := by kernel_rfl

/-- The text of a character. -/
def formS (r : Int) : ByteArray := mkS (if r < 0 then [] else formL r.toNat)

end Go.Proofs.Ytlcihopklnnhdaa
