/-
 Tries and what Go is asked, as they come in; the law TrieGoes, walked.
-/
import Derived.Test.YtbabdhepnjacdaaDoorTiL
import Derived.BigQuiet
namespace Go.Proofs.YtbabdhepnjacdaaDoor
open Go.ChangeShapes Go.WideShapes Go.ChangeAt Go.RowKit Go.Shelf
set_option maxRecDepth 100000
/-- What Go is asked. -/
structure AskZ where
 node : Int
 name : ByteArray
 place : Int
 obj : Bool
def AsksAt (w : World) (ao : Option Addr) (L : List AskZ) : Prop := ∀ (i : Nat) (x : AskZ), L[i]? = some x → ∃ b off, ao = some ⟨b, off, none⟩ ∧ b < w.heap.size ∧ w.rangeAt b (off + i * 4) [.int .i64 x.node, .string x.name, .int .i64 x.place, .bool x.obj]
theorem AsksAt.kept {w w' : World} {ao : Option Addr} {L : List AskZ} (h : AsksAt w ao L) (hb : Below w.heap.size w w') : AsksAt w' ao L := fun i x hi => by
 obtain ⟨b, off, h1, h2, h3⟩ := h i x hi
 exact ⟨b, off, h1, Nat.lt_of_lt_of_le h2 hb.size, range_kept h3 hb⟩
theorem cellsAk : Tryd.prog.cellsOf 41 = 4 := by kernel_rfl
section
variable {H : Type} {enc : TypeId × Value → H} {w : World} {base : Nat} {spare : Nat → Bool} {held : Bool}
theorem open_asksU {r : Reach} {b0 : Nat} {v : Value} {d : DataW H} {ps : List MemPlace} (hval : Value.okWide Tryd.prog w r b0 35 v) (hd : DataW.Trod enc Tryd.prog w base spare held 35 v d ps) (hwt : Rows.uptoBulk d ≤ 1048576) :
  ∃ (ao : Option Addr) (cap : Nat) (L : List AskZ), v = .slice ao L.length cap ∧ L.length ≤ 1048576 ∧ AsksAt w ao L := by
 obtain ⟨ao, len, cap, rfl⟩ := okWide_slice Tryd.underlying35 hval
 obtain ⟨fuel, hf⟩ := hd
 have hf' : DataW.trod enc Tryd.prog w base spare held fuel 35 [.slice ao len cap] = some (d, ps) := by simpa [Value.cells] using hf
 obtain ⟨ao, cap, L, e, hs, hall⟩ := open_listG (α := AskZ) (te := 41) (sz := 4) Tryd.underlying35 cellsAk (by decide) (fun _ => 1) (fun x cs => cs = [.int .i64 x.node, .string x.name, .int .i64 x.place, .bool x.obj]) (fun {m cs y} h _ hl => by
  obtain ⟨c0, c1, c2, c3, rfl⟩ : ∃ c0 c1 c2 c3, cs = [c0, c1, c2, c3] := by
   match cs, hl with
   | [a, b, c, d], _ => exact ⟨a, b, c, d, rfl⟩
  obtain ⟨y0, y1, y2, y3, m', hl, hx, h0, h1, h2, h3⟩ := trod_four Tryd.underlying41 h
  have e0 : ((([c0, c1, c2, c3] : List Value).drop 0).take (Tryd.prog.cellsOf 3)) = [c0] := by rw [cellsSi]; rfl
  have e1 : ((([c0, c1, c2, c3] : List Value).drop 1).take (Tryd.prog.cellsOf 9)) = [c1] := by rw [cellsSs]; rfl
  have e2 : ((([c0, c1, c2, c3] : List Value).drop 2).take (Tryd.prog.cellsOf 3)) = [c2] := by rw [cellsSi]; rfl
  have e3 : ((([c0, c1, c2, c3] : List Value).drop 3).take (Tryd.prog.cellsOf 4)) = [c3] := by rw [cellsSb]; rfl
  have h0' : DataW.trod enc Tryd.prog w base spare held m' 3 [c0] = some y0 := by rw [← e0]; exact h0
  have h1' : DataW.trod enc Tryd.prog w base spare held m' 9 [c1] = some y1 := by rw [← e1]; exact h1
  have h2' : DataW.trod enc Tryd.prog w base spare held m' 3 [c2] = some y2 := by rw [← e2]; exact h2
  have h3' : DataW.trod enc Tryd.prog w base spare held m' 4 [c3] = some y3 := by rw [← e3]; exact h3
  obtain ⟨k, hk, -⟩ := DataW.trod_int Tryd.underlying3 h0'
  obtain ⟨nm, hn, -⟩ := DataW.trod_string Tryd.underlying9 h1'
  obtain ⟨pl, hp, -⟩ := DataW.trod_int Tryd.underlying3 h2'
  obtain ⟨ob, hb, -⟩ := DataW.trod_bool Tryd.underlying4 h3'
  simp at hk hn hp hb
  refine ⟨⟨k, nm, pl, ob⟩, by rw [hk, hn, hp, hb], ?_⟩
  rw [hx]
  simp only [Rows.uptoBulk]
  omega) hf' hwt
 refine ⟨ao, cap, L, e, Nat.le_trans (Nat.le_trans (sum_len (fun _ : AskZ => 1) (fun _ => Nat.le_refl _) L) hs) hwt, fun i x hi => ?_⟩
 obtain ⟨b, off, cs, h1, h2, -, h3, rfl⟩ := hall i x hi
 exact ⟨b, off, h1, h2, h3⟩
end
end Go.Proofs.YtbabdhepnjacdaaDoor
