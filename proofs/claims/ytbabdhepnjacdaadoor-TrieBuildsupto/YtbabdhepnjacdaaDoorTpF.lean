/-
 Values in memory of their own; a row's copy by append.
-/
import Derived.Test.YtbabdhepnjacdaaDoorPack2
import Derived.Test.YtbabdhepnjacdaaDoorPack1
import Derived.Test.YtbabdhepnjacdaaDoorShelfF
import Derived.Deep.Upon
namespace Go.Proofs.YtbabdhepnjacdaaDoor
open Go.RowKit Go.Shelf
/-- A list of texts in memory, in a block of which S holds. -/
def KeysOn (S : Nat → Prop) (w : World) (ao : Option Addr) (ks : List ByteArray) : Prop := ∀ (i : Nat) (s : ByteArray), ks[i]? = some s → s.size ≤ capT ∧ ∃ b off, ao = some ⟨b, off, none⟩ ∧ S b ∧ b < w.heap.size ∧ w.cell? ⟨b, off + i, none⟩ = some (.string s)
def RowOn (S : Nat → Prop) (w : World) (ao : Option Addr) (n : Nat) (X : Nat → Array Value) : Prop := ∀ i, i < n → (X i).size = 6 ∧ ∃ b off, ao = some ⟨b, off, none⟩ ∧ S b ∧ b < w.heap.size ∧ ∀ j, j < 6 → w.cell? ⟨b, off + i * 6 + j, none⟩ = (X i)[j]?
/-- A value in memory, all its lists in blocks of which S holds. -/
inductive ValOn (S : Nat → Prop) (w : World) : Vt → Value → Prop
 | mk (k : Int) (b : Bool) (r t : ByteArray) (ks : List ByteArray) (vs : List Vt) (ko : Option Addr) (kc : Nat) (vo : Option Addr) (vc : Nat) (X : Nat → Array Value)
   (hw : (Lit.int .i64 k).wf = true) (hz : r.size ≤ capT ∧ t.size ≤ capT ∧ ks.length ≤ capT ∧ vs.length ≤ capT) (hk : KeysOn S w ko ks) (hr : RowOn S w vo vs.length X) (hv : ∀ (i : Nat) (u : Vt), vs[i]? = some u → ValOn S w u (.agg (X i))) :
   ValOn S w (.mk k b r t ks vs) (.agg #[.int .i64 k, .bool b, .string r, .string t, .slice ko ks.length kc, .slice vo vs.length vc])
theorem KeysOn.at {S : Nat → Prop} {w : World} {ao : Option Addr} {ks : List ByteArray} (h : KeysOn S w ao ks) : KeysAt w ao ks := fun i s hi => by
 obtain ⟨h0, b, off, h1, -, h2, h3⟩ := h i s hi
 exact ⟨h0, b, off, h1, h2, h3⟩
theorem RowOn.at {S : Nat → Prop} {w : World} {ao : Option Addr} {n : Nat} {X : Nat → Array Value} (h : RowOn S w ao n X) : RowAt w ao n X := fun i hi => by
 obtain ⟨h0, b, off, h1, -, h2, h3⟩ := h i hi
 exact ⟨h0, b, off, h1, h2, h3⟩
theorem ValOn.at {S : Nat → Prop} {w : World} {t : Vt} {v : Value} (h : ValOn S w t v) : ValAt w t v := by
 induction h with
 | mk k b r t ks vs ko kc vo vc X hw hz hk hr hv ih => exact .mk k b r t ks vs ko kc vo vc X hw hz hk.at hr.at ih
/-- Another world, in which these blocks are as they were. -/
def SameOn (S : Nat → Prop) (w w' : World) : Prop := w.heap.size ≤ w'.heap.size ∧ ∀ b, S b → b < w.heap.size → w'.heap[b]? = w.heap[b]?
theorem cell_same {w w' : World} {b o : Nat} (h : w'.heap[b]? = w.heap[b]?) : w'.cell? ⟨b, o, none⟩ = w.cell? ⟨b, o, none⟩ := World.cell?_of_block (w := w) h
theorem KeysOn.kept {S S' : Nat → Prop} {w w' : World} {ao : Option Addr} {ks : List ByteArray} (h : KeysOn S w ao ks) (hS : ∀ b, b < w.heap.size → S b → S' b) (hb : SameOn S w w') : KeysOn S' w' ao ks := fun i s hi => by
 obtain ⟨h0, b, off, h1, h4, h2, h3⟩ := h i s hi
 exact ⟨h0, b, off, h1, hS b h2 h4, Nat.lt_of_lt_of_le h2 hb.1, (cell_same (hb.2 b h4 h2)).trans h3⟩
theorem RowOn.kept {S S' : Nat → Prop} {w w' : World} {ao : Option Addr} {n : Nat} {X : Nat → Array Value} (h : RowOn S w ao n X) (hS : ∀ b, b < w.heap.size → S b → S' b) (hb : SameOn S w w') : RowOn S' w' ao n X := fun i hi => by
 obtain ⟨h0, b, off, h1, h4, h2, h3⟩ := h i hi
 exact ⟨h0, b, off, h1, hS b h2 h4, Nat.lt_of_lt_of_le h2 hb.1, fun j hj => (cell_same (hb.2 b h4 h2)).trans (h3 j hj)⟩
theorem ValOn.kept {S S' : Nat → Prop} {w w' : World} {t : Vt} {v : Value} (h : ValOn S w t v) (hS : ∀ b, b < w.heap.size → S b → S' b) (hb : SameOn S w w') : ValOn S' w' t v := by
 induction h with
 | mk k b r t ks vs ko kc vo vc X hw hz hk hr hv ih => exact .mk k b r t ks vs ko kc vo vc X hw hz (hk.kept hS hb) (hr.kept hS hb) ih
theorem SameOn.below {S : Nat → Prop} {w w' : World} (hb : Below w.heap.size w w') : SameOn S w w' := ⟨hb.size, fun b _ h => hb.block b h⟩
theorem ValOn.mono {S S' : Nat → Prop} {w : World} {t : Vt} {v : Value} (h : ValOn S w t v) (hS : ∀ b, b < w.heap.size → S b → S' b) : ValOn S' w t v := h.kept hS ⟨Nat.le_refl _, fun _ _ _ => rfl⟩
theorem ValOn.six {S : Nat → Prop} {w : World} {u : Vt} {v : Value} (h : ValOn S w u v) : ∃ ko kc vo vc, v = .agg #[.int .i64 u.kind, .bool u.b, .string u.raw, .string u.text, .slice ko u.keys.length kc, .slice vo u.kids.length vc] := by
 cases h with
 | mk k b r t ks vs ko kc vo vc X hw hz hk hr hv => exact ⟨ko, kc, vo, vc, rfl⟩
theorem cloneT_calls (s : ByteArray) (hs : s.size ≤ 281474976710656) (w : World) :
  Calls Tryd.prog 51 #[.string s] w fun e w' => e = .returned (.string s) ∧ Below w.heap.size w w' := by
 have hc := hid (show Calls Tryd.prog 60 #[.string s] w fun e w' => e = .returned (.string s) ∧ Below w.heap.size w w' from Any.stringslite_Clone Tryd.laysM316 s w hs)
 go_enter Tryd.func51, Tryd.ntmps51
 go_wp2_with fail
 refine Calls.mono hc.out ?_
 rintro e w1 ⟨rfl, hb⟩
 clear hc
 go_wp2
 go_ret
 exact ⟨rfl, hb⟩
end Go.Proofs.YtbabdhepnjacdaaDoor
