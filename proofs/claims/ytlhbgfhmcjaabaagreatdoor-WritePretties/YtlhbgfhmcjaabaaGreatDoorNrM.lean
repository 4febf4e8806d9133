/-
 Normal forms: what write.normal answers, as trees.
-/
import Derived.Test.YtlhbgfhmcjaabaaGreatDoorPack3
import Derived.Test.YtlhbgfhmcjaabaaGreatDoorPack7
import Derived.Test.YtlhbgfhmcjaabaaGreatDoorTpF
namespace Go.Proofs.YtlhbgfhmcjaabaaGreatDoor
open Go.RowKit Go.Shelf
/-- A number's normal form. -/
def nrmN (r : ByteArray) : ByteArray := if (ofS r).2 = 111 then r else (txtR (if (ofS r).1.ds = [] then false else (ofS r).1.neg) ⟨(ofS r).1.ds.toArray⟩ (ofS r).1.ex).1
theorem txtR_size (n : Bool) (t : ByteArray) (x : Int) : (txtR n t x).1.size ≤ t.size + 30 := by
 unfold txtR
 split
 ·rename_i h
  have e : (txtB n t x).size = (txtB n t x).data.toList.length := Array.length_toList
  have e2 : t.data.toList.length = t.size := Array.length_toList
  show (txtB n t x).size ≤ _
  rw [e, txt_list]
  have hx : x = 0 ∨ (Lib.itoa x).length ≤ 20 := by
   by_cases h0 : t.size = 0
   ·unfold frmS at h
    rw [if_pos h0] at h
    exact .inl (by simpa using h)
   ·exact .inr (itoa_len x (frm_parts h h0).2.2.2)
  simp only [List.length_append, e2]
  have h1 : (if n then ([45] : List UInt8) else []).length ≤ 1 := by split <;> simp
  have h2 : (if t.size = 0 then ([48] : List UInt8) else []).length ≤ 1 := by split <;> simp
  have h3 : (if x = 0 then [] else 101 :: Lib.itoa x).length ≤ 21 := by
   split
   ·simp
   ·rw [List.length_cons]; omega
  omega
 ·show (0 : Nat) ≤ _
  omega
theorem nrmN_size (r : ByteArray) : (nrmN r).size ≤ 2 * r.size + 30 := by
 unfold nrmN
 split
 ·omega
 ·have h1 := txtR_size (if (ofS r).1.ds = [] then false else (ofS r).1.neg) ⟨(ofS r).1.ds.toArray⟩ (ofS r).1.ex
  have h2 := ds_size17 r
  omega
mutual
/-- A value's normal form; od: the places of the members that count. -/
def nrmV (od : List ByteArray → List Nat) : Vt → Vt
 | .mk k b r t ks vs => .mk k b (if k = 3 then nrmN r else ⟨#[]⟩) t (if k = 6 then (od ks).filterMap (ks[·]?) else []) (if k = 5 then nrmL od vs else if k = 6 then (od ks).filterMap ((nrmL od vs)[·]?) else [])
def nrmL (od : List ByteArray → List Nat) : List Vt → List Vt
 | [] => []
 | v :: vs => nrmV od v :: nrmL od vs
end
theorem nrmL_map (od : List ByteArray → List Nat) : ∀ vs : List Vt, nrmL od vs = vs.map (nrmV od)
 | [] => by simp [nrmL]
 | v :: vs => by simp [nrmL, nrmL_map od vs]
mutual
/-- No object is in it, and its numbers' texts are no longer than that. -/
def noO : Vt → Prop
 | .mk k _ r _ _ vs => k ≠ 6 ∧ r.size ≤ 4294967296 ∧ noOL vs
def noOL : List Vt → Prop
 | [] => True
 | v :: vs => noO v ∧ noOL vs
end
theorem noOL_get : ∀ {vs : List Vt} {i : Nat} {u : Vt}, noOL vs → vs[i]? = some u → noO u
 | [], i, u, _, h => by simp at h
 | v :: vs, i, u, hs, h => by
  unfold noOL at hs
  cases i with
  | zero => simp at h; subst h; exact hs.1
  | succ i => exact noOL_get hs.2 (by simpa using h)
end Go.Proofs.YtlhbgfhmcjaabaaGreatDoor
