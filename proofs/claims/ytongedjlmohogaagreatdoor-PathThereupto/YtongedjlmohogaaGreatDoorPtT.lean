import Derived.Test.YtongedjlmohogaaGreatDoorPack21
import Derived.Test.YtongedjlmohogaaGreatDoorPack9
namespace Go.Proofs.YtongedjlmohogaaGreatDoor
open Go.RowKit Go.Shelf
theorem row1 {w:World} {b:Nat} {ty:TypeId} {c0 c1 c2 c3 c4 c5:Value} (h:At w b #[c0,c1,c2,c3,c4,c5] ty):RowAt w (some ⟨b,0,none⟩) 1 (fun _=>#[c0,c1,c2,c3,c4,c5]):=by
 intro i hi
 obtain rfl:i=0:=by omega
 refine ⟨rfl,b,0,rfl,h.lt,fun j hj=>?_⟩
 match j,hj with
 | 0,_=>exact h.cell 0
 | 1,_=>exact h.cell 1
 | 2,_=>exact h.cell 2
 | 3,_=>exact h.cell 3
 | 4,_=>exact h.cell 4
 | 5,_=>exact h.cell 5
theorem keys1 {w:World} {b:Nat} {ty:TypeId} {s0:ByteArray} (h:At w b #[.string s0] ty) (h0:s0.size≤capT):KeysAt w (some ⟨b,0,none⟩) [s0]:=by
 intro i s hi
 match i,hi with
 | 0,hi=>simp at hi;subst hi;exact ⟨h0,b,0,rfl,h.lt,h.cell 0⟩
 | i+1,hi=>simp at hi
end Go.Proofs.YtongedjlmohogaaGreatDoor
