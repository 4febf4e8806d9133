import Derived.Test.YtongedjlmohogaaGreatDoorPack8
import Derived.Test.YtongedjlmohogaaGreatDoorPack21
import Derived.Maps.OwnSet
namespace Go.Proofs.YtongedjlmohogaaGreatDoor
open Go.RowKit Go.Shelf Go.Maps Go.ChangeMaps Go.WideShapes
open Classical in
noncomputable def addB (acc:List ByteArray) (x:ByteArray):List ByteArray:=if x ∈ acc then acc else acc++[x]
noncomputable def nubB (ks:List ByteArray):List ByteArray:=ks.foldl addB []
theorem nubB_snoc (ks:List ByteArray) (x:ByteArray):nubB (ks++[x])=addB (nubB ks) x:=by simp [nubB,List.foldl_append]
theorem mem_addB (acc:List ByteArray) (x y:ByteArray):y ∈ addB acc x ↔ y ∈ acc∨y=x:=by
 unfold addB
 split
 ·rename_i h
  constructor
  ·exact .inl
  ·rintro (h1 | rfl)
   ·exact h1
   ·exact h
 ·simp
theorem mem_foldB (ks:List ByteArray):∀ (acc:List ByteArray) (y:ByteArray),y ∈ ks.foldl addB acc ↔ y ∈ acc∨y ∈ ks:=by
 induction ks with
 | nil=>simp
 | cons x ks ih =>
  intro acc y
  rw [List.foldl_cons,ih,mem_addB]
  simp only [List.mem_cons]
  constructor
  ·rintro ((h | h) | h)
   ·exact .inl h
   ·exact .inr (.inl h)
   ·exact .inr (.inr h)
  ·rintro (h | h | h)
   ·exact .inl (.inl h)
   ·exact .inl (.inr h)
   ·exact .inr h
theorem mem_nubB (ks:List ByteArray) (y:ByteArray):y ∈ nubB ks ↔ y ∈ ks:=by
 unfold nubB
 rw [mem_foldB]
 simp
def keyL (s:ByteArray):Lit:=.string s.data.toList
theorem keyL_inj {a b:ByteArray} (h:keyL a=keyL b):a=b:=by
 unfold keyL at h
 injection h with h
 cases a;cases b
 simpa using h
structure FstD (D:DataW Unit) (ks:List ByteArray):Prop where
 td:Tidy D
 sz:Maps.size D=(nubB ks).length
 yes:∀ nm:ByteArray,nm ∈ ks→Maps.has D (keyL nm)=true∧∃ i:Nat,IsFst ks nm (i:Int)∧D.atKey (keyL nm) (.lit (.int .i64 0)) = .lit (.int .i64 (i:Int))
 no:∀ nm:ByteArray,nm ∉ ks→Maps.has D (keyL nm)=false
theorem fst_snoc {ks:List ByteArray} {nm x:ByteArray} {i:Nat} (h:IsFst ks nm (i:Int)):IsFst (ks++[x]) nm (i:Int):=by
 rcases h with ⟨h,_⟩ | ⟨j,h1,h2,h3⟩
 ·omega
 ·have hj:=(List.getElem?_eq_some_iff.1 h2).1
  refine .inr ⟨j,h1,by rw [List.getElem?_append_left hj];exact h2,fun q hq=>by rw [List.getElem?_append_left (by omega)];exact h3 q hq⟩
theorem fst_new {ks:List ByteArray} {nm:ByteArray} (h:nm ∉ ks):IsFst (ks++[nm]) nm ((ks.length:Nat):Int) :=
 .inr ⟨ks.length,rfl,by simp,fun q hq=>by
  rw [List.getElem?_append_left hq]
  exact fun e=>h (List.mem_of_getElem? e)⟩
theorem FstD.skip {D:DataW Unit} {ks:List ByteArray} (h:FstD D ks) {x:ByteArray} (hx:Maps.has D (keyL x)=true):FstD D (ks++[x]):=by
 have hm:x ∈ ks:=by
  by_cases hm:x ∈ ks
  ·exact hm
  ·rw [h.no x hm] at hx;cases hx
 refine ⟨h.td,?_,fun nm hn=>?_,fun nm hn=>h.no nm (fun h1=>hn (by simp [h1]))⟩
 ·rw [nubB_snoc,addB,if_pos ((mem_nubB ks x).2 hm)]
  exact h.sz
 ·have hn':nm ∈ ks:=by
   rcases List.mem_append.1 hn with h1 | h1
   ·exact h1
   ·rw [List.mem_singleton.1 h1];exact hm
  obtain ⟨h1,i,h2,h3⟩:=h.yes nm hn'
  exact ⟨h1,i,fst_snoc h2,h3⟩
theorem FstD.put {D:DataW Unit} {ks:List ByteArray} (h:FstD D ks) {x:ByteArray} (hx:Maps.has D (keyL x)=false):FstD (D.put (keyL x) (.lit (.int .i64 ((ks.length:Nat):Int)))) (ks++[x]):=by
 have hm:x ∉ ks:=fun hm=>by rw [(h.yes x hm).1] at hx;cases hx
 have hkl:WideAt.IsKeyLit (keyL x):=trivial
 refine ⟨h.td.put hkl _,?_,fun nm hn=>?_,fun nm hn=>?_⟩
 ·rw [nubB_snoc,addB,if_neg (fun h1=>hm ((mem_nubB ks x).1 h1)),Maps.size_put h.td,hx,List.length_append,h.sz]
  rfl
 ·by_cases e:nm=x
  ·subst e
   exact ⟨Maps.has_put_same h.td.isMap hkl _,ks.length,fst_new hm,Maps.atKey_put_same h.td.isMap hkl _ _⟩
  ·have hn':nm ∈ ks:=by
    rcases List.mem_append.1 hn with h1 | h1
    ·exact h1
    ·exact absurd (List.mem_singleton.1 h1) e
   have hne:keyL nm≠keyL x:=fun h1=>e (keyL_inj h1)
   obtain ⟨h1,i,h2,h3⟩:=h.yes nm hn'
   exact ⟨by rw [Maps.has_put_other hne];exact h1,i,fst_snoc h2,by rw [Maps.atKey_put_other hne];exact h3⟩
 ·have hne:keyL nm≠keyL x:=fun h1=>hn (by rw [keyL_inj h1];simp)
  rw [Maps.has_put_other hne]
  exact h.no nm (fun h1=>hn (by simp [h1]))
def FstM (w:World) (B n:Nat) (ks:List ByteArray):Prop:=∃ D:DataW Unit,w.ownsMap Tryz.prog 9 (plainElem Tryz.prog 3) B n D∧FstD D ks
theorem FstM.lt {w:World} {B n:Nat} {ks:List ByteArray} (h:FstM w B n ks):B<w.heap.size:=by
 obtain ⟨D,h,_⟩:=h
 exact h.lt
theorem FstM.kept {w w':World} {B n:Nat} {ks:List ByteArray} (h:FstM w B n ks) (hb:Below w.heap.size w w'):FstM w' B n ks:=by
 have hl:=h.lt
 obtain ⟨D,⟨es,clock,h1,h2⟩,h3⟩:=h
 exact ⟨D,⟨es,clock,(hb.block B hl).trans h1,h2⟩,h3⟩
theorem lawS:Keyed Tryz.prog 9:=string_keyed Tryz.underlying9
theorem keyS {s:ByteArray} (h:s.size≤capT):keyOf Tryz.prog 9 (.string s)=some (keyL s):=Go.WideMaps.keyOf_string_mk Tryz.underlying9 (by unfold capT at h;unfold maxLen;omega)
end Go.Proofs.YtongedjlmohogaaGreatDoor
