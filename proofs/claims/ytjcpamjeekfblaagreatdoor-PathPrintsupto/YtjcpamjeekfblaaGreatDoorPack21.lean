/-
  Texts of mine that others lean on, one behind the other.
-/
import Derived.Test.YtjcpamjeekfblaaGreatDoorPack4
import Derived.Test.YtjcpamjeekfblaaGreatDoorPack9
import Derived.Sort.Walk0
import Derived.Test.YtjcpamjeekfblaaGreatDoorPack5
import Derived.Deep.RegionHeld
import Derived.Test.YtjcpamjeekfblaaGreatDoorPack2
import Derived.Maps.OwnSet
import Derived.Test.YtjcpamjeekfblaaGreatDoorPack19
import Derived.Test.YtjcpamjeekfblaaGreatDoorPack20
import Derived.Maps.OwnIn
import Derived.Test.YtjcpamjeekfblaaGreatDoorPack1
import Derived.Test.YtjcpamjeekfblaaGreatDoorPack14
import Derived.Deep.DeepCutAuto
/- Places ordered by names: the order of texts,rows that rise,and how two are put together (mathematics alone). -/
namespace Go.Proofs.YtjcpamjeekfblaaGreatDoor
open Go.RowKit Go.Shelf
def ltS (a b:ByteArray):Bool:=Op.bytesLess a.toList b.toList
theorem bl_irrefl:∀ (x:List UInt8),Op.bytesLess x x=false
 | []=>by simp [Op.bytesLess]
 | a :: x=>by simp [Op.bytesLess,bl_irrefl x]
theorem bl_trans:∀ (x y z:List UInt8),Op.bytesLess x y=true→Op.bytesLess y z=true→Op.bytesLess x z=true
 | x,y,[],_,h=>by cases y <;> simp [Op.bytesLess] at h
 | [],y,c :: z,_,_=>by simp [Op.bytesLess]
 | a :: x,[],c :: z,h,_=>by simp [Op.bytesLess] at h
 | a :: x,b :: y,c :: z,h1,h2=>by
  simp only [Op.bytesLess,Bool.or_eq_true,Bool.and_eq_true,decide_eq_true_eq,beq_iff_eq] at h1 h2 ⊢
  rcases h1 with h1 | ⟨rfl,h1⟩ <;> rcases h2 with h2 | ⟨rfl,h2⟩
  ·exact .inl (UInt8.lt_trans h1 h2)
  ·exact .inl h1
  ·exact .inl h2
  ·exact .inr ⟨rfl,bl_trans x y z h1 h2⟩
def keyA (L:List ByteArray) (i:Nat):ByteArray:=L.getD i ByteArray.empty
theorem keyA_get {L:List ByteArray} {i:Nat} {k:ByteArray} (h:L[i]? = some k):keyA L i=k:=by unfold keyA;rw [List.getD_eq_getElem?_getD,h];rfl
def ltK (L:List ByteArray) (a b:Nat):Prop:=ltS (keyA L a) (keyA L b)=true∨(keyA L a=keyA L b∧a<b)
theorem ltK_irrefl (L:List ByteArray) (a:Nat):¬ ltK L a a:=fun h=>by
 rcases h with h | ⟨-,h⟩
 ·unfold ltS at h;rw [bl_irrefl] at h;cases h
 ·omega
theorem ltK_trans {L:List ByteArray} {a b c:Nat} (h1:ltK L a b) (h2:ltK L b c):ltK L a c:=by
 rcases h1 with h1 | ⟨e1,h1⟩ <;> rcases h2 with h2 | ⟨e2,h2⟩
 ·exact .inl (bl_trans _ _ _ h1 h2)
 ·exact .inl (by rw [← e2];exact h1)
 ·exact .inl (by rw [e1];exact h2)
 ·exact .inr ⟨e1.trans e2,by omega⟩
def Ris (L:List ByteArray) (P:List Nat):Prop:=P.Pairwise (ltK L)
structure Mrg (L:List ByteArray) (A B P:List Nat) (i k:Nat):Prop where
 ris:Ris L P
 low:∀ p ∈ P,(∀ a ∈ A.drop i,ltK L p a)∧∀ b ∈ B.drop k,ltK L p b
 mem:∀ p ∈ P,p ∈ A∨p ∈ B
 len:P.length=i+k
theorem Mrg.take {L:List ByteArray} {A B P:List Nat} {i k a:Nat} (h:Mrg L A B P i k) (hA:Ris L A) (hB:Ris L B) (ha:A[i]? = some a) (hb:∀ b,B[k]? = some b→ltK L a b):Mrg L A B (P++[a]) (i+1) k:=by
 have hd:=drop_some ha
 have hpa:∀ p ∈ P,ltK L p a:=fun p hp=>(h.low p hp).1 a (by rw [hd];exact List.mem_cons_self)
 refine ⟨?_,?_,?_,by rw [List.length_append,h.len];simp;omega⟩
 ·unfold Ris
  rw [List.pairwise_append]
  refine ⟨h.ris,List.pairwise_singleton _ _,fun x hx y hy=>?_⟩
  simp at hy
  subst hy
  exact hpa x hx
 ·intro p hp
  rw [List.mem_append] at hp
  rcases hp with hp | hp
  ·obtain ⟨l1,l2⟩:=h.low p hp
   exact ⟨fun x hx=>l1 x (by rw [hd];exact List.mem_cons_of_mem _ hx),l2⟩
  ·simp at hp
   subst hp
   refine ⟨fun x hx=>?_,fun x hx=>?_⟩
   ·have hA2:Ris L (A.drop i):=List.Pairwise.sublist (List.drop_sublist i A) hA
    rw [hd] at hA2
    exact (List.pairwise_cons.mp hA2).1 x hx
   ·cases hk:B[k]? with
    | none =>
     rw [List.drop_of_length_le (List.getElem?_eq_none_iff.mp hk)] at hx
     simp at hx
    | some b =>
     have hd2:=drop_some hk
     have hB2:Ris L (B.drop k):=List.Pairwise.sublist (List.drop_sublist k B) hB
     rw [hd2] at hx hB2
     rcases List.mem_cons.mp hx with e | hx
     ·rw [e];exact hb b hk
     ·exact ltK_trans (hb b hk) ((List.pairwise_cons.mp hB2).1 x hx)
 ·intro p hp
  rw [List.mem_append] at hp
  rcases hp with hp | hp
  ·exact h.mem p hp
  ·simp at hp
   subst hp
   exact .inl (List.mem_of_getElem? ha)
def blk (O:List Nat) (f wd:Nat):List Nat:=(O.drop f).take wd
structure Blk (L:List ByteArray) (O:List Nat) (f wd:Nat):Prop where
 ris:Ris L (blk O f wd)
 rng:∀ x ∈ blk O f wd,f≤x∧x<f+wd∧x<L.length
def Runs (L:List ByteArray) (wd:Nat) (O:List Nat):Prop:=O.length=L.length∧∀ m,Blk L O (m*wd) wd
def Half (L:List ByteArray) (wd m:Nat) (Q:List Nat):Prop:=Q.length=min (m*(2*wd)) L.length∧∀ j,j<m→Blk L Q (j*(2*wd)) (2*wd)
theorem blk_len (O:List Nat) (f wd:Nat):(blk O f wd).length=min wd (O.length-f):=by unfold blk;rw [List.length_take,List.length_drop]
theorem Half.next {L:List ByteArray} {wd m:Nat} {Q O P:List Nat} (hw:0<wd) (h:Half L wd m Q) (hf:m*(2*wd)<L.length) (hO:Runs L wd O)
  (hM:Mrg L (blk O (m*(2*wd)) wd) (blk O (m*(2*wd)+wd) wd) P (blk O (m*(2*wd)) wd).length (blk O (m*(2*wd)+wd) wd).length):Half L wd (m+1) (Q++P):=by
 obtain ⟨h1,h2⟩:=h
 obtain ⟨o1,o2⟩:=hO
 have e1:m*(2*wd)=2*m*wd:=by rw [Nat.mul_comm 2 m,Nat.mul_assoc]
 have e2:m*(2*wd)+wd=(2*m+1)*wd:=by rw [Nat.add_mul,← e1];omega
 have e3:(m+1)*(2*wd)=m*(2*wd)+2*wd:=by rw [Nat.add_mul];omega
 have hA:=o2 (2*m)
 have hB:=o2 (2*m+1)
 rw [← e1] at hA
 rw [← e2] at hB
 have hl:=hM.len
 rw [blk_len,blk_len,o1] at hl
 have hQ:Q.length=m*(2*wd):=by rw [h1];omega
 refine ⟨by rw [List.length_append,hQ,hl,e3];omega,fun j hj=>?_⟩
 by_cases hjm:j<m
 ·have hle:j*(2*wd)+2*wd≤m*(2*wd):=by
   have:(j+1)*(2*wd)≤m*(2*wd):=Nat.mul_le_mul_right _ hjm
   rw [Nat.add_mul] at this
   omega
  have e:blk (Q++P) (j*(2*wd)) (2*wd)=blk Q (j*(2*wd)) (2*wd):=by
   unfold blk
   rw [List.drop_append_of_le_length (by omega),List.take_append_of_le_length (by rw [List.length_drop];omega)]
  obtain ⟨r1,r2⟩:=h2 j hjm
  exact ⟨by rw [e];exact r1,by rw [e];exact r2⟩
 ·obtain rfl:j=m:=by omega
  have e:blk (Q++P) (j*(2*wd)) (2*wd)=P:=by
   unfold blk
   rw [List.drop_append,List.drop_of_length_le (by omega),List.nil_append,hQ,Nat.sub_self,List.drop_zero,List.take_of_length_le (by rw [hl];omega)]
  refine ⟨by rw [e];exact hM.ris,fun x hx=>?_⟩
  rw [e] at hx
  rcases hM.mem x hx with hx | hx
  ·have:=hA.rng x hx;omega
  ·have:=hB.rng x hx;omega
theorem Half.done {L:List ByteArray} {wd m:Nat} {Q:List Nat} (h:Half L wd m Q) (hf:L.length≤m*(2*wd)):Runs L (2*wd) Q:=by
 obtain ⟨h1,h2⟩:=h
 refine ⟨by rw [h1];omega,fun j=>?_⟩
 by_cases hj:j<m
 ·exact h2 j hj
 ·have hle:m*(2*wd)≤j*(2*wd):=Nat.mul_le_mul_right _ (by omega)
  have e:blk Q (j*(2*wd)) (2*wd)=[]:=by
   unfold blk
   rw [List.drop_of_length_le (by rw [h1];omega)]
   simp
  exact ⟨by rw [e];exact List.Pairwise.nil,by rw [e];intro x hx;simp at hx⟩
structure IsOrd (L:List ByteArray) (O:List Nat):Prop where
 len:O.length=L.length
 ris:Ris L O
 rng:∀ x ∈ O,x<L.length
theorem Runs.done {L:List ByteArray} {wd:Nat} {O:List Nat} (h:Runs L wd O) (hw:L.length≤wd):IsOrd L O:=by
 obtain ⟨h1,h2⟩:=h
 have hb:=h2 0
 have e:blk O (0*wd) wd=O:=by
  unfold blk
  rw [Nat.zero_mul,List.drop_zero,List.take_of_length_le (by omega)]
 exact ⟨h1,by have:=hb.ris;rwa [e] at this,fun x hx=>(hb.rng x (by rw [e];exact hx)).2.2⟩
theorem nodup_le:∀ (n:Nat) (l:List Nat),l.Nodup→(∀ x ∈ l,x<n)→l.length≤n
 | 0,l,_,h=>by
  cases l with
  | nil=>simp
  | cons a l=>exact absurd (h a List.mem_cons_self) (by omega)
 | n+1,l,hn,h=>by
  have h1:=nodup_le n (l.erase n) (hn.erase n) (fun x hx=>by
   have hx1:=(hn.mem_erase_iff).mp hx
   have:=h x hx1.2
   omega)
  have h2:l.length≤(l.erase n).length+1:=by
   by_cases hm:n ∈ l
   ·rw [List.length_erase_of_mem hm];omega
   ·rw [List.erase_of_not_mem hm];omega
  omega
theorem IsOrd.nodup {L:List ByteArray} {O:List Nat} (h:IsOrd L O):O.Nodup:=List.Pairwise.imp (fun {a b} hab e=>by subst e;exact ltK_irrefl L a hab) h.ris
theorem IsOrd.all {L:List ByteArray} {O:List Nat} (h:IsOrd L O) {i:Nat} (hi:i<L.length):∃ j:Nat,O[j]? = some i:=by
 by_cases hm:i ∈ O
 ·exact List.getElem?_of_mem hm
 ·exfalso
  have:=nodup_le L.length (i :: O) (List.nodup_cons.mpr ⟨hm,h.nodup⟩) (fun x hx=>by
   rcases List.mem_cons.mp hx with e | hx
   ·omega
   ·exact h.rng x hx)
  rw [List.length_cons,h.len] at this
  omega
theorem IsOrd.lt {L:List ByteArray} {O:List Nat} (h:IsOrd L O) {i j a b:Nat} (hi:O[i]? = some a) (hj:O[j]? = some b) (hij:i<j):ltK L a b:=by
 obtain ⟨h1,e1⟩:=List.getElem?_eq_some_iff.mp hi
 obtain ⟨h2,e2⟩:=List.getElem?_eq_some_iff.mp hj
 have:=List.pairwise_iff_getElem.mp h.ris i j h1 h2 hij
 rwa [e1,e2] at this
end Go.Proofs.YtjcpamjeekfblaaGreatDoor
/- quarryref17.Ordered: the places of names,in order. -/
namespace Go.Proofs.YtjcpamjeekfblaaGreatDoor
open Go.RowKit Go.Shelf
end Go.Proofs.YtjcpamjeekfblaaGreatDoor
/- quarryref17.Place: the first place of a name,by the places in order. -/
namespace Go.Proofs.YtjcpamjeekfblaaGreatDoor
open Go.RowKit Go.Shelf
theorem ltK_less {L:List ByteArray} {a b:Nat} {nm:ByteArray} (h:ltK L a b) (hb:ltS (keyA L b) nm=true):ltS (keyA L a) nm=true:=by
 rcases h with h | ⟨h,-⟩
 ·exact bl_trans _ _ _ h hb
 ·rw [h];exact hb
theorem ltK_more {L:List ByteArray} {a b:Nat} {nm:ByteArray} (h:ltK L a b) (ha:ltS (keyA L a) nm=false):ltS (keyA L b) nm=false:=by
 cases hb:ltS (keyA L b) nm with
 | false=>rfl
 | true=>rw [ltK_less h hb] at ha;cases ha
structure Bin (L:List ByteArray) (O:List Nat) (nm:ByteArray) (lo hi:Nat):Prop where
 le:lo≤hi
 lt:∀ j a:Nat,j<lo→O[j]? = some a→ltS (keyA L a) nm=true
 ge:∀ j a:Nat,hi≤j→O[j]? = some a→ltS (keyA L a) nm=false
theorem Bin.up {L:List ByteArray} {O:List Nat} {nm:ByteArray} {lo hi md a:Nat} (h:Bin L O nm lo hi) (hO:IsOrd L O) (h2:md<hi) (ha:O[md]? = some a) (hl:ltS (keyA L a) nm=true):Bin L O nm (md+1) hi :=
 ⟨by omega,fun j b hj hb=>by
  by_cases e:j=md
  ·subst e;rw [ha] at hb;injection hb with hb;subst hb;exact hl
  ·exact ltK_less (hO.lt hb ha (by omega)) hl,h.ge⟩
theorem Bin.down {L:List ByteArray} {O:List Nat} {nm:ByteArray} {lo hi md a:Nat} (h:Bin L O nm lo hi) (hO:IsOrd L O) (h1:lo≤md) (ha:O[md]? = some a) (hl:ltS (keyA L a) nm=false):Bin L O nm lo md :=
 ⟨h1,h.lt,fun j b hj hb=>by
  by_cases e:j=md
  ·subst e;rw [ha] at hb;injection hb with hb;subst hb;exact hl
  ·exact ltK_more (hO.lt ha hb (by omega)) hl⟩
theorem Bin.none {L:List ByteArray} {O:List Nat} {nm:ByteArray} {lo:Nat} (h:Bin L O nm lo lo) (hO:IsOrd L O) (hn:∀ a,O[lo]? = some a→keyA L a≠nm):IsFst L nm (-1):=by
 refine .inl ⟨rfl,fun j hj=>?_⟩
 have hjl:=(List.getElem?_eq_some_iff.mp hj).1
 obtain ⟨p,hp⟩:=hO.all hjl
 have hk:=keyA_get hj
 have hirr:ltS nm nm=false:=bl_irrefl _
 rcases Nat.lt_trichotomy p lo with e | e | e
 ·have:=h.lt p j e hp
  rw [hk,hirr] at this
  cases this
 ·subst e
  exact hn j hp hk
 ·have hlo:lo<O.length:=by have:=(List.getElem?_eq_some_iff.mp hp).1;omega
  obtain ⟨a,ha⟩:∃ a,O[lo]? = some a:=⟨_,List.getElem?_eq_getElem hlo⟩
  have h1:=h.ge lo a (Nat.le_refl _) ha
  rcases hO.lt ha hp e with g | ⟨g,-⟩
  ·rw [hk] at g
   rw [g] at h1
   cases h1
  ·exact hn a ha (by rw [g,hk])
theorem Bin.some {L:List ByteArray} {O:List Nat} {nm:ByteArray} {lo a:Nat} (h:Bin L O nm lo lo) (hO:IsOrd L O) (ha:O[lo]? = Option.some a) (hk:keyA L a=nm):IsFst L nm (a:Int):=by
 have hal:=hO.rng a (List.mem_of_getElem? ha)
 refine .inr ⟨a,rfl,?_,fun j hj hjn=>?_⟩
 ·have:L[a]? = Option.some (L[a]):=List.getElem?_eq_getElem hal
  rw [this,← keyA_get this,hk]
 ·have hjl:=(List.getElem?_eq_some_iff.mp hjn).1
  obtain ⟨p,hp⟩:=hO.all hjl
  have hkj:=keyA_get hjn
  have hirr:ltS nm nm=false:=bl_irrefl _
  rcases Nat.lt_trichotomy p lo with e | e | e
  ·have:=h.lt p j e hp
   rw [hkj,hirr] at this
   cases this
  ·subst e
   rw [ha] at hp
   injection hp with hp
   omega
  ·rcases hO.lt ha hp e with g | ⟨-,g⟩
   ·rw [hk,hkj,hirr] at g
    cases g
   ·omega
def OrdAt (w:World) (oo:Option Addr) (O:List Nat):Prop:=∀ t p:Nat,O[t]? = some p→∃ g,oo=some ⟨g,0,none⟩∧g<w.heap.size∧w.cell? ⟨g,t,none⟩=some (.int .i64 (p:Int))
theorem OrdAt.kept {w w':World} {oo:Option Addr} {O:List Nat} (h:OrdAt w oo O) (hb:Below w.heap.size w w'):OrdAt w' oo O:=fun t p ht=>by
 obtain ⟨g,h1,h2,h3⟩:=h t p ht
 exact ⟨g,h1,by have:=hb.size;omega,(hb.cell (p:=⟨g,t,none⟩) h2).trans h3⟩
end Go.Proofs.YtjcpamjeekfblaaGreatDoor
/- quarryref17.has: does one object have all names of another? -/
namespace Go.Proofs.YtjcpamjeekfblaaGreatDoor
open Go.RowKit Go.Shelf
end Go.Proofs.YtjcpamjeekfblaaGreatDoor

namespace Go.Proofs.YtjcpamjeekfblaaGreatDoor
open Go.RowKit Go.Shelf Go.Maps Go.ChangeMaps Go.WideShapes
open Classical in
noncomputable def addB (acc:List ByteArray) (x:ByteArray):List ByteArray:=if x ∈ acc then acc else acc++[x]
noncomputable def nubB (ks:List ByteArray):List ByteArray:=ks.foldl addB []
theorem nubB_snoc (ks:List ByteArray) (x:ByteArray):nubB (ks++[x])=addB (nubB ks) x:=by simp [nubB,List.foldl_append]
theorem mem_addB (acc:List ByteArray) (x y:ByteArray):y ∈ addB acc x ↔ y ∈ acc∨y=x:=by
 unfold addB
 split
 ·rename_i h
  constructor
  ·exact .inl
  ·rintro (h1 | rfl)
   ·exact h1
   ·exact h
 ·simp
theorem mem_foldB (ks:List ByteArray):∀ (acc:List ByteArray) (y:ByteArray),y ∈ ks.foldl addB acc ↔ y ∈ acc∨y ∈ ks:=by
 induction ks with
 | nil=>simp
 | cons x ks ih =>
  intro acc y
  rw [List.foldl_cons,ih,mem_addB]
  simp only [List.mem_cons]
  constructor
  ·rintro ((h | h) | h)
   ·exact .inl h
   ·exact .inr (.inl h)
   ·exact .inr (.inr h)
  ·rintro (h | h | h)
   ·exact .inl (.inl h)
   ·exact .inl (.inr h)
   ·exact .inr h
theorem mem_nubB (ks:List ByteArray) (y:ByteArray):y ∈ nubB ks ↔ y ∈ ks:=by
 unfold nubB
 rw [mem_foldB]
 simp
def keyL (s:ByteArray):Lit:=.string s.data.toList
theorem keyL_inj {a b:ByteArray} (h:keyL a=keyL b):a=b:=by
 unfold keyL at h
 injection h with h
 cases a;cases b
 simpa using h
structure FstD (D:DataW Unit) (ks:List ByteArray):Prop where
 td:Tidy D
 sz:Maps.size D=(nubB ks).length
 yes:∀ nm:ByteArray,nm ∈ ks→Maps.has D (keyL nm)=true∧∃ i:Nat,IsFst ks nm (i:Int)∧D.atKey (keyL nm) (.lit (.int .i64 0)) = .lit (.int .i64 (i:Int))
 no:∀ nm:ByteArray,nm ∉ ks→Maps.has D (keyL nm)=false
theorem fst_snoc {ks:List ByteArray} {nm x:ByteArray} {i:Nat} (h:IsFst ks nm (i:Int)):IsFst (ks++[x]) nm (i:Int):=by
 rcases h with ⟨h,_⟩ | ⟨j,h1,h2,h3⟩
 ·omega
 ·have hj:=(List.getElem?_eq_some_iff.1 h2).1
  refine .inr ⟨j,h1,by rw [List.getElem?_append_left hj];exact h2,fun q hq=>by rw [List.getElem?_append_left (by omega)];exact h3 q hq⟩
theorem fst_new {ks:List ByteArray} {nm:ByteArray} (h:nm ∉ ks):IsFst (ks++[nm]) nm ((ks.length:Nat):Int) :=
 .inr ⟨ks.length,rfl,by simp,fun q hq=>by
  rw [List.getElem?_append_left hq]
  exact fun e=>h (List.mem_of_getElem? e)⟩
theorem FstD.skip {D:DataW Unit} {ks:List ByteArray} (h:FstD D ks) {x:ByteArray} (hx:Maps.has D (keyL x)=true):FstD D (ks++[x]):=by
 have hm:x ∈ ks:=by
  by_cases hm:x ∈ ks
  ·exact hm
  ·rw [h.no x hm] at hx;cases hx
 refine ⟨h.td,?_,fun nm hn=>?_,fun nm hn=>h.no nm (fun h1=>hn (by simp [h1]))⟩
 ·rw [nubB_snoc,addB,if_pos ((mem_nubB ks x).2 hm)]
  exact h.sz
 ·have hn':nm ∈ ks:=by
   rcases List.mem_append.1 hn with h1 | h1
   ·exact h1
   ·rw [List.mem_singleton.1 h1];exact hm
  obtain ⟨h1,i,h2,h3⟩:=h.yes nm hn'
  exact ⟨h1,i,fst_snoc h2,h3⟩
theorem FstD.put {D:DataW Unit} {ks:List ByteArray} (h:FstD D ks) {x:ByteArray} (hx:Maps.has D (keyL x)=false):FstD (D.put (keyL x) (.lit (.int .i64 ((ks.length:Nat):Int)))) (ks++[x]):=by
 have hm:x ∉ ks:=fun hm=>by rw [(h.yes x hm).1] at hx;cases hx
 have hkl:WideAt.IsKeyLit (keyL x):=trivial
 refine ⟨h.td.put hkl _,?_,fun nm hn=>?_,fun nm hn=>?_⟩
 ·rw [nubB_snoc,addB,if_neg (fun h1=>hm ((mem_nubB ks x).1 h1)),Maps.size_put h.td,hx,List.length_append,h.sz]
  rfl
 ·by_cases e:nm=x
  ·subst e
   exact ⟨Maps.has_put_same h.td.isMap hkl _,ks.length,fst_new hm,Maps.atKey_put_same h.td.isMap hkl _ _⟩
  ·have hn':nm ∈ ks:=by
    rcases List.mem_append.1 hn with h1 | h1
    ·exact h1
    ·exact absurd (List.mem_singleton.1 h1) e
   have hne:keyL nm≠keyL x:=fun h1=>e (keyL_inj h1)
   obtain ⟨h1,i,h2,h3⟩:=h.yes nm hn'
   exact ⟨by rw [Maps.has_put_other hne];exact h1,i,fst_snoc h2,by rw [Maps.atKey_put_other hne];exact h3⟩
 ·have hne:keyL nm≠keyL x:=fun h1=>hn (by rw [keyL_inj h1];simp)
  rw [Maps.has_put_other hne]
  exact h.no nm (fun h1=>hn (by simp [h1]))
def FstM (w:World) (B n:Nat) (ks:List ByteArray):Prop:=∃ D:DataW Unit,w.ownsMap Tryz.prog 9 (plainElem Tryz.prog 3) B n D∧FstD D ks
theorem FstM.lt {w:World} {B n:Nat} {ks:List ByteArray} (h:FstM w B n ks):B<w.heap.size:=by
 obtain ⟨D,h,_⟩:=h
 exact h.lt
theorem FstM.kept {w w':World} {B n:Nat} {ks:List ByteArray} (h:FstM w B n ks) (hb:Below w.heap.size w w'):FstM w' B n ks:=by
 have hl:=h.lt
 obtain ⟨D,⟨es,clock,h1,h2⟩,h3⟩:=h
 exact ⟨D,⟨es,clock,(hb.block B hl).trans h1,h2⟩,h3⟩
theorem lawS:Keyed Tryz.prog 9:=string_keyed Tryz.underlying9
theorem keyS {s:ByteArray} (h:s.size≤capT):keyOf Tryz.prog 9 (.string s)=some (keyL s):=Go.WideMaps.keyOf_string_mk Tryz.underlying9 (by unfold capT at h;unfold maxLen;omega)
end Go.Proofs.YtjcpamjeekfblaaGreatDoor

namespace Go.Proofs.YtjcpamjeekfblaaGreatDoor
open Go.RowKit Go.Shelf Go.Maps Go.ChangeMaps Go.WideShapes
def SetM (w:World) (B n:Nat) (p:ByteArray→Prop):Prop:=∃ D:DataW Unit,w.ownsMap Tryz.prog 9 unitElem B n D∧Tidy D∧∀ nm:ByteArray,Maps.has D (keyL nm)=true ↔ p nm
theorem SetM.lt {w:World} {B n:Nat} {p:ByteArray→Prop} (h:SetM w B n p):B<w.heap.size:=by
 obtain ⟨D,h,_⟩:=h
 exact h.lt
theorem SetM.same {w w':World} {B n:Nat} {p:ByteArray→Prop} (h:SetM w B n p) (hb:∀ o,w.heap[B]? = some o→w'.heap[B]? = some o):SetM w' B n p:=by
 obtain ⟨D,⟨es,clock,h1,h2⟩,h3⟩:=h
 exact ⟨D,⟨es,clock,hb _ h1,h2⟩,h3⟩
theorem SetM.iff {w:World} {B n:Nat} {p q:ByteArray→Prop} (h:SetM w B n p) (e:∀ x,p x ↔ q x):SetM w B n q:=by
 obtain ⟨D,h1,h2,h3⟩:=h
 exact ⟨D,h1,h2,fun nm=>(h3 nm).trans (e nm)⟩
theorem zeroU (w:World):(zeroValue 88).run Tryz.prog w = .ok (.agg #[]) w:=by kernel_rfl
theorem made0 (w:World):(Instr.makeMap 148 none).run Tryz.prog w = .ok (.map (some w.heap.size)) (w.alloc (.map #[] 0)):=by
 simp [Instr.makeMap]
def KidE (S:Nat→Prop) (L:List (List UInt8 × Vt)) (b r c:Nat) (x:Array Value) (W:World):Prop:=∃ p t v,L[r]? = some (p,t)∧x = #[.string (mkL p),v]∧b≤c∧c=W.heap.size∧ValOn S W t v
theorem SameOn.sub {S S0:Nat→Prop} {w w':World} (h:SameOn S w w') (hs:∀ c,S0 c→S c):SameOn S0 w w':=⟨h.1,fun b hb hl=>h.2 b (hs b hb) hl⟩
theorem KpC.sameS {S:Nat→Prop} {B c:Nat} {W W':World} (h:KpC S B c W W'):SameOn S W W':=⟨h.1,fun b hb hl=>by
 have e:W.heap[b]? = some W.heap[b]:=Array.getElem?_eq_getElem hl
 rw [h.2 b _ (.inl hb) e,e]⟩
set_option maxRecDepth 10000 in
set_option maxHeartbeats 8000000 in
theorem members1_tell (S S0:Nat→Prop) (hS0:∀ c,S0 c→S c) (nn:Nat) (s:Stp) (k:Int) (b:Bool) (rr tx:ByteArray) (ks:List ByteArray) (vs:List Vt) (hNM:ks.length=vs.length) (ko:Option Addr) (kc:Nat) (vo:Option Addr) (vc Bv Bx:Nat) (hSv:S Bv) (hSx:S Bx) (w:World)
  (hA:At w Bv #[.int .i64 k,.bool b,.string rr,.string tx,.slice ko ks.length kc,.slice vo vs.length vc] 59) (hX:At w Bx #[ifV s] 43)
  (hV:ValOn S0 w (.mk k b rr tx ks vs) (.agg #[.int .i64 k,.bool b,.string rr,.string tx,.slice ko ks.length kc,.slice vo vs.length vc])) :
  SeqTellR (fun _=>True) nn Tryz.prog 113 #[.pointer (some ⟨Bv,0,none⟩),.pointer (some ⟨Bx,0,none⟩)] (KidE S0 (mbT s ks vs ks.length)) (KpC S) (mbT s ks vs ks.length).length w:=by
 intro l J Jx W hbW hJ hJx hGd hY h0
 cases hV with
 | mk _ _ _ _ _ _ _ _ _ _ X hw hz hk hr hv =>
 have hk':=hid (hk.kept (S':=S0) (fun _ _ h=>h) (SameOn.below hbW))
 have hr':=hid (hr.kept (S':=S0) (fun _ _ h=>h) (SameOn.below hbW))
 have hv':=hid (fun i u hu=>(hv i u hu).keptB hbW)
 have hA':=hid (hA.keptAll hbW)
 have hX':=hid (hX.keptAll hbW)
 have hJ':=hid hJ
 have hJx':=hid hJx
 have hY':=hid hY
 have hNM':=hid hNM
 have hBv:=hid hA.lt
 have hBx:=hid hX.lt
 replace hBv:=hid (Nat.lt_of_lt_of_le hBv.out hbW.size)
 replace hBx:=hid (Nat.lt_of_lt_of_le hBx.out hbW.size)
 obtain ⟨L,hL⟩:∃ L,Hid (mbT s ks vs ks.length=L):=⟨_,rfl⟩
 rw [hL.out] at hY' ⊢
 obtain ⟨N,hN⟩:∃ N,Hid (ks.length=N):=⟨_,rfl⟩
 have hM:Hid (vs.length=N):=hid (hNM.symm.trans hN.out)
 rw [hN.out] at hL
 rw [hN.out,hM.out] at hA'
 have hNc:=hid (show N≤capT by have:=hz.2.2.1;rw [hN.out] at this;exact this)
 have hNi:(N:Int)≤140737488351232:=by have:=hNc.out;unfold capT at this;omega
 have hmm:=made0
 have htk:=hid (fun (nm:ByteArray) (u:World)=>takesI_calls s nm 0 true u)
 obtain ⟨fv,hfv⟩:∃ v,ifV s=v:=⟨_,rfl⟩
 rw [hfv] at htk hX'
 have hW0:=hid (hJ'.out 0 W)
 have J0:=hid (hJ 0 W (W.alloc (.map #[] 0)) h0 ((Below.refl _ W).alloc (Nat.le_refl _) _))
 have bm:=hid (show Below W.heap.size W (W.alloc (.map #[] 0)) from (Below.refl _ W).alloc (Nat.le_refl _) _)
 have A0:=hid (hA'.out.keptAll bm.out)
 have c4:(W.alloc (.map #[] 0)).cell? ⟨Bv,4,none⟩=some (.slice ko N kc):=A0.out.cell 4
 have X0:=hid (hX'.out.keptAll bm.out)
 have M0:Hid (SetM (W.alloc (.map #[] 0)) W.heap.size 0 (fun nm=>∃ j,j<0∧ks[j]? = some nm∧tkS s nm 0 true=true)):=hid ⟨_,World.ownsMap_made _ _ _ _,tidy_empty,fun nm=>⟨fun h=>(by cases h),fun ⟨j,hj,_⟩=>absurd hj (Nat.not_lt_zero _)⟩⟩
 have K0:=hid (show KpS S W.heap.size W (W.alloc (.map #[] 0)) from KpS.below bm.out)
 clear hJ hJx hY hGd hz hw hv hk hr hA hX hbW h0 hNM hfv
 refine callsIn_of_wp Tryz.func113 rfl trivial ?_ rfl
 simp only [Tryz.ntmps113,List.size_toArray,List.length_cons,List.length_nil,Nat.reduceAdd,Nat.reduceSub,Array.replicate_succ,Array.replicate_zero,List.push_toArray,List.append_toArray,List.nil_append,List.cons_append]
 gi_wp2_with fail
 gi_loopw [13] (fun ii wr=>∃ (i:Nat),i≤N∧ii = .int .i64 (i:Int)∧Hid (J (mbT s ks vs i).length wr)∧Hid (At wr Bv #[.int .i64 k,.bool b,.string rr,.string tx,.slice ko N kc,.slice vo N vc] 59)∧Hid (At wr Bx #[fv] 43) ∧
  Hid (SetM wr W.heap.size i (fun nm=>∃ j,j<i∧ks[j]? = some nm∧tkS s nm 0 true=true))∧Hid (W.heap.size<wr.heap.size∧SameOn S W wr)) (fun ii _=>N-(intOf ii).toNat)
 case atStart=>exact ⟨0,Nat.zero_le _,rfl,J0,A0,X0,M0,hid ⟨by rw [World.size_alloc];exact Nat.lt_succ_self _,K0.out.same |> fun h=>⟨h.1,fun b hb hl=>h.2 b (.inl hb) hl⟩⟩⟩
 case round =>
  obtain ⟨i,hi,rfl,hJr,hA,hX,hMp,hS⟩:=hrel
  clear J0 A0 X0 M0 K0 c4 hmm bm hW0
  by_cases hlt:i<N
  ·have hli:(i:Int)<(N:Int):=by omega
   obtain ⟨nm,hnm⟩:∃ u,Hid (ks[i]? = some u):=⟨_,List.getElem?_eq_getElem (by rw [hN.out];exact hlt)⟩
   obtain ⟨u1,hu1⟩:∃ u,Hid (vs[i]? = some u):=⟨_,List.getElem?_eq_getElem (by rw [hM.out];exact hlt)⟩
   obtain ⟨hs,g,o,rfl,hg,hc⟩:=(hk'.out.kept (S':=S0) (fun _ _ h=>h) (hS.out.2.sub hS0)).at i nm hnm.out
   have hkey:=hid (keyS hs)
   have ad1:(⟨g,o,none⟩:Addr).add i=⟨g,o+i,none⟩:=by by_cases h:i=0 <;> simp [Addr.add,h]
   have cX:wr.cell? ⟨Bx,0,none⟩=some fv:=hX.out.cell 0
   have hlt':=hid hlt
   have hi1:=hid (show i+1≤N by omega)
   have htw:=hid (htk.out nm)
   clear hs hg hi hA'
   cases hT:tkS s nm 0 true with
   | false =>
    have hnx:=hid (mbT_no hnm.out hu1.out hT)
    have hpx:=hid (show ∀ x,(∃ j,j<i∧ks[j]? = some x∧tkS s x 0 true=true) ↔ (∃ j,j<i+1∧ks[j]? = some x∧tkS s x 0 true=true) from fun x=>⟨fun ⟨j,h1,h2⟩=>⟨j,by omega,h2⟩,fun ⟨j,h1,h2,h3⟩=>by
     by_cases e:j=i
     ·subst e;rw [hnm.out] at h2;cases h2;rw [hT] at h3;cases h3
     ·exact ⟨j,by omega,h2,h3⟩⟩)
    rw [hT] at htw
    clear hT
    gi_wp2_with fail
    refine ⟨trivial,(fun h=>by cases h),?_⟩
    refine (callsIn_wide.2 (htw.out _)).mono ?_
    rintro e w1 ⟨rfl,b1⟩
    have J1:=hid (hJ'.out _ _ _ hJr.out (b1.mono (by have:=hS.out.1;omega)))
    have A1:=hid (hA.out.keptAll b1)
    have X1:=hid (hX.out.keptAll b1)
    have M1:=hid ((hMp.out.same (fun o h=>(b1.block _ hMp.out.lt).trans h)).iff hpx.out)
    have S1:=hid (show W.heap.size<w1.heap.size∧SameOn S W w1 from ⟨by have:=b1.size;have:=hS.out.1;omega,⟨Nat.le_trans hS.out.2.1 b1.size,fun q hq hl=>((SameOn.below b1).2 q hq (Nat.lt_of_lt_of_le hl hS.out.2.1)).trans (hS.out.2.2 q hq hl)⟩⟩)
    clear hJr hA hX hMp hS b1 htw cX hc
    gi_wp2
    go_roundw
    case rel=>exact ⟨i+1,hi1.out,by simp,hid (by rw [hnx.out];exact J1.out),A1,X1,hid (by obtain ⟨D,h1,h2⟩:=M1.out;exact ⟨D,h1.mono (Nat.le_succ _),h2⟩),S1⟩
    case measure=>simp [intOf];have:=hi1.out;omega
   | true =>
    rw [hT] at htw
    gi_wp2_with fail
    refine ⟨trivial,(fun h=>by cases h),?_⟩
    refine (callsIn_wide.2 (htw.out _)).mono ?_
    rintro e w1 ⟨rfl,b1⟩
    have J1:=hid (hJ'.out _ _ _ hJr.out (b1.mono (by have:=hS.out.1;omega)))
    have A1:=hid (hA.out.keptAll b1)
    have X1:=hid (hX.out.keptAll b1)
    have M1:=hid (hMp.out.same (fun o h=>(b1.block _ hMp.out.lt).trans h))
    have S1:=hid (show W.heap.size<w1.heap.size∧SameOn S W w1 from ⟨by have:=b1.size;have:=hS.out.1;omega,⟨Nat.le_trans hS.out.2.1 b1.size,fun q hq hl=>((SameOn.below b1).2 q hq (Nat.lt_of_lt_of_le hl hS.out.2.1)).trans (hS.out.2.2 q hq hl)⟩⟩)
    clear hJr hA hX hMp hS htw cX hc
    obtain ⟨D,hown,htd,hhas⟩:=M1.out
    have hown':=hid hown
    have htd':=hid htd
    have hhas':=hid hhas
    have hT':=hid hT
    clear hown htd hhas hT
    by_cases hd:∃ j,j<i∧ks[j]? = some nm
    ·obtain ⟨j,hj,hjk⟩:=hd
     have hH:Maps.has D (keyL nm)=true:=(hhas'.out nm).2 ⟨j,hj,hjk,hT'.out⟩
     have hnx:=hid (mbT_twice (s:=s) hnm.out hu1.out hj hjk)
     have hpx:=hid (show ∀ x,(∃ j,j<i∧ks[j]? = some x∧tkS s x 0 true=true) ↔ (∃ j,j<i+1∧ks[j]? = some x∧tkS s x 0 true=true) from fun x=>⟨fun ⟨j,h1,h2⟩=>⟨j,by omega,h2⟩,fun ⟨j',h1,h2,h3⟩=>by
      by_cases e:j'=i
      ·subst e;rw [hnm.out] at h2;cases h2;exact ⟨j,hj,hjk,h3⟩
      ·exact ⟨j',by omega,h2,h3⟩⟩)
     have bs:=hid (show Below w1.heap.size w1 (w1.alloc (.cells #[] 88)) from (Below.refl _ w1).alloc (Nat.le_refl _) _)
     have J2:=hid (hJ'.out _ _ _ J1.out (bs.out.mono (by have:=S1.out.1;omega)))
     have A2:=hid (A1.out.keptAll bs.out)
     have X2:=hid (X1.out.keptAll bs.out)
     have M2:=hid ((M1.out.same (fun o h=>(bs.out.block _ M1.out.lt).trans h)).iff hpx.out)
     have S2:=hid (show W.heap.size<(w1.alloc (.cells #[] 88)).heap.size∧SameOn S W (w1.alloc (.cells #[] 88)) from ⟨by have:=bs.out.size;have:=S1.out.1;omega,⟨Nat.le_trans S1.out.2.1 bs.out.size,fun q hq hl=>((SameOn.below bs.out).2 q hq (Nat.lt_of_lt_of_le hl S1.out.2.1)).trans (S1.out.2.2 q hq hl)⟩⟩)
     clear hj hjk J1 A1 X1 M1 S1 b1
     gi_wp2_with (first | (gi_at_lookup;refine wpListIn_lookup_own_unit _ rfl _ _ 148 rfl 9 88 lawS Tryz.underlying148 (zeroU _) W.heap.size i D rfl hown'.out _ _ rfl hkey.out ?_) | fail)
     go_roundw
     case rel=>exact ⟨i+1,hi1.out,by simp,hid (by rw [hnx.out];exact J2.out),A2,X2,hid (by obtain ⟨D,h1,h2⟩:=M2.out;exact ⟨D,h1.mono (Nat.le_succ _),h2⟩),S2⟩
     case measure=>simp [intOf];have:=hi1.out;omega
    ·have hno:∀ j,j<i→ks[j]?≠some nm:=fun j hj e=>hd ⟨j,hj,e⟩
     have hH:Maps.has D (keyL nm)=false:=by
      cases h:Maps.has D (keyL nm) with
      | false=>rfl
      | true =>
       obtain ⟨j,h1,h2,-⟩:=(hhas'.out nm).1 h
       exact absurd h2 (hno j h1)
     have hnx:=hid (mbT_yes hnm.out hu1.out hT'.out hno)
     have bs:=hid (show Below w1.heap.size w1 (w1.alloc (.cells #[] 88)) from (Below.refl _ w1).alloc (Nat.le_refl _) _)
     have J2:=hid (hJ'.out _ _ _ J1.out (bs.out.mono (by have:=S1.out.1;omega)))
     have A2:=hid (A1.out.keptAll bs.out)
     have X2:=hid (X1.out.keptAll bs.out)
     have M2:=hid (show (w1.alloc (.cells #[] 88)).ownsMap Tryz.prog 9 unitElem W.heap.size i D from by
      obtain ⟨es,clock,h1,h2⟩:=hown'.out
      exact ⟨es,clock,(bs.out.block _ hown'.out.lt).trans h1,h2⟩)
     have S2:=hid (show W.heap.size<(w1.alloc (.cells #[] 88)).heap.size∧SameOn S W (w1.alloc (.cells #[] 88)) from ⟨by have:=bs.out.size;have:=S1.out.1;omega,⟨Nat.le_trans S1.out.2.1 bs.out.size,fun q hq hl=>((SameOn.below bs.out).2 q hq (Nat.lt_of_lt_of_le hl S1.out.2.1)).trans (S1.out.2.2 q hq hl)⟩⟩)
     clear hd hno J1 A1 X1 M1 S1 b1
     gi_wp2_with (first | (gi_at_lookup;refine wpListIn_lookup_own_unit _ rfl _ _ 148 rfl 9 88 lawS Tryz.underlying148 (zeroU _) W.heap.size i D rfl hown'.out _ _ rfl hkey.out ?_) | (gi_at_mapUpdate;refine wpListIn_mapUpdate_own _ rfl _ _ _ 148 rfl 9 88 lawS Tryz.underlying148 unitElem W.heap.size i D rfl M2.out (by have:=hNc.out;have:=hi1.out;unfold capT at *;unfold maxLen;omega) _ _ _ rfl rfl hkey.out (.agg []) [] unitElem_mk ?_) | fail)
     intro w2 hown2 hgrow2
     have B3:=hid (below_of_grown (B:=W.heap.size) hgrow2 (by have:=S2.out.1;omega) (fun r e=>by cases e;exact Nat.le_refl _))
     have J3:=hid (hJ'.out _ _ _ J2.out B3.out)
     have A3:Hid (At w2 Bv _ _):=hid ((B3.out.block _ hBv.out).trans A2.out)
     have X3:Hid (At w2 Bx _ _):=hid ((B3.out.block _ hBx.out).trans X2.out)
     have S3:=hid (show W.heap.size<w2.heap.size∧SameOn S W w2 from ⟨by have:=B3.out.size;have:=S2.out.1;omega,⟨Nat.le_trans S2.out.2.1 B3.out.size,fun q hq hl=>(B3.out.block q hl).trans (S2.out.2.2 q hq hl)⟩⟩)
     have hkl:WideAt.IsKeyLit (keyL nm):=trivial
     have M3:Hid (SetM w2 W.heap.size (i+1) (fun x=>∃ j,j<i+1∧ks[j]? = some x∧tkS s x 0 true=true)):=hid ⟨_,hown2,htd'.out.put hkl _,fun x=>by
      by_cases e:x=nm
      ·subst e
       exact ⟨fun _=>⟨i,by omega,hnm.out,hT'.out⟩,fun _=>Maps.has_put_same htd'.out.isMap hkl _⟩
      ·have hne:keyL x≠keyL nm:=fun h1=>e (keyL_inj h1)
       rw [Maps.has_put_other hne]
       refine (hhas'.out x).trans ⟨fun ⟨j,h1,h2⟩=>⟨j,by omega,h2⟩,fun ⟨j,h1,h2,h3⟩=>?_⟩
       by_cases e':j=i
       ·subst e';rw [hnm.out] at h2;cases h2;exact absurd rfl e
       ·exact ⟨j,by omega,h2,h3⟩⟩
     have hV3:=hid ((hv'.out i u1 hu1.out).kept (S':=S0) (fun _ _ h=>h) (S3.out.2.sub hS0))
     have hrw:=(hr'.out.kept (S':=S0) (fun _ _ h=>h) (S3.out.2.sub hS0)).at
     obtain ⟨g2,o2,rfl,hg2,hrg,hl1⟩:=row_range hrw (i:=i) (by rw [hM.out];exact hlt'.out)
     obtain ⟨L1,hL1⟩:∃ L,Hid ((X i).toList=L):=⟨_,rfl⟩
     rw [hL1.out] at hrg hl1
     have z1:(Tryz.prog.info? 59).map (·.size)=some L1.length:=by rw [hl1];exact sizeVl
     have v1:Hid (ValOn S0 w2 u1 (.agg L1.toArray)):=by
      have:=hV3.out
      rw [← hL1.out,Array.toArray_toList]
      exact this
     obtain ⟨k1,b1,r1,t1,ko1,N1,kc1,vo1,M1,vc1,rfl⟩:=v1.out.at.six
     have hrgk:=hid hrg
     have hpre:=hid (show L[(mbT s ks vs i).length]? = some (nm.data.toList,u1) from pre_get (by rw [← hnx.out,← hL.out];exact mbT_pre s ks vs N (i+1) hi1.out))
     have hltL:=hid (List.getElem?_eq_some_iff.1 hpre.out).1
     have hE:=hid (show KidE S0 L W.heap.size (mbT s ks vs i).length w2.heap.size #[.string nm,.agg #[.int .i64 k1,.bool b1,.string r1,.string t1,.slice ko1 N1 kc1,.slice vo1 M1 vc1]] w2 from ⟨nm.data.toList,u1,_,hpre.out,by rw [mkL_data],Nat.le_of_lt S3.out.1,rfl,v1.out⟩)
     obtain ⟨fn,tmps,assign,body,hy,hRd⟩:=hY'.out _ _ _ w2 J3.out hltL.out hE.out
     have hRd':=hid hRd
     have c5:w2.cell? ⟨Bv,5,none⟩=some (.slice (some ⟨g2,o2,none⟩) N vc):=A3.out.cell 5
     have hln1:=hid (show (mbT s ks vs (i+1)).length=(mbT s ks vs i).length+1 by rw [hnx.out];simp)
     have hltL':=hid (show (mbT s ks vs i).length+1≤L.length from hltL.out)
     clear hown2 hgrow2 J2 A2 X2 M2 S2 B3 hrw hg2 hrg hl1 hV3 hE hRd bs hown' htd' hhas'
     gi_wp2_with (first | refine wpListIn_load_want 59 _ g2 (o2+i*6) [.int .i64 k1,.bool b1,.string r1,.string t1,.slice ko1 N1 kc1,.slice vo1 M1 vc1] _ hrgk.out Tryz.underlying59 z1 rfl rfl rfl (by rfl) ?_ | fail)
     refine ⟨(fun h=>by cases h),?_⟩
     refine (hRd'.out).mono ?_
     rintro e W3 (⟨rfl,hJ4,hk4⟩ | ⟨rfl,hJx4,hk4⟩)
     ·have J4:=hid hJ4
      have A4:=hid (hk4.at A3.out (.inl hSv))
      have X4:=hid (hk4.at X3.out (.inl hSx))
      have M4:=hid (M3.out.same (fun o h=>hk4.2 _ o (.inr ⟨Nat.le_refl _,S3.out.1⟩) h))
      have S4:=hid (show W.heap.size<W3.heap.size∧SameOn S W W3 from ⟨Nat.lt_of_lt_of_le S3.out.1 hk4.1,⟨Nat.le_trans S3.out.2.1 hk4.1,fun q hq hl=>(hk4.sameS.2 q hq (Nat.lt_of_lt_of_le hl S3.out.2.1)).trans (S3.out.2.2 q hq hl)⟩⟩)
      clear hy hRd' hJ4 hk4 J3 A3 X3 M3 S3 hrgk z1 c5 v1
      gi_wp2
      go_roundw
      case rel=>exact ⟨i+1,hi1.out,by simp,hid (by rw [hln1.out];exact J4.out),A4,X4,M4,S4⟩
      case measure=>simp [intOf];have:=hi1.out;omega
     ·have J4:=hid hJx4
      clear hy hRd' hJx4 hk4 J3 A3 X3 M3 S3 hrgk z1 c5 v1
      gi_wp2
      refine bodyPost_ret (v:=.tuple #[]) (by simp [results,Tryz.results113,go_sem]) rfl ?_
      exact ⟨⟨_,rfl⟩,.inr ⟨_,hltL'.out,J4.out⟩⟩
  ·obtain rfl:i=N:=by omega
   have hfin:=hid (show J L.length wr by rw [← hL.out];exact hJr.out)
   clear hJr
   gi_wp2
   refine bodyPost_end (results_none rfl _ _ _) rfl ?_
   exact ⟨⟨_,rfl⟩,.inl hfin.out⟩
end Go.Proofs.YtjcpamjeekfblaaGreatDoor

namespace Go.Proofs.YtjcpamjeekfblaaGreatDoor
open Go.RowKit Go.Shelf Go.Maps Go.ChangeMaps Go.WideShapes
set_option maxRecDepth 10000 in
set_option maxHeartbeats 8000000 in
theorem elements1_tell (S S0:Nat→Prop) (hS0:∀ c,S0 c→S c) (nn:Nat) (s:Stp) (k:Int) (b:Bool) (rr tx:ByteArray) (ks:List ByteArray) (vs:List Vt) (ko:Option Addr) (kc:Nat) (vo:Option Addr) (vc Bv Bx:Nat) (hSv:S Bv) (hSx:S Bx) (w:World)
  (hA:At w Bv #[.int .i64 k,.bool b,.string rr,.string tx,.slice ko ks.length kc,.slice vo vs.length vc] 59) (hX:At w Bx #[ifV s] 43)
  (hV:ValOn S0 w (.mk k b rr tx ks vs) (.agg #[.int .i64 k,.bool b,.string rr,.string tx,.slice ko ks.length kc,.slice vo vs.length vc])) :
  SeqTellR PowT nn Tryz.prog 114 #[.pointer (some ⟨Bv,0,none⟩),.pointer (some ⟨Bx,0,none⟩)] (KidE S0 (elT s vs vs.length)) (KpC S) (elT s vs vs.length).length w:=by
 intro l J Jx W hbW hJ hJx hGd hY h0
 cases hV with
 | mk _ _ _ _ _ _ _ _ _ _ X hw hz hk hr hv =>
 have hr':=hid (hr.kept (S':=S0) (fun _ _ h=>h) (SameOn.below hbW))
 have hv':=hid (fun i u hu=>(hv i u hu).keptB hbW)
 have hA':=hid (hA.keptAll hbW)
 have hX':=hid (hX.keptAll hbW)
 have hJ':=hid hJ
 have hJx':=hid hJx
 have hY':=hid hY
 have hGd':=hid hGd
 obtain ⟨L,hL⟩:∃ L,Hid (elT s vs vs.length=L):=⟨_,rfl⟩
 rw [hL.out] at hY' ⊢
 obtain ⟨M,hM⟩:∃ N,Hid (vs.length=N):=⟨_,rfl⟩
 obtain ⟨N,hN⟩:∃ N,Hid (ks.length=N):=⟨_,rfl⟩
 rw [hM.out] at hL
 rw [hN.out,hM.out] at hA'
 have hMi:(M:Int)≤140737488351232:=by have:=hz.2.2.2;rw [hM.out] at this;unfold capT at this;omega
 have htk:=hid (fun (i:Int) (u:World)=>takesI_calls s ⟨#[]⟩ i false u)
 obtain ⟨fv,hfv⟩:∃ v,ifV s=v:=⟨_,rfl⟩
 rw [hfv] at htk hX'
 have J0:=hid h0
 have c5:W.cell? ⟨Bv,5,none⟩=some (.slice vo M vc):=hA'.out.cell 5
 clear hJ hJx hY hGd hz hw hv hk hr hA hX hbW h0 hfv
 refine callsIn_of_wp Tryz.func114 rfl trivial ?_ rfl
 simp only [Tryz.ntmps114,List.size_toArray,List.length_cons,List.length_nil,Nat.reduceAdd,Nat.reduceSub,Array.replicate_succ,Array.replicate_zero,List.push_toArray,List.append_toArray,List.nil_append,List.cons_append]
 gi_wp2_with fail
 gi_loopw [9] (fun ii wr=>∃ (i:Nat),i≤M∧ii = .int .i64 (i:Int)∧Hid (J (elT s vs i).length wr)∧Hid (At wr Bv #[.int .i64 k,.bool b,.string rr,.string tx,.slice ko N kc,.slice vo M vc] 59)∧Hid (At wr Bx #[fv] 43) ∧
  Hid (W.heap.size≤wr.heap.size∧SameOn S W wr)) (fun ii _=>M-(intOf ii).toNat)
 case atStart=>exact ⟨0,Nat.zero_le _,rfl,J0,hA',hX',hid ⟨Nat.le_refl _,⟨Nat.le_refl _,fun _ _ _=>rfl⟩⟩⟩
 case round =>
  obtain ⟨i,hi,rfl,hJr,hA,hX,hS⟩:=hrel
  clear J0 hA' hX' c5
  by_cases hlt:i<M
  ·have hli:(i:Int)<(M:Int):=by omega
   obtain ⟨u1,hu1⟩:∃ u,Hid (vs[i]? = some u):=⟨_,List.getElem?_eq_getElem (by rw [hM.out];exact hlt)⟩
   have hlt':=hid hlt
   have hi1:=hid (show i+1≤M by omega)
   have htw:=hid (htk.out (i:Int))
   have hVr:=hid ((hv'.out i u1 hu1.out).kept (S':=S0) (fun _ _ h=>h) (hS.out.2.sub hS0))
   have hrw:=(hr'.out.kept (S':=S0) (fun _ _ h=>h) (hS.out.2.sub hS0)).at
   obtain ⟨g2,o2,rfl,hg2,hrg,hl1⟩:=row_range hrw (i:=i) (by rw [hM.out];exact hlt)
   obtain ⟨L1,hL1⟩:∃ L,Hid ((X i).toList=L):=⟨_,rfl⟩
   rw [hL1.out] at hrg hl1
   have z1:(Tryz.prog.info? 59).map (·.size)=some L1.length:=by rw [hl1];exact sizeVl
   have v1:Hid (ValOn S0 wr u1 (.agg L1.toArray)):=by
    have:=hVr.out
    rw [← hL1.out,Array.toArray_toList]
    exact this
   obtain ⟨k1,b1,r1,t1,ko1,N1,kc1,vo1,M1,vc1,rfl⟩:=v1.out.at.six
   have hrgk:=hid hrg
   have Bx1:Hid (Below wr.heap.size wr (wr.alloc (.cells #[.int .i64 k1,.bool b1,.string r1,.string t1,.slice ko1 N1 kc1,.slice vo1 M1 vc1] 59))):=(Below.refl _ wr).alloc (Nat.le_refl _) _
   have D1:=hid (At.new wr #[.int .i64 k1,.bool b1,.string r1,.string t1,.slice ko1 N1 kc1,.slice vo1 M1 vc1] 59)
   have J1:=hid (hJ'.out _ _ _ hJr.out (Bx1.out.mono hS.out.1))
   have A1:=hid (hA.out.keptAll Bx1.out)
   have X1:=hid (hX.out.keptAll Bx1.out)
   have V1:=hid (v1.out.keptB Bx1.out)
   have S1:=hid (show W.heap.size≤(wr.alloc (.cells #[.int .i64 k1,.bool b1,.string r1,.string t1,.slice ko1 N1 kc1,.slice vo1 M1 vc1] 59)).heap.size∧SameOn S W (wr.alloc (.cells #[.int .i64 k1,.bool b1,.string r1,.string t1,.slice ko1 N1 kc1,.slice vo1 M1 vc1] 59)) from ⟨by have:=Bx1.out.size;have:=hS.out.1;omega,⟨Nat.le_trans hS.out.2.1 Bx1.out.size,fun q hq hl=>((SameOn.below Bx1.out).2 q hq (Nat.lt_of_lt_of_le hl hS.out.2.1)).trans (hS.out.2.2 q hq hl)⟩⟩)
   obtain ⟨q,hq⟩:∃ q,wr.heap.size=q:=⟨_,rfl⟩
   have cv5:wr.cell? ⟨Bv,5,none⟩=some (.slice (some ⟨g2,o2,none⟩) M vc):=hA.out.cell 5
   clear hi hrw hg2 hrg hl1 hVr hJr hA hX hS v1 Bx1
   gi_wp2_with (first | refine wpListIn_load_want 59 _ g2 (o2+i*6) [.int .i64 k1,.bool b1,.string r1,.string t1,.slice ko1 N1 kc1,.slice vo1 M1 vc1] _ hrgk.out Tryz.underlying59 z1 rfl rfl rfl (by rfl) ?_ | fail)
   rw [hq] at D1
   generalize wr.alloc (.cells #[.int .i64 k1,.bool b1,.string r1,.string t1,.slice ko1 N1 kc1,.slice vo1 M1 vc1] 59)=Wa at *
   have cX:Wa.drew.cell? ⟨Bx,0,none⟩=some fv:=X1.out.drew.cell 0
   have bd:=hid (show Below Wa.heap.size Wa Wa.drew from (Below.refl _ Wa).drew)
   have J1d:=hid (hJ'.out _ _ _ J1.out (bd.out.mono S1.out.1))
   have A1d:=hid A1.out.drew
   have X1d:=hid X1.out.drew
   have V1d:=hid (V1.out.keptB bd.out)
   have D1d:=hid D1.out.drew
   have S1d:=hid (show W.heap.size≤Wa.drew.heap.size∧SameOn S W Wa.drew from ⟨S1.out.1,⟨S1.out.2.1,fun q hq hl=>((SameOn.below bd.out).2 q hq (Nat.lt_of_lt_of_le hl S1.out.2.1)).trans (S1.out.2.2 q hq hl)⟩⟩)
   clear J1 A1 X1 V1 D1 S1 hrgk z1 cv5
   cases hT:tkS s ⟨#[]⟩ (i:Int) false with
   | false =>
    have hnx:=hid (elT_no hu1.out hT)
    rw [hT] at htw
    clear hT
    refine wpIn_region_any (by kernel_rfl) ?_
    (refine' wpAnyIn_take (i:=1) rfl rfl (by kernel_rfl) (by kernel_rfl) (by kernel_rfl) (fun _ _ _ h=>h) ⟨Or.inl ⟨by rfl,?_⟩,fun _=>by rfl⟩ ?_;rotate_left;(· (intro wq;go_simp;first | done | with_reducible rfl));simp only [psA])
    refine wpAnyIn_ready (rs:=[0]) (by kernel_rfl) (by simp) ?_
    refine AllReadyIn.cons rfl (fun K hK=>?_) ?_
    ·rw [if_pos (by rfl)]
     unfold Oper.wpIn
     go_simp
     refine hK _ _ ?_
     clear hK K
     refine wpAnyIn_ready (rs:=[2]) (by kernel_rfl) (by simp) ?_
     refine AllReadyIn.cons rfl (fun K hK=>?_) ?_
     ·rw [if_pos (by rfl)]
      unfold Oper.wpIn
      go_simp
      refine ⟨trivial,(fun h=>by cases h),?_⟩
      refine (callsIn_wide.2 (htw.out _)).mono ?_
      rintro e w3 ⟨rfl,b3⟩
      refine hK _ _ ?_
      clear hK K
      (refine' wpAnyIn_take (i:=3) rfl rfl (by kernel_rfl) (by kernel_rfl) (by kernel_rfl) (fun _ _ _ h=>h) ⟨Or.inl ⟨by rfl,?_⟩,fun _=>by rfl⟩ ?_;rotate_left;(· (intro wq;go_simp;first | done | with_reducible rfl));simp only [psA])
      (refine wpAnyIn_take (i:=4) (v:=undef) rfl rfl (by kernel_rfl) (by kernel_rfl) (by kernel_rfl) (fun _ _ _ h=>h) ⟨Or.inr ⟨by rfl,rfl⟩,fun _=>by rfl⟩ ?_;simp only [psA])
      (refine wpAnyIn_take (i:=5) (v:=undef) rfl rfl (by kernel_rfl) (by kernel_rfl) (by kernel_rfl) (fun _ _ _ h=>h) ⟨Or.inr ⟨by rfl,rfl⟩,fun _=>by rfl⟩ ?_;simp only [psA])
      (refine wpAnyIn_take (i:=7) (v:=undef) rfl rfl (by kernel_rfl) (by kernel_rfl) (by kernel_rfl) (fun _ _ _ h=>h) ⟨Or.inr ⟨by rfl,rfl⟩,fun _=>by rfl⟩ ?_;simp only [psA])
      refine wpAnyIn_ready (rs:=[6]) (by kernel_rfl) (by simp) ?_
      refine AllReadyIn.cons rfl (fun K hK=>?_) ?_
      rotate_left
      ·exact AllReadyIn.nil
      refine (if_neg (c:=_=true) (fun h=>Bool.false_ne_true (show false=true from h))).mpr ?_
      refine ⟨fun _ _=>trivial,hK _ _ ?_⟩
      clear hK K
      refine wpAnyIn_ready (rs:=[8]) (by kernel_rfl) (by simp) ?_
      refine AllReadyIn.cons rfl (fun K hK=>?_) ?_
      rotate_left
      ·exact AllReadyIn.nil
      refine (if_neg (c:=_=true) (fun h=>Bool.false_ne_true (show false=true from h))).mpr ?_
      refine ⟨fun _ _=>trivial,hK _ _ ?_⟩
      clear hK K
      (refine wpAnyIn_take (i:=9) (v:=undef) rfl rfl (by kernel_rfl) (by kernel_rfl) (by kernel_rfl) (fun _ _ _ h=>h) ⟨Or.inr ⟨by rfl,rfl⟩,fun _=>by rfl⟩ ?_;simp only [psA])
      (refine' wpAnyIn_take (i:=10) rfl rfl (by kernel_rfl) (by kernel_rfl) (by kernel_rfl) (fun _ _ _ h=>h) ⟨Or.inl ⟨by rfl,?_⟩,fun _=>by rfl⟩ ?_;rotate_left;(· (intro wq;go_simp;first | done | with_reducible rfl));simp only [psA])
      refine wpAnyIn_done (by kernel_rfl) ?_ _
      have J3:=hid (hJ'.out _ _ _ J1d.out (b3.mono S1d.out.1))
      have A3:=hid (A1d.out.keptAll b3)
      have X3:=hid (X1d.out.keptAll b3)
      have S3:=hid (show W.heap.size≤w3.heap.size∧SameOn S W w3 from ⟨by have:=b3.size;have:=S1d.out.1;omega,⟨Nat.le_trans S1d.out.2.1 b3.size,fun q hq hl=>((SameOn.below b3).2 q hq (Nat.lt_of_lt_of_le hl S1d.out.2.1)).trans (S1d.out.2.2 q hq hl)⟩⟩)
      clear J1d A1d X1d V1d D1d S1d bd b3 cX htw
      gi_wp2
      go_roundw
      case rel=>exact ⟨i+1,hi1.out,by simp,hid (by rw [hnx.out];exact J3.out),A3,X3,S3⟩
      case measure=>simp [intOf];have:=hi1.out;omega
     ·exact AllReadyIn.nil
    ·exact AllReadyIn.nil
   | true =>
    have hnx:=hid (elT_yes hu1.out hT)
    rw [hT] at htw
    clear hT
    have hpre:=hid (show L[(elT s vs i).length]? = some (Lib.itoa (i:Int),u1) from pre_get (by rw [← hnx.out,← hL.out];exact elT_pre s vs M (i+1) hi1.out))
    have hltL:=hid (List.getElem?_eq_some_iff.1 hpre.out).1
    have hln1:=hid (show (elT s vs (i+1)).length=(elT s vs i).length+1 by rw [hnx.out];simp)
    have hltL':=hid (show (elT s vs i).length+1≤L.length from hltL.out)
    refine wpIn_region_any (by kernel_rfl) ?_
    (refine' wpAnyIn_take (i:=1) rfl rfl (by kernel_rfl) (by kernel_rfl) (by kernel_rfl) (fun _ _ _ h=>h) ⟨Or.inl ⟨by rfl,?_⟩,fun _=>by rfl⟩ ?_;rotate_left;(· (intro wq;go_simp;first | done | with_reducible rfl));simp only [psA])
    refine wpAnyIn_ready (rs:=[0]) (by kernel_rfl) (by simp) ?_
    refine AllReadyIn.cons rfl (fun K hK=>?_) ?_
    ·rw [if_pos (by rfl)]
     unfold Oper.wpIn
     go_simp
     refine hK _ _ ?_
     clear hK K
     refine wpAnyIn_ready (rs:=[2]) (by kernel_rfl) (by simp) ?_
     refine AllReadyIn.cons rfl (fun K hK=>?_) ?_
     ·rw [if_pos (by rfl)]
      unfold Oper.wpIn
      go_simp
      refine ⟨trivial,(fun h=>by cases h),?_⟩
      refine (callsIn_wide.2 (htw.out _)).mono ?_
      rintro e w2 ⟨rfl,b2⟩
      refine hK _ _ ?_
      clear hK K
      have J2:=hid (hJ'.out _ _ _ J1d.out (b2.mono S1d.out.1))
      have A2:=hid (A1d.out.keptAll b2)
      have X2:=hid (X1d.out.keptAll b2)
      have V2:=hid (V1d.out.keptB b2)
      have D2:=hid (D1d.out.keptAll b2)
      have S2:=hid (show W.heap.size≤w2.heap.size∧SameOn S W w2 from ⟨by have:=b2.size;have:=S1d.out.1;omega,⟨Nat.le_trans S1d.out.2.1 b2.size,fun q hq hl=>((SameOn.below b2).2 q hq (Nat.lt_of_lt_of_le hl S1d.out.2.1)).trans (S1d.out.2.2 q hq hl)⟩⟩)
      have hPw:=hid (hGd'.out _ _ J2.out)
      have d0:=D2.out.cell 0
      have d1:=D2.out.cell 1
      have d2:=D2.out.cell 2
      have d3:=D2.out.cell 3
      have d4:=D2.out.cell 4
      have d5:=D2.out.cell 5
      simp only [List.getElem?_toArray,List.getElem?_cons_zero,List.getElem?_cons_succ] at d0 d1 d2 d3 d4 d5
      clear b2 J1d A1d X1d V1d D1d S1d bd cX htw
      (refine' wpAnyIn_take (i:=3) rfl rfl (by kernel_rfl) (by kernel_rfl) (by kernel_rfl) (fun _ _ _ h=>h) ⟨Or.inl ⟨by rfl,?_⟩,fun _=>by rfl⟩ ?_;rotate_left;(· (intro wq;go_simp;first | done | with_reducible rfl));simp only [psA])
      (refine' wpAnyIn_take (i:=4) rfl rfl (by kernel_rfl) (by kernel_rfl) (by kernel_rfl) (fun _ _ _ h=>h) ⟨Or.inl ⟨by rfl,?_⟩,fun _=>by rfl⟩ ?_;rotate_left;(· (intro wq;go_simp;first | done | with_reducible rfl));simp only [psA])
      (refine' wpAnyIn_take (i:=5) rfl rfl (by kernel_rfl) (by kernel_rfl) (by kernel_rfl) (fun _ _ _ h=>h) ⟨Or.inl ⟨by rfl,?_⟩,fun _=>by rfl⟩ ?_;rotate_left;(· (intro wq;go_simp;first | done | with_reducible rfl));simp only [psA])
      refine wpAnyIn_ready (rs:=[6,7]) (by kernel_rfl) (by simp) ?_
      refine AllReadyIn.cons rfl (fun K hK=>?_) ?_
      ·rw [if_pos (by rfl)]
       unfold Oper.wpIn
       go_simp
       refine ⟨trivial,(fun h=>by cases h),?_⟩
       refine (callsIn_wide.2 (itoa_calls (i:Int) (by omega) (by omega) _ hPw.out)).mono ?_
       rintro e w3 ⟨rfl,b3⟩
       refine hK _ _ ?_
       clear hK K
       have J3:=hid (hJ'.out _ _ _ J2.out (b3.mono (by have:=S2.out.1;omega)))
       have A3:=hid (A2.out.keptAll b3)
       have X3:=hid (X2.out.keptAll b3)
       have V3:=hid (V2.out.keptB b3)
       have D3:=hid (D2.out.keptAll b3)
       have S3:=hid (show W.heap.size≤w3.heap.size∧SameOn S W w3 from ⟨by have:=b3.size;have:=S2.out.1;omega,⟨Nat.le_trans S2.out.2.1 b3.size,fun q hq hl=>((SameOn.below b3).2 q hq (Nat.lt_of_lt_of_le hl S2.out.2.1)).trans (S2.out.2.2 q hq hl)⟩⟩)
       have hE:=hid (show KidE S0 L W.heap.size (elT s vs i).length w3.heap.size #[.string ⟨(Lib.itoa (i:Int)).toArray⟩,.agg #[.int .i64 k1,.bool b1,.string r1,.string t1,.slice ko1 N1 kc1,.slice vo1 M1 vc1]] w3 from ⟨Lib.itoa (i:Int),u1,_,hpre.out,rfl,S3.out.1,rfl,V3.out⟩)
       obtain ⟨fn,tmps,assign,body,hy,hRd⟩:=hY'.out _ _ _ w3 J3.out hltL.out hE.out
       have hRd':=hid hRd
       have e0:=D3.out.cell 0
       have e1:=D3.out.cell 1
       have e2:=D3.out.cell 2
       have e3:=D3.out.cell 3
       have e4:=D3.out.cell 4
       have e5:=D3.out.cell 5
       simp only [List.getElem?_toArray,List.getElem?_cons_zero,List.getElem?_cons_succ] at e0 e1 e2 e3 e4 e5
       clear hE hRd J2 A2 X2 S2 V2 D2 b3 d0 d1 d2 d3 d4 d5
       refine wpAnyIn_ready (rs:=[7]) (by kernel_rfl) (by simp) ?_
       refine AllReadyIn.cons rfl (fun K hK=>?_) ?_
       ·rw [if_pos (by rfl)]
        unfold Oper.wpIn
        go_simp
        refine hK _ _ ?_
        clear hK K
        refine wpAnyIn_ready (rs:=[8]) (by kernel_rfl) (by simp) ?_
        refine AllReadyIn.cons rfl (fun K hK=>?_) ?_
        ·rw [if_pos (by rfl)]
         unfold Oper.wpIn
         go_simp
         refine ⟨(fun h=>by cases h),?_⟩
         refine (hRd'.out).mono ?_
         rintro e W3 (⟨rfl,hJ4,hk4⟩ | ⟨rfl,hJx4,hk4⟩)
         ·refine hK _ _ ?_
          clear hK K
          (refine' wpAnyIn_take (i:=9) rfl rfl (by kernel_rfl) (by kernel_rfl) (by kernel_rfl) (fun _ _ _ h=>h) ⟨Or.inl ⟨by rfl,?_⟩,fun _=>by rfl⟩ ?_;rotate_left;(· (intro wq;go_simp;first | done | with_reducible rfl));simp only [psA])
          (refine' wpAnyIn_take (i:=10) rfl rfl (by kernel_rfl) (by kernel_rfl) (by kernel_rfl) (fun _ _ _ h=>h) ⟨Or.inl ⟨by rfl,?_⟩,fun _=>by rfl⟩ ?_;rotate_left;(· (intro wq;go_simp;first | done | with_reducible rfl));simp only [psA])
          refine wpAnyIn_done (by kernel_rfl) ?_ _
          have J4:=hid hJ4
          have A4:=hid (hk4.at A3.out (.inl hSv))
          have X4:=hid (hk4.at X3.out (.inl hSx))
          have S4:=hid (show W.heap.size≤W3.heap.size∧SameOn S W W3 from ⟨Nat.le_trans S3.out.1 hk4.1,⟨Nat.le_trans S3.out.2.1 hk4.1,fun q hq hl=>(hk4.sameS.2 q hq (Nat.lt_of_lt_of_le hl S3.out.2.1)).trans (S3.out.2.2 q hq hl)⟩⟩)
          clear hy hRd' hJ4 hk4 J3 A3 X3 S3 e0 e1 e2 e3 e4 e5
          gi_wp2
          go_roundw
          case rel=>exact ⟨i+1,hi1.out,by simp,hid (by rw [hln1.out];exact J4.out),A4,X4,S4⟩
          case measure=>simp [intOf];have:=hi1.out;omega
         ·refine hK _ _ ?_
          clear hK K
          (refine' wpAnyIn_take (i:=9) rfl rfl (by kernel_rfl) (by kernel_rfl) (by kernel_rfl) (fun _ _ _ h=>h) ⟨Or.inl ⟨by rfl,?_⟩,fun _=>by rfl⟩ ?_;rotate_left;(· (intro wq;go_simp;first | done | with_reducible rfl));simp only [psA])
          (refine' wpAnyIn_take (i:=10) rfl rfl (by kernel_rfl) (by kernel_rfl) (by kernel_rfl) (fun _ _ _ h=>h) ⟨Or.inl ⟨by rfl,?_⟩,fun _=>by rfl⟩ ?_;rotate_left;(· (intro wq;go_simp;first | done | with_reducible rfl));simp only [psA])
          refine wpAnyIn_done (by kernel_rfl) ?_ _
          have J4:=hid hJx4
          clear hy hRd' hJx4 hk4 J3 A3 X3 S3 e0 e1 e2 e3 e4 e5
          gi_wp2
          refine bodyPost_ret (v:=.tuple #[]) (by simp [results,Tryz.results114,go_sem]) rfl ?_
          exact ⟨⟨_,rfl⟩,.inr ⟨_,hltL'.out,J4.out⟩⟩
        ·exact AllReadyIn.nil
       ·exact AllReadyIn.nil
      ·refine AllReadyIn.cons rfl (fun K hK=>?_) ?_
       ·rw [if_pos (by rfl)]
        unfold Oper.wpIn
        go_simp
        refine hK _ _ ?_
        clear hK K
        refine wpAnyIn_ready (rs:=[6]) (by kernel_rfl) (by simp) ?_
        refine AllReadyIn.cons rfl (fun K hK=>?_) ?_
        ·rw [if_pos (by rfl)]
         unfold Oper.wpIn
         go_simp
         refine ⟨trivial,(fun h=>by cases h),?_⟩
         refine (callsIn_wide.2 (itoa_calls (i:Int) (by omega) (by omega) _ hPw.out)).mono ?_
         rintro e w3 ⟨rfl,b3⟩
         refine hK _ _ ?_
         clear hK K
         have J3:=hid (hJ'.out _ _ _ J2.out (b3.mono (by have:=S2.out.1;omega)))
         have A3:=hid (A2.out.keptAll b3)
         have X3:=hid (X2.out.keptAll b3)
         have V3:=hid (V2.out.keptB b3)
         have D3:=hid (D2.out.keptAll b3)
         have S3:=hid (show W.heap.size≤w3.heap.size∧SameOn S W w3 from ⟨by have:=b3.size;have:=S2.out.1;omega,⟨Nat.le_trans S2.out.2.1 b3.size,fun q hq hl=>((SameOn.below b3).2 q hq (Nat.lt_of_lt_of_le hl S2.out.2.1)).trans (S2.out.2.2 q hq hl)⟩⟩)
         have hE:=hid (show KidE S0 L W.heap.size (elT s vs i).length w3.heap.size #[.string ⟨(Lib.itoa (i:Int)).toArray⟩,.agg #[.int .i64 k1,.bool b1,.string r1,.string t1,.slice ko1 N1 kc1,.slice vo1 M1 vc1]] w3 from ⟨Lib.itoa (i:Int),u1,_,hpre.out,rfl,S3.out.1,rfl,V3.out⟩)
         obtain ⟨fn,tmps,assign,body,hy,hRd⟩:=hY'.out _ _ _ w3 J3.out hltL.out hE.out
         have hRd':=hid hRd
         have e0:=D3.out.cell 0
         have e1:=D3.out.cell 1
         have e2:=D3.out.cell 2
         have e3:=D3.out.cell 3
         have e4:=D3.out.cell 4
         have e5:=D3.out.cell 5
         simp only [List.getElem?_toArray,List.getElem?_cons_zero,List.getElem?_cons_succ] at e0 e1 e2 e3 e4 e5
         clear hE hRd J2 A2 X2 S2 V2 D2 b3 d0 d1 d2 d3 d4 d5
         refine wpAnyIn_ready (rs:=[8]) (by kernel_rfl) (by simp) ?_
         refine AllReadyIn.cons rfl (fun K hK=>?_) ?_
         ·rw [if_pos (by rfl)]
          unfold Oper.wpIn
          go_simp
          refine ⟨(fun h=>by cases h),?_⟩
          refine (hRd'.out).mono ?_
          rintro e W3 (⟨rfl,hJ4,hk4⟩ | ⟨rfl,hJx4,hk4⟩)
          ·refine hK _ _ ?_
           clear hK K
           (refine' wpAnyIn_take (i:=9) rfl rfl (by kernel_rfl) (by kernel_rfl) (by kernel_rfl) (fun _ _ _ h=>h) ⟨Or.inl ⟨by rfl,?_⟩,fun _=>by rfl⟩ ?_;rotate_left;(· (intro wq;go_simp;first | done | with_reducible rfl));simp only [psA])
           (refine' wpAnyIn_take (i:=10) rfl rfl (by kernel_rfl) (by kernel_rfl) (by kernel_rfl) (fun _ _ _ h=>h) ⟨Or.inl ⟨by rfl,?_⟩,fun _=>by rfl⟩ ?_;rotate_left;(· (intro wq;go_simp;first | done | with_reducible rfl));simp only [psA])
           refine wpAnyIn_done (by kernel_rfl) ?_ _
           have J4:=hid hJ4
           have A4:=hid (hk4.at A3.out (.inl hSv))
           have X4:=hid (hk4.at X3.out (.inl hSx))
           have S4:=hid (show W.heap.size≤W3.heap.size∧SameOn S W W3 from ⟨Nat.le_trans S3.out.1 hk4.1,⟨Nat.le_trans S3.out.2.1 hk4.1,fun q hq hl=>(hk4.sameS.2 q hq (Nat.lt_of_lt_of_le hl S3.out.2.1)).trans (S3.out.2.2 q hq hl)⟩⟩)
           clear hy hRd' hJ4 hk4 J3 A3 X3 S3 e0 e1 e2 e3 e4 e5
           gi_wp2
           go_roundw
           case rel=>exact ⟨i+1,hi1.out,by simp,hid (by rw [hln1.out];exact J4.out),A4,X4,S4⟩
           case measure=>simp [intOf];have:=hi1.out;omega
          ·refine hK _ _ ?_
           clear hK K
           (refine' wpAnyIn_take (i:=9) rfl rfl (by kernel_rfl) (by kernel_rfl) (by kernel_rfl) (fun _ _ _ h=>h) ⟨Or.inl ⟨by rfl,?_⟩,fun _=>by rfl⟩ ?_;rotate_left;(· (intro wq;go_simp;first | done | with_reducible rfl));simp only [psA])
           (refine' wpAnyIn_take (i:=10) rfl rfl (by kernel_rfl) (by kernel_rfl) (by kernel_rfl) (fun _ _ _ h=>h) ⟨Or.inl ⟨by rfl,?_⟩,fun _=>by rfl⟩ ?_;rotate_left;(· (intro wq;go_simp;first | done | with_reducible rfl));simp only [psA])
           refine wpAnyIn_done (by kernel_rfl) ?_ _
           have J4:=hid hJx4
           clear hy hRd' hJx4 hk4 J3 A3 X3 S3 e0 e1 e2 e3 e4 e5
           gi_wp2
           refine bodyPost_ret (v:=.tuple #[]) (by simp [results,Tryz.results114,go_sem]) rfl ?_
           exact ⟨⟨_,rfl⟩,.inr ⟨_,hltL'.out,J4.out⟩⟩
         ·exact AllReadyIn.nil
        ·exact AllReadyIn.nil
       ·exact AllReadyIn.nil
     ·exact AllReadyIn.nil
    ·exact AllReadyIn.nil
  ·obtain rfl:i=M:=by omega
   have hfin:=hid (show J L.length wr by rw [← hL.out];exact hJr.out)
   clear hJr
   gi_wp2
   refine bodyPost_end (results_none rfl _ _ _) rfl ?_
   exact ⟨⟨_,rfl⟩,.inl hfin.out⟩
end Go.Proofs.YtjcpamjeekfblaaGreatDoor

namespace Go.Proofs.YtjcpamjeekfblaaGreatDoor
open Go.RowKit Go.Shelf
theorem wpList_keysR {ops:Array Oper} {rest:List Oper} {o:Oper} {a:Act} {Q:Exit→Act→World→Prop} {W:World} {x y:Operand} {B:Nat} {v:Value} {ks:List ByteArray} {u:ByteArray} (hgd:o.guard=none) (ho:o.op = .call { callee:=.builtin .append,args:=#[x,y],argTypes:=#[56,56] })
  (hx:a.eval x=v) (h:KeysG B W v ks) (hu:u.size≤capT) (ad:Addr) (c:Nat) (hy:a.eval y = .slice (some ad) 1 c) (hC:W.cell? (ad.add 0)=some (.string u)) (hn:ks.length<1099511627776) (hB:B≤W.heap.size)
  (hr:∀ v' W',KeysG B W' v' (ks++[u])→W.grownBy W' v.ownBlock→wpList Tryz.prog ops Q rest (a.put o.dst v') W'):wpList Tryz.prog ops Q (o :: rest) a W:=by
 refine wpList_plain hgd fun _ hK=>?_
 obtain ⟨v',W',hrun,h1,h2,-⟩:=h.app (ty:=o.type) hu ad c hC hn hB
 unfold Oper.wp execOp
 simp only [ho,resolve,invoke,builtin,Sem.run_bind,Sem.run_pure,Result.andThen_ok,List.map_toArray,List.map_cons,List.map_nil,hx,hy,hrun]
 exact hK _ _ (hr v' W' h1 h2)
end Go.Proofs.YtjcpamjeekfblaaGreatDoor
