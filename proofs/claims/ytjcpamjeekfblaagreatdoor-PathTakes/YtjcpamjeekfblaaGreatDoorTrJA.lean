import Derived.Test.YtjcpamjeekfblaaGreatDoorPack3
import Derived.Test.YtjcpamjeekfblaaGreatDoorPack8
import Derived.Sort.Walk0
import Derived.Test.YtjcpamjeekfblaaGreatDoorPack4
import Derived.Deep.RegionHeld
/- Places ordered by names: the order of texts,rows that rise,and how two are put together (mathematics alone). -/
namespace Go.Proofs.YtjcpamjeekfblaaGreatDoor
open Go.RowKit Go.Shelf
def ltS (a b:ByteArray):Bool:=Op.bytesLess a.toList b.toList
theorem bl_irrefl:∀ (x:List UInt8),Op.bytesLess x x=false
 | []=>by simp [Op.bytesLess]
 | a :: x=>by simp [Op.bytesLess,bl_irrefl x]
theorem bl_trans:∀ (x y z:List UInt8),Op.bytesLess x y=true→Op.bytesLess y z=true→Op.bytesLess x z=true
 | x,y,[],_,h=>by cases y <;> simp [Op.bytesLess] at h
 | [],y,c :: z,_,_=>by simp [Op.bytesLess]
 | a :: x,[],c :: z,h,_=>by simp [Op.bytesLess] at h
 | a :: x,b :: y,c :: z,h1,h2=>by
  simp only [Op.bytesLess,Bool.or_eq_true,Bool.and_eq_true,decide_eq_true_eq,beq_iff_eq] at h1 h2 ⊢
  rcases h1 with h1 | ⟨rfl,h1⟩ <;> rcases h2 with h2 | ⟨rfl,h2⟩
  ·exact .inl (UInt8.lt_trans h1 h2)
  ·exact .inl h1
  ·exact .inl h2
  ·exact .inr ⟨rfl,bl_trans x y z h1 h2⟩
def keyA (L:List ByteArray) (i:Nat):ByteArray:=L.getD i ByteArray.empty
theorem keyA_get {L:List ByteArray} {i:Nat} {k:ByteArray} (h:L[i]? = some k):keyA L i=k:=by unfold keyA;rw [List.getD_eq_getElem?_getD,h];rfl
def ltK (L:List ByteArray) (a b:Nat):Prop:=ltS (keyA L a) (keyA L b)=true∨(keyA L a=keyA L b∧a<b)
theorem ltK_irrefl (L:List ByteArray) (a:Nat):¬ ltK L a a:=fun h=>by
 rcases h with h | ⟨-,h⟩
 ·unfold ltS at h;rw [bl_irrefl] at h;cases h
 ·omega
theorem ltK_trans {L:List ByteArray} {a b c:Nat} (h1:ltK L a b) (h2:ltK L b c):ltK L a c:=by
 rcases h1 with h1 | ⟨e1,h1⟩ <;> rcases h2 with h2 | ⟨e2,h2⟩
 ·exact .inl (bl_trans _ _ _ h1 h2)
 ·exact .inl (by rw [← e2];exact h1)
 ·exact .inl (by rw [e1];exact h2)
 ·exact .inr ⟨e1.trans e2,by omega⟩
def Ris (L:List ByteArray) (P:List Nat):Prop:=P.Pairwise (ltK L)
structure Mrg (L:List ByteArray) (A B P:List Nat) (i k:Nat):Prop where
 ris:Ris L P
 low:∀ p ∈ P,(∀ a ∈ A.drop i,ltK L p a)∧∀ b ∈ B.drop k,ltK L p b
 mem:∀ p ∈ P,p ∈ A∨p ∈ B
 len:P.length=i+k
theorem Mrg.take {L:List ByteArray} {A B P:List Nat} {i k a:Nat} (h:Mrg L A B P i k) (hA:Ris L A) (hB:Ris L B) (ha:A[i]? = some a) (hb:∀ b,B[k]? = some b→ltK L a b):Mrg L A B (P++[a]) (i+1) k:=by
 have hd:=drop_some ha
 have hpa:∀ p ∈ P,ltK L p a:=fun p hp=>(h.low p hp).1 a (by rw [hd];exact List.mem_cons_self)
 refine ⟨?_,?_,?_,by rw [List.length_append,h.len];simp;omega⟩
 ·unfold Ris
  rw [List.pairwise_append]
  refine ⟨h.ris,List.pairwise_singleton _ _,fun x hx y hy=>?_⟩
  simp at hy
  subst hy
  exact hpa x hx
 ·intro p hp
  rw [List.mem_append] at hp
  rcases hp with hp | hp
  ·obtain ⟨l1,l2⟩:=h.low p hp
   exact ⟨fun x hx=>l1 x (by rw [hd];exact List.mem_cons_of_mem _ hx),l2⟩
  ·simp at hp
   subst hp
   refine ⟨fun x hx=>?_,fun x hx=>?_⟩
   ·have hA2:Ris L (A.drop i):=List.Pairwise.sublist (List.drop_sublist i A) hA
    rw [hd] at hA2
    exact (List.pairwise_cons.mp hA2).1 x hx
   ·cases hk:B[k]? with
    | none =>
     rw [List.drop_of_length_le (List.getElem?_eq_none_iff.mp hk)] at hx
     simp at hx
    | some b =>
     have hd2:=drop_some hk
     have hB2:Ris L (B.drop k):=List.Pairwise.sublist (List.drop_sublist k B) hB
     rw [hd2] at hx hB2
     rcases List.mem_cons.mp hx with e | hx
     ·rw [e];exact hb b hk
     ·exact ltK_trans (hb b hk) ((List.pairwise_cons.mp hB2).1 x hx)
 ·intro p hp
  rw [List.mem_append] at hp
  rcases hp with hp | hp
  ·exact h.mem p hp
  ·simp at hp
   subst hp
   exact .inl (List.mem_of_getElem? ha)
def blk (O:List Nat) (f wd:Nat):List Nat:=(O.drop f).take wd
structure Blk (L:List ByteArray) (O:List Nat) (f wd:Nat):Prop where
 ris:Ris L (blk O f wd)
 rng:∀ x ∈ blk O f wd,f≤x∧x<f+wd∧x<L.length
def Runs (L:List ByteArray) (wd:Nat) (O:List Nat):Prop:=O.length=L.length∧∀ m,Blk L O (m*wd) wd
def Half (L:List ByteArray) (wd m:Nat) (Q:List Nat):Prop:=Q.length=min (m*(2*wd)) L.length∧∀ j,j<m→Blk L Q (j*(2*wd)) (2*wd)
theorem blk_len (O:List Nat) (f wd:Nat):(blk O f wd).length=min wd (O.length-f):=by unfold blk;rw [List.length_take,List.length_drop]
theorem Half.next {L:List ByteArray} {wd m:Nat} {Q O P:List Nat} (hw:0<wd) (h:Half L wd m Q) (hf:m*(2*wd)<L.length) (hO:Runs L wd O)
  (hM:Mrg L (blk O (m*(2*wd)) wd) (blk O (m*(2*wd)+wd) wd) P (blk O (m*(2*wd)) wd).length (blk O (m*(2*wd)+wd) wd).length):Half L wd (m+1) (Q++P):=by
 obtain ⟨h1,h2⟩:=h
 obtain ⟨o1,o2⟩:=hO
 have e1:m*(2*wd)=2*m*wd:=by rw [Nat.mul_comm 2 m,Nat.mul_assoc]
 have e2:m*(2*wd)+wd=(2*m+1)*wd:=by rw [Nat.add_mul,← e1];omega
 have e3:(m+1)*(2*wd)=m*(2*wd)+2*wd:=by rw [Nat.add_mul];omega
 have hA:=o2 (2*m)
 have hB:=o2 (2*m+1)
 rw [← e1] at hA
 rw [← e2] at hB
 have hl:=hM.len
 rw [blk_len,blk_len,o1] at hl
 have hQ:Q.length=m*(2*wd):=by rw [h1];omega
 refine ⟨by rw [List.length_append,hQ,hl,e3];omega,fun j hj=>?_⟩
 by_cases hjm:j<m
 ·have hle:j*(2*wd)+2*wd≤m*(2*wd):=by
   have:(j+1)*(2*wd)≤m*(2*wd):=Nat.mul_le_mul_right _ hjm
   rw [Nat.add_mul] at this
   omega
  have e:blk (Q++P) (j*(2*wd)) (2*wd)=blk Q (j*(2*wd)) (2*wd):=by
   unfold blk
   rw [List.drop_append_of_le_length (by omega),List.take_append_of_le_length (by rw [List.length_drop];omega)]
  obtain ⟨r1,r2⟩:=h2 j hjm
  exact ⟨by rw [e];exact r1,by rw [e];exact r2⟩
 ·obtain rfl:j=m:=by omega
  have e:blk (Q++P) (j*(2*wd)) (2*wd)=P:=by
   unfold blk
   rw [List.drop_append,List.drop_of_length_le (by omega),List.nil_append,hQ,Nat.sub_self,List.drop_zero,List.take_of_length_le (by rw [hl];omega)]
  refine ⟨by rw [e];exact hM.ris,fun x hx=>?_⟩
  rw [e] at hx
  rcases hM.mem x hx with hx | hx
  ·have:=hA.rng x hx;omega
  ·have:=hB.rng x hx;omega
theorem Half.done {L:List ByteArray} {wd m:Nat} {Q:List Nat} (h:Half L wd m Q) (hf:L.length≤m*(2*wd)):Runs L (2*wd) Q:=by
 obtain ⟨h1,h2⟩:=h
 refine ⟨by rw [h1];omega,fun j=>?_⟩
 by_cases hj:j<m
 ·exact h2 j hj
 ·have hle:m*(2*wd)≤j*(2*wd):=Nat.mul_le_mul_right _ (by omega)
  have e:blk Q (j*(2*wd)) (2*wd)=[]:=by
   unfold blk
   rw [List.drop_of_length_le (by rw [h1];omega)]
   simp
  exact ⟨by rw [e];exact List.Pairwise.nil,by rw [e];intro x hx;simp at hx⟩
structure IsOrd (L:List ByteArray) (O:List Nat):Prop where
 len:O.length=L.length
 ris:Ris L O
 rng:∀ x ∈ O,x<L.length
theorem Runs.done {L:List ByteArray} {wd:Nat} {O:List Nat} (h:Runs L wd O) (hw:L.length≤wd):IsOrd L O:=by
 obtain ⟨h1,h2⟩:=h
 have hb:=h2 0
 have e:blk O (0*wd) wd=O:=by
  unfold blk
  rw [Nat.zero_mul,List.drop_zero,List.take_of_length_le (by omega)]
 exact ⟨h1,by have:=hb.ris;rwa [e] at this,fun x hx=>(hb.rng x (by rw [e];exact hx)).2.2⟩
theorem nodup_le:∀ (n:Nat) (l:List Nat),l.Nodup→(∀ x ∈ l,x<n)→l.length≤n
 | 0,l,_,h=>by
  cases l with
  | nil=>simp
  | cons a l=>exact absurd (h a List.mem_cons_self) (by omega)
 | n+1,l,hn,h=>by
  have h1:=nodup_le n (l.erase n) (hn.erase n) (fun x hx=>by
   have hx1:=(hn.mem_erase_iff).mp hx
   have:=h x hx1.2
   omega)
  have h2:l.length≤(l.erase n).length+1:=by
   by_cases hm:n ∈ l
   ·rw [List.length_erase_of_mem hm];omega
   ·rw [List.erase_of_not_mem hm];omega
  omega
theorem IsOrd.nodup {L:List ByteArray} {O:List Nat} (h:IsOrd L O):O.Nodup:=List.Pairwise.imp (fun {a b} hab e=>by subst e;exact ltK_irrefl L a hab) h.ris
theorem IsOrd.all {L:List ByteArray} {O:List Nat} (h:IsOrd L O) {i:Nat} (hi:i<L.length):∃ j:Nat,O[j]? = some i:=by
 by_cases hm:i ∈ O
 ·exact List.getElem?_of_mem hm
 ·exfalso
  have:=nodup_le L.length (i :: O) (List.nodup_cons.mpr ⟨hm,h.nodup⟩) (fun x hx=>by
   rcases List.mem_cons.mp hx with e | hx
   ·omega
   ·exact h.rng x hx)
  rw [List.length_cons,h.len] at this
  omega
theorem IsOrd.lt {L:List ByteArray} {O:List Nat} (h:IsOrd L O) {i j a b:Nat} (hi:O[i]? = some a) (hj:O[j]? = some b) (hij:i<j):ltK L a b:=by
 obtain ⟨h1,e1⟩:=List.getElem?_eq_some_iff.mp hi
 obtain ⟨h2,e2⟩:=List.getElem?_eq_some_iff.mp hj
 have:=List.pairwise_iff_getElem.mp h.ris i j h1 h2 hij
 rwa [e1,e2] at this
end Go.Proofs.YtjcpamjeekfblaaGreatDoor
/- quarryref17.Ordered: the places of names,in order. -/
namespace Go.Proofs.YtjcpamjeekfblaaGreatDoor
open Go.RowKit Go.Shelf
end Go.Proofs.YtjcpamjeekfblaaGreatDoor
/- quarryref17.Place: the first place of a name,by the places in order. -/
namespace Go.Proofs.YtjcpamjeekfblaaGreatDoor
open Go.RowKit Go.Shelf
theorem ltK_less {L:List ByteArray} {a b:Nat} {nm:ByteArray} (h:ltK L a b) (hb:ltS (keyA L b) nm=true):ltS (keyA L a) nm=true:=by
 rcases h with h | ⟨h,-⟩
 ·exact bl_trans _ _ _ h hb
 ·rw [h];exact hb
theorem ltK_more {L:List ByteArray} {a b:Nat} {nm:ByteArray} (h:ltK L a b) (ha:ltS (keyA L a) nm=false):ltS (keyA L b) nm=false:=by
 cases hb:ltS (keyA L b) nm with
 | false=>rfl
 | true=>rw [ltK_less h hb] at ha;cases ha
structure Bin (L:List ByteArray) (O:List Nat) (nm:ByteArray) (lo hi:Nat):Prop where
 le:lo≤hi
 lt:∀ j a:Nat,j<lo→O[j]? = some a→ltS (keyA L a) nm=true
 ge:∀ j a:Nat,hi≤j→O[j]? = some a→ltS (keyA L a) nm=false
theorem Bin.up {L:List ByteArray} {O:List Nat} {nm:ByteArray} {lo hi md a:Nat} (h:Bin L O nm lo hi) (hO:IsOrd L O) (h2:md<hi) (ha:O[md]? = some a) (hl:ltS (keyA L a) nm=true):Bin L O nm (md+1) hi :=
 ⟨by omega,fun j b hj hb=>by
  by_cases e:j=md
  ·subst e;rw [ha] at hb;injection hb with hb;subst hb;exact hl
  ·exact ltK_less (hO.lt hb ha (by omega)) hl,h.ge⟩
theorem Bin.down {L:List ByteArray} {O:List Nat} {nm:ByteArray} {lo hi md a:Nat} (h:Bin L O nm lo hi) (hO:IsOrd L O) (h1:lo≤md) (ha:O[md]? = some a) (hl:ltS (keyA L a) nm=false):Bin L O nm lo md :=
 ⟨h1,h.lt,fun j b hj hb=>by
  by_cases e:j=md
  ·subst e;rw [ha] at hb;injection hb with hb;subst hb;exact hl
  ·exact ltK_more (hO.lt ha hb (by omega)) hl⟩
theorem Bin.none {L:List ByteArray} {O:List Nat} {nm:ByteArray} {lo:Nat} (h:Bin L O nm lo lo) (hO:IsOrd L O) (hn:∀ a,O[lo]? = some a→keyA L a≠nm):IsFst L nm (-1):=by
 refine .inl ⟨rfl,fun j hj=>?_⟩
 have hjl:=(List.getElem?_eq_some_iff.mp hj).1
 obtain ⟨p,hp⟩:=hO.all hjl
 have hk:=keyA_get hj
 have hirr:ltS nm nm=false:=bl_irrefl _
 rcases Nat.lt_trichotomy p lo with e | e | e
 ·have:=h.lt p j e hp
  rw [hk,hirr] at this
  cases this
 ·subst e
  exact hn j hp hk
 ·have hlo:lo<O.length:=by have:=(List.getElem?_eq_some_iff.mp hp).1;omega
  obtain ⟨a,ha⟩:∃ a,O[lo]? = some a:=⟨_,List.getElem?_eq_getElem hlo⟩
  have h1:=h.ge lo a (Nat.le_refl _) ha
  rcases hO.lt ha hp e with g | ⟨g,-⟩
  ·rw [hk] at g
   rw [g] at h1
   cases h1
  ·exact hn a ha (by rw [g,hk])
theorem Bin.some {L:List ByteArray} {O:List Nat} {nm:ByteArray} {lo a:Nat} (h:Bin L O nm lo lo) (hO:IsOrd L O) (ha:O[lo]? = Option.some a) (hk:keyA L a=nm):IsFst L nm (a:Int):=by
 have hal:=hO.rng a (List.mem_of_getElem? ha)
 refine .inr ⟨a,rfl,?_,fun j hj hjn=>?_⟩
 ·have:L[a]? = Option.some (L[a]):=List.getElem?_eq_getElem hal
  rw [this,← keyA_get this,hk]
 ·have hjl:=(List.getElem?_eq_some_iff.mp hjn).1
  obtain ⟨p,hp⟩:=hO.all hjl
  have hkj:=keyA_get hjn
  have hirr:ltS nm nm=false:=bl_irrefl _
  rcases Nat.lt_trichotomy p lo with e | e | e
  ·have:=h.lt p j e hp
   rw [hkj,hirr] at this
   cases this
  ·subst e
   rw [ha] at hp
   injection hp with hp
   omega
  ·rcases hO.lt ha hp e with g | ⟨-,g⟩
   ·rw [hk,hkj,hirr] at g
    cases g
   ·omega
def OrdAt (w:World) (oo:Option Addr) (O:List Nat):Prop:=∀ t p:Nat,O[t]? = some p→∃ g,oo=some ⟨g,0,none⟩∧g<w.heap.size∧w.cell? ⟨g,t,none⟩=some (.int .i64 (p:Int))
theorem OrdAt.kept {w w':World} {oo:Option Addr} {O:List Nat} (h:OrdAt w oo O) (hb:Below w.heap.size w w'):OrdAt w' oo O:=fun t p ht=>by
 obtain ⟨g,h1,h2,h3⟩:=h t p ht
 exact ⟨g,h1,by have:=hb.size;omega,(hb.cell (p:=⟨g,t,none⟩) h2).trans h3⟩
end Go.Proofs.YtjcpamjeekfblaaGreatDoor
/- quarryref17.has: does one object have all names of another? -/
namespace Go.Proofs.YtjcpamjeekfblaaGreatDoor
open Go.RowKit Go.Shelf
end Go.Proofs.YtjcpamjeekfblaaGreatDoor
