/-
  Texts of mine that others lean on, one behind the other.
-/
import Derived.Test.YtjcpamjeekfblaaGreatDoorPack1
import Derived.Test.YtjcpamjeekfblaaGreatDoorRows
import Derived.ChangeSlices
import Derived.SizedLaws
import Derived.Lib.Strings
import Derived.BigQuiet
import Derived.Deep.Cut
import Derived.Lib.TrimByte
import Derived.Shelf.Strings.Trim
import Derived.Shelf.LaysM
import Derived.Shelf.Strconv.Clone
import Derived.Test.YtjcpamjeekfblaaGreatDoorProg
import Derived.KernelRfl
/- Values as trees,and how they lie in memory;a value that comes in. -/
namespace Go.Proofs.YtjcpamjeekfblaaGreatDoor
open Go.ChangeShapes Go.WideShapes Go.ChangeAt Go.RowKit
set_option maxRecDepth 100000
inductive Vt where
 | mk (kind:Int) (b:Bool) (raw text:ByteArray) (keys:List ByteArray) (kids:List Vt)
def Vt.kind:Vt→Int | .mk k _ _ _ _ _=>k
def Vt.b:Vt→Bool | .mk _ b _ _ _ _=>b
def Vt.raw:Vt→ByteArray | .mk _ _ r _ _ _=>r
def Vt.text:Vt→ByteArray | .mk _ _ _ t _ _=>t
def Vt.keys:Vt→List ByteArray | .mk _ _ _ _ ks _=>ks
def Vt.kids:Vt→List Vt | .mk _ _ _ _ _ vs=>vs
def capT:Nat:=140737488351232
def KeysAt (w:World) (ao:Option Addr) (ks:List ByteArray):Prop:=∀ (i:Nat) (s:ByteArray),ks[i]? = some s→s.size≤capT∧∃ b off,ao=some ⟨b,off,none⟩∧b<w.heap.size∧w.cell? ⟨b,off+i,none⟩=some (.string s)
def RowAt (w:World) (ao:Option Addr) (n:Nat) (X:Nat→Array Value):Prop:=∀ i,i<n→(X i).size=6∧∃ b off,ao=some ⟨b,off,none⟩∧b<w.heap.size∧∀ j,j<6→w.cell? ⟨b,off+i*6+j,none⟩=(X i)[j]?
inductive ValAt (w:World):Vt→Value→Prop
 | mk (k:Int) (b:Bool) (r t:ByteArray) (ks:List ByteArray) (vs:List Vt) (ko:Option Addr) (kc:Nat) (vo:Option Addr) (vc:Nat) (X:Nat→Array Value)
   (hw:(Lit.int .i64 k).wf=true) (hz:r.size≤capT∧t.size≤capT∧ks.length≤capT∧vs.length≤capT) (hk:KeysAt w ko ks) (hr:RowAt w vo vs.length X) (hv:∀ (i:Nat) (u:Vt),vs[i]? = some u→ValAt w u (.agg (X i))) :
   ValAt w (.mk k b r t ks vs) (.agg #[.int .i64 k,.bool b,.string r,.string t,.slice ko ks.length kc,.slice vo vs.length vc])
theorem KeysAt.kept {w w':World} {ao:Option Addr} {ks:List ByteArray} (h:KeysAt w ao ks) (hb:Below w.heap.size w w'):KeysAt w' ao ks:=fun i s hi=>by
 obtain ⟨h0,b,off,h1,h2,h3⟩:=h i s hi
 exact ⟨h0,b,off,h1,Nat.lt_of_lt_of_le h2 hb.size,(hb.cell (p:=⟨b,off+i,none⟩) h2).trans h3⟩
theorem RowAt.kept {w w':World} {ao:Option Addr} {n:Nat} {X:Nat→Array Value} (h:RowAt w ao n X) (hb:Below w.heap.size w w'):RowAt w' ao n X:=fun i hi=>by
 obtain ⟨h0,b,off,h1,h2,h3⟩:=h i hi
 exact ⟨h0,b,off,h1,Nat.lt_of_lt_of_le h2 hb.size,fun j hj=>(hb.cell (p:=⟨b,off+i*6+j,none⟩) h2).trans (h3 j hj)⟩
theorem ValAt.kept {w w':World} {t:Vt} {v:Value} (h:ValAt w t v) (hb:Below w.heap.size w w'):ValAt w' t v:=by
 induction h with
 | mk k b r t ks vs ko kc vo vc X hw hz hk hr hv ih=>exact .mk k b r t ks vs ko kc vo vc X hw hz (hk.kept hb) (hr.kept hb) ih
section
variable {H:Type} {enc:TypeId × Value→H} {w:World} {base:Nat} {spare:Nat→Bool} {held:Bool}
theorem cell_ltT {w:World} {a:Addr} {v:Value} (h:w.cell? a=some v):a.block<w.heap.size:=by
 unfold World.cell? at h
 cases ho:w.heap[a.block]? with
 | none=>simp [ho] at h
 | some o=>exact (Array.getElem?_eq_some_iff.1 ho).1
end
end Go.Proofs.YtjcpamjeekfblaaGreatDoor
/- quarryref00.SameTexts and SameValue: whether two lists of texts,two values,are the same. -/
namespace Go.Proofs.YtjcpamjeekfblaaGreatDoor
open Go.RowKit Go.Shelf
theorem text_beq (a b:ByteArray):(a.toList != b.toList) = !decide (a=b):=by
 by_cases h:a=b
 ·subst h;simp
 ·rw [decide_eq_false h]
  have:(a.toList == b.toList)=false:=by
   rw [beq_eq_false_iff_ne]
   intro e
   apply h
   apply ByteArray.ext
   have h2:a.data.toList=b.data.toList:=by rw [← Lib.toList_data,← Lib.toList_data,e]
   exact Array.toList_inj.1 h2
  simp [bne,this]
theorem kid_size {k:Int} {b:Bool} {r t:ByteArray} {ks:List ByteArray} {vs:List Vt} {i:Nat} {u:Vt} (h:vs[i]? = some u):SizeOf.sizeOf u<SizeOf.sizeOf (Vt.mk k b r t ks vs):=by
 have h1:=List.sizeOf_lt_of_mem (List.mem_of_getElem? h)
 simp only [Vt.mk.sizeOf_spec]
 omega
theorem ValAt.cells {w:World} {u:Vt} {x:Array Value} (h:ValAt w u (.agg x)):∃ ko kc vo vc,x = #[.int .i64 u.kind,.bool u.b,.string u.raw,.string u.text,.slice ko u.keys.length kc,.slice vo u.kids.length vc]:=by
 cases h with
 | mk k b r t ks vs ko kc vo vc X hw hz hk hr hv=>exact ⟨ko,kc,vo,vc,rfl⟩
end Go.Proofs.YtjcpamjeekfblaaGreatDoor
/- quarryref00.SameValue: whether two values are the same. -/
namespace Go.Proofs.YtjcpamjeekfblaaGreatDoor
open Go.RowKit Go.Shelf
theorem sizeVl:(Tryz.prog.info? 59).map (·.size)=some 6:=by kernel_rfl
theorem row_range {w:World} {vo:Option Addr} {n:Nat} {X:Nat→Array Value} (h:RowAt w vo n X) {i:Nat} (hi:i<n):∃ b off,vo=some ⟨b,off,none⟩∧b<w.heap.size∧w.rangeAt b (off+i*6) (X i).toList∧(X i).toList.length=6:=by
 obtain ⟨h0,b,off,h1,h2,h3⟩:=h i hi
 refine ⟨b,off,h1,h2,fun j v hv=>?_,by rw [Array.length_toList];exact h0⟩
 have hj:j<6:=by
  have:=(List.getElem?_eq_some_iff.1 hv).1
  rw [Array.length_toList,h0] at this
  exact this
 rw [h3 j hj]
 simpa using hv
end Go.Proofs.YtjcpamjeekfblaaGreatDoor

namespace Go.Proofs.YtjcpamjeekfblaaGreatDoor
open Go.RowKit Go.Shelf
theorem ValAt.six {w:World} {u:Vt} {L:List Value} (h:ValAt w u (.agg L.toArray)):∃ k b r t ko N kc vo M vc,L=[.int .i64 k,.bool b,.string r,.string t,.slice ko N kc,.slice vo M vc]:=by
 obtain ⟨ko,kc,vo,vc,h⟩:=h.cells
 exact ⟨_,_,_,_,_,_,_,_,_,_,by simpa using congrArg Array.toList h⟩
end Go.Proofs.YtjcpamjeekfblaaGreatDoor

namespace Go.Proofs.YtjcpamjeekfblaaGreatDoor
open Go.RowKit Go.Shelf
theorem drop_some {α:Type} {L:List α} {i:Nat} {x:α} (h:L[i]? = some x):L.drop i=x :: L.drop (i+1):=by
 obtain ⟨h1,h2⟩:=List.getElem?_eq_some_iff.mp h
 rw [List.drop_eq_getElem_cons h1,h2]
end Go.Proofs.YtjcpamjeekfblaaGreatDoor

/- What the reference reckons of the first bytes of a form: the least and the greatest number that they can begin;that goes together with the state. -/
namespace Go.Proofs.YtjcpamjeekfblaaGreatDoor
end Go.Proofs.YtjcpamjeekfblaaGreatDoor
/- How a text is gone through,form by form. -/
namespace Go.Proofs.YtjcpamjeekfblaaGreatDoor
def telOf (s:ByteArray):List (Nat × Nat):=tel s5.q 0 0 0 (byts s)
def WalkAt (s:ByteArray) (p i:Nat) (b:List Nat) (q:Q5) (r:Nat) (pre:List (Nat × Nat)):Prop :=
 p+b.length=i∧i≤s.size∧b=((byts s).drop p).take b.length∧FormAt b q r∧runS s5 ((byts s).take i)=⟨i,false,q⟩∧telOf s=pre++tel q p r i ((byts s).drop i)∧pre.length≤p
theorem WalkAt.start (s:ByteArray):WalkAt s 0 0 [] s5.q 0 []:=⟨rfl,Nat.zero_le _,rfl,rfl,rfl,rfl,Nat.zero_le _⟩
section
variable {s:ByteArray} {p i:Nat} {b:List Nat} {q:Q5} {r:Nat} {pre:List (Nat × Nat)}
theorem WalkAt.bad (h:WalkAt s p i b q r pre) (hi:i<s.size) (hs:stp q (byt s i)=none):badOf s=i∧telOf s=pre:=by
 obtain ⟨h1,h2,h3,h4,h5,h6,h7⟩:=h
 constructor
 ·unfold badOf
  have e:byts s=(byts s).take (i+1)++(byts s).drop (i+1):=(List.take_append_drop _ _).symm
  rw [e,runS_append,byts_take s i hi,runS_snoc,h5,tk_none rfl hs,runS_wrong rfl]
  rfl
 ·rw [h6,byts_drop s i hi,tel,hs]
  exact List.append_nil _
theorem WalkAt.next (h:WalkAt s p i b q r pre) (hi:i<s.size) {q':Q5} (hs:stp q (byt s i)=some q') :
  (q'.left=0→WalkAt s (i+1) (i+1) [] q' (nextR b r (byt s i) q'.left) (pre++[(p,nextR b r (byt s i) q'.left)])) ∧
   (q'.left≠0→WalkAt s p (i+1) (b++[byt s i]) q' (nextR b r (byt s i) q'.left) pre):=by
 obtain ⟨h1,h2,h3,h4,h5,h6,h7⟩:=h
 have hrun:runS s5 ((byts s).take (i+1))=⟨i+1,false,q'⟩:=by rw [byts_take s i hi,runS_snoc,h5,tk_some rfl hs]
 have hr:(if i=p then byt s i &&& (127 >>> q'.left) else r*64+byt s i % 64)=nextR b r (byt s i) q'.left:=by
  unfold nextR
  by_cases e:b=[]
  ·subst e
   rw [if_pos (by simpa using h1.symm),if_pos rfl]
  ·rw [if_neg e,if_neg]
   intro k
   apply e
   apply List.eq_nil_of_length_eq_zero
   omega
 have hb:b++[byt s i]=((byts s).drop p).take (b++[byt s i]).length:=by
  have hd:=byts_drop s i hi
  rw [List.length_append,List.length_cons,List.length_nil,Nat.zero_add,List.take_add_one,← h3,List.getElem?_drop,h1,byts_get s i hi]
  rfl
 rcases form_step h4 (byt_lt s i) hs with ⟨a,_,_⟩ | ⟨a,c⟩
 ·refine ⟨fun _=>⟨rfl,hi,by simp,a,hrun,?_,by simp;omega⟩,fun k=>absurd a k⟩
  rw [h6,byts_drop s i hi,tel,hs]
  simp only [if_pos a]
  rw [hr,List.append_assoc]
  rfl
 ·refine ⟨fun k=>by omega,fun _=>⟨by simp;omega,hi,hb,c,hrun,?_,h7⟩⟩
  rw [h6,byts_drop s i hi,tel,hs]
  simp only [if_neg (show ¬ q'.left=0 by omega)]
  rw [hr]
theorem WalkAt.done (h:WalkAt s p s.size b q r pre):telOf s=pre∧badOf s=(if q.left=0 then -1 else (s.size:Int)):=by
 obtain ⟨h1,h2,h3,h4,h5,h6,h7⟩:=h
 constructor
 ·rw [h6,List.drop_of_length_le (by rw [byts_length];exact Nat.le_refl _),tel]
  exact List.append_nil _
 ·unfold badOf
  rw [byts_whole] at h5
  rw [h5]
  unfold badI
  by_cases e:q.left=0
  ·rw [if_pos e,if_neg]
   intro k
   rcases k with k | k
   ·cases k
   ·have:0<q.left:=k
    omega
  ·rw [if_neg e,if_pos (.inr (by show 0<q.left;omega))]
end
end Go.Proofs.YtjcpamjeekfblaaGreatDoor

namespace Go.Proofs.YtjcpamjeekfblaaGreatDoor
open Go.RowKit
def lk (s:ByteArray) (i:Nat):Nat:=if h:i<s.size then (s[i]'h).toNat else 0
theorem lk_at (s:ByteArray) (i:Nat) (h:i<s.size):lk s i=(s[i]'h).toNat:=dif_pos h
theorem lk_out (s:ByteArray) (i:Nat) (h:s.size≤i):lk s i=0:=dif_neg (by omega)
theorem lk_in {s:ByteArray} {i:Nat} (h:0<lk s i):i<s.size:=by
 rcases Nat.lt_or_ge i s.size with h1 | h1
 ·exact h1
 ·rw [lk_out s i h1] at h;omega
def dgB (x:Nat):Bool:=decide (48≤x∧x≤57)
theorem dgB_iff (x:Nat):dgB x=true ↔ 48≤x∧x≤57:=by simp [dgB]
def rnF (s:ByteArray):Nat→Nat→Nat
 | 0,a=>a
 | n+1,a=>if dgB (lk s a) then rnF s n (a+1) else a
def rn (s:ByteArray) (a:Nat):Nat:=rnF s (s.size-a) a
theorem rnF_ge (s:ByteArray):∀ n a,a≤rnF s n a
 | 0,a=>Nat.le_refl a
 | n+1,a=>by
  unfold rnF
  split
  ·have:=rnF_ge s n (a+1);omega
  ·exact Nat.le_refl a
theorem rnF_le (s:ByteArray):∀ n a,rnF s n a≤a+n
 | 0,a=>Nat.le_refl a
 | n+1,a=>by
  unfold rnF
  split
  ·have:=rnF_le s n (a+1);omega
  ·omega
theorem rnF_dig (s:ByteArray):∀ n a i,a≤i→i<rnF s n a→dgB (lk s i)=true
 | 0,a,i,h1,h2=>by unfold rnF at h2;omega
 | n+1,a,i,h1,h2=>by
  unfold rnF at h2
  split at h2
  ·rename_i h
   rcases Nat.eq_or_lt_of_le h1 with rfl | h3
   ·exact h
   ·exact rnF_dig s n (a+1) i h3 h2
  ·omega
theorem rnF_end (s:ByteArray):∀ n a,s.size≤a+n→dgB (lk s (rnF s n a))=false
 | 0,a,h=>by
  unfold rnF
  rw [lk_out s a (by omega)]
  rfl
 | n+1,a,h=>by
  unfold rnF
  split
  ·exact rnF_end s n (a+1) (by omega)
  ·rename_i h1
   simpa using h1
theorem rn_ge (s:ByteArray) (a:Nat):a≤rn s a:=rnF_ge s _ a
theorem rn_le (s:ByteArray) (a:Nat) (h:a≤s.size):rn s a≤s.size:=by have:=rnF_le s (s.size-a) a;unfold rn;omega
theorem rn_dig (s:ByteArray) (a i:Nat) (h1:a≤i) (h2:i<rn s a):dgB (lk s i)=true:=rnF_dig s _ a i h1 h2
theorem rn_end (s:ByteArray) (a:Nat):dgB (lk s (rn s a))=false:=rnF_end s _ a (by omega)
theorem rn_uniq (s:ByteArray) (a e:Nat) (h:a≤e) (hd:∀ i,a≤i→i<e→dgB (lk s i)=true) (he:dgB (lk s e)=false):rn s a=e:=by
 have h1:=rn_ge s a
 rcases Nat.lt_trichotomy (rn s a) e with h2 | h2 | h2
 ·have h3:=hd _ h1 h2
  rw [rn_end] at h3
  cases h3
 ·exact h2
 ·have h3:=rn_dig s a e h h2
  rw [he] at h3
  cases h3
theorem rn_lt (s:ByteArray) (a:Nat) (h:dgB (lk s a)=true):a<rn s a:=by
 rcases Nat.eq_or_lt_of_le (rn_ge s a) with h1 | h1
 ·have:=rn_end s a
  rw [← h1,h] at this
  cases this
 ·exact h1
structure Num where
 neg:Bool
 wh:ByteArray
 be:ByteArray
 dn:Bool
 pw:ByteArray
def scA (s:ByteArray) (p:Nat):Nat:=if lk s p=45 then p+1 else p
def scB (s:ByteArray) (p:Nat):Nat:=if lk s (scA s p)=48 then scA s p+1 else rn s (scA s p)
def scC (s:ByteArray) (p:Nat):Nat:=if lk s (scB s p)=46 then rn s (scB s p+1) else scB s p
def scF (s:ByteArray) (p:Nat):Nat:=if lk s (scC s p+1)=43∨lk s (scC s p+1)=45 then scC s p+2 else scC s p+1
def scX (s:ByteArray) (p:Nat):Bool:=decide (lk s (scC s p)=101∨lk s (scC s p)=69)
def scH (s:ByteArray) (p:Nat):Nat:=if scX s p then rn s (scF s p) else scC s p
def scNeg (s:ByteArray) (p:Nat):Bool:=decide (lk s p=45)
def scDn (s:ByteArray) (p:Nat):Bool:=scX s p && decide (lk s (scC s p+1)=45)
def scBe (s:ByteArray) (p:Nat):ByteArray:=if lk s (scB s p)=46 then s.extract (scB s p+1) (scC s p) else ⟨#[]⟩
def scPw (s:ByteArray) (p:Nat):ByteArray:=if scX s p then s.extract (scF s p) (scH s p) else ⟨#[]⟩
def scanS (s:ByteArray) (p:Nat):Option Num × Nat :=
 if dgB (lk s (scA s p))=false then (none,scA s p)
 else if lk s (scB s p)=46∧dgB (lk s (scB s p+1))=false then (none,scB s p+1)
 else if scX s p=true∧dgB (lk s (scF s p))=false then (none,scF s p)
 else (some ⟨scNeg s p,s.extract (scA s p) (scB s p),scBe s p,scDn s p,scPw s p⟩,scH s p)
def pwN (l:List UInt8):Nat:=l.foldl (fun n b=>10*n+(b.toNat-48)) 0
structure Dec where
 neg:Bool
 ds:List UInt8
 ex:Int
def allS (n:Num):List UInt8:=Lib.trimLeftB (n.wh.data.toList++n.be.data.toList) 48
def digS (n:Num):List UInt8:=Lib.trimRightB (allS n) 48
def powS (n:Num):Int:=if n.dn then -(pwN n.pw.data.toList:Int) else pwN n.pw.data.toList
def expS (n:Num):Int:=powS n-(n.be.size:Int)+(((allS n).length-(digS n).length:Nat):Int)
def inB (x:Int):Bool:=decide (-1073741824≤x∧x≤1073741824)
def worthS (n:Num):Option Dec :=
 if allS n=[] then some ⟨n.neg,[],0⟩
 else if inB (expS n) then some ⟨n.neg,digS n,expS n⟩ else none
def zeroD:Dec:=⟨false,[],0⟩
def readS (s:ByteArray) (p:Nat):Dec × Nat × Nat :=
 match (scanS s p).1 with
 | none=>(zeroD,(scanS s p).2,110)
 | some n=>match worthS n with
  | none=>(zeroD,(scanS s p).2,111)
  | some d=>(d,(scanS s p).2,0)
def ofS (s:ByteArray):Dec × Nat:=if (readS s 0).2.1=s.size then ((readS s 0).1,(readS s 0).2.2) else (zeroD,110)
def decV (d:Dec):Value:=.agg #[.bool d.neg,.string ⟨d.ds.toArray⟩,.int .i64 d.ex]
theorem trimL_length (l:List UInt8) (c:UInt8):(Lib.trimLeftB l c).length≤l.length:=by
 unfold Lib.trimLeftB
 exact (List.dropWhile_sublist _).length_le
theorem trimR_length (l:List UInt8) (c:UInt8):(Lib.trimRightB l c).length≤l.length:=by
 unfold Lib.trimRightB
 rw [List.length_reverse]
 have:=(List.dropWhile_sublist (fun x=>x == c) (l:=l.reverse)).length_le
 rwa [List.length_reverse] at this
theorem trimL_twice (a b:List UInt8) (c:UInt8):Lib.trimLeftB (Lib.trimLeftB a c++b) c=Lib.trimLeftB (a++b) c:=by
 unfold Lib.trimLeftB
 induction a with
 | nil=>rfl
 | cons x r ih =>
  by_cases h:(x == c)=true
  ·simp only [List.dropWhile_cons,h,if_true,List.cons_append]
   exact ih
  ·simp only [List.dropWhile_cons,h,List.cons_append]
   simp [h]
end Go.Proofs.YtjcpamjeekfblaaGreatDoor

namespace Go.Proofs
open Go.Shelf
def Tryz.lays161_ren:Go.Shelf.Ren:=⟨fun | 161=>173 | 231=>190 | 227=>191 | 233=>192 | 235=>193 | 228=>204 | 197=>151 | 151=>205 | 260=>163 | 152=>211 | 137=>215 | 119=>216 | 224=>179 | 225=>178 | 217=>177 | 266=>197 | n=>n,fun | 9=>9 | 4=>4 | 3=>3 | 5=>5 | 117=>214 | 116=>213 | 0=>0 | 124=>217 | 105=>186 | 21=>21 | 119=>112 | 46=>116 | 139=>115 | 138=>114 | n=>n,fun | 3=>0 | 4=>1 | n=>n⟩
theorem Tryz.lays161:Go.Proofs.Lays.n161 Tryz.prog Tryz.lays161_ren:={
  mixed:=by kernel_rfl
  f119:=Tryz.func216.trans (congrArg some (by kernel_rfl))
  f137:=Tryz.func215.trans (congrArg some (by kernel_rfl))
  f151:=Tryz.func205.trans (congrArg some (by kernel_rfl))
  f152:=Tryz.func211.trans (congrArg some (by kernel_rfl))
  f161:=Tryz.func173.trans (congrArg some (by kernel_rfl))
  f197:=Tryz.func151.trans (congrArg some (by kernel_rfl))
  f217:=Tryz.func177.trans (congrArg some (by kernel_rfl))
  f224:=Tryz.func179.trans (congrArg some (by kernel_rfl))
  f225:=Tryz.func178.trans (congrArg some (by kernel_rfl))
  f227:=Tryz.func191.trans (congrArg some (by kernel_rfl))
  f228:=Tryz.func204.trans (congrArg some (by kernel_rfl))
  f231:=Tryz.func190.trans (congrArg some (by kernel_rfl))
  f233:=Tryz.func192.trans (congrArg some (by kernel_rfl))
  f235:=Tryz.func193.trans (congrArg some (by kernel_rfl))
  f260:=Tryz.func163.trans (congrArg some (by kernel_rfl))
  f266:=Tryz.func197.trans (congrArg some (by kernel_rfl))
  t0:=Tryz.underlying0
  a0:=Tryz.isAgg0
  z0:=Tryz.sizeOf0
  v0:=Tryz.zeroValue0
  t3:=Tryz.underlying3
  a3:=Tryz.isAgg3
  z3:=Tryz.sizeOf3
  v3:=Tryz.zeroValue3
  t4:=Tryz.underlying4
  a4:=Tryz.isAgg4
  z4:=Tryz.sizeOf4
  v4:=Tryz.zeroValue4
  t5:=Tryz.underlying5
  a5:=Tryz.isAgg5
  z5:=Tryz.sizeOf5
  v5:=Tryz.zeroValue5
  t9:=Tryz.underlying9
  a9:=Tryz.isAgg9
  z9:=Tryz.sizeOf9
  v9:=Tryz.zeroValue9
  t21:=Tryz.underlying21
  a21:=Tryz.isAgg21
  z21:=Tryz.sizeOf21
  v21:=Tryz.zeroValue21
  t46:=Tryz.underlying116
  a46:=Tryz.isAgg116
  z46:=Tryz.sizeOf116
  v46:=Tryz.zeroValue116
  t105:=Tryz.underlying186
  a105:=Tryz.isAgg186
  z105:=Tryz.sizeOf186
  v105:=Tryz.zeroValue186
  t116:=Tryz.underlying213
  a116:=Tryz.isAgg213
  z116:=Tryz.sizeOf213
  t117:=Tryz.underlying214
  a117:=Tryz.isAgg214
  z117:=Tryz.sizeOf214
  v117:=Tryz.zeroValue214
  t119:=Tryz.underlying112
  a119:=Tryz.isAgg112
  z119:=Tryz.sizeOf112
  t124:=Tryz.underlying217
  a124:=Tryz.isAgg217
  z124:=Tryz.sizeOf217
  v124:=Tryz.zeroValue217
  t138:=Tryz.underlying114
  a138:=Tryz.isAgg114
  z138:=Tryz.sizeOf114
  v138:=Tryz.zeroValue114
  t139:=Tryz.underlying115
  a139:=Tryz.isAgg115
  z139:=Tryz.sizeOf115
  v139:=Tryz.zeroValue115
  g3:=by kernel_rfl
  g4:=by kernel_rfl }
def Tryz.lays162_ren:Go.Shelf.Ren:=⟨fun | 162=>174 | 232=>194 | 227=>191 | 234=>195 | 236=>196 | 228=>204 | 271=>206 | 151=>205 | 120=>212 | 197=>151 | 152=>211 | 260=>163 | 137=>215 | 119=>216 | 224=>179 | 225=>178 | 217=>177 | 266=>197 | n=>n,fun | 9=>9 | 4=>4 | 3=>3 | 5=>5 | 117=>214 | 116=>213 | 0=>0 | 124=>217 | 21=>21 | 105=>186 | 46=>116 | 119=>112 | 139=>115 | 138=>114 | n=>n,fun | 3=>0 | 4=>1 | n=>n⟩
theorem Tryz.lays162:Go.Proofs.Lays.n162 Tryz.prog Tryz.lays162_ren:={
  mixed:=by kernel_rfl
  f119:=Tryz.func216.trans (congrArg some (by kernel_rfl))
  f120:=Tryz.func212.trans (congrArg some (by kernel_rfl))
  f137:=Tryz.func215.trans (congrArg some (by kernel_rfl))
  f151:=Tryz.func205.trans (congrArg some (by kernel_rfl))
  f152:=Tryz.func211.trans (congrArg some (by kernel_rfl))
  f162:=Tryz.func174.trans (congrArg some (by kernel_rfl))
  f197:=Tryz.func151.trans (congrArg some (by kernel_rfl))
  f217:=Tryz.func177.trans (congrArg some (by kernel_rfl))
  f224:=Tryz.func179.trans (congrArg some (by kernel_rfl))
  f225:=Tryz.func178.trans (congrArg some (by kernel_rfl))
  f227:=Tryz.func191.trans (congrArg some (by kernel_rfl))
  f228:=Tryz.func204.trans (congrArg some (by kernel_rfl))
  f232:=Tryz.func194.trans (congrArg some (by kernel_rfl))
  f234:=Tryz.func195.trans (congrArg some (by kernel_rfl))
  f236:=Tryz.func196.trans (congrArg some (by kernel_rfl))
  f260:=Tryz.func163.trans (congrArg some (by kernel_rfl))
  f266:=Tryz.func197.trans (congrArg some (by kernel_rfl))
  f271:=Tryz.func206.trans (congrArg some (by kernel_rfl))
  t0:=Tryz.underlying0
  a0:=Tryz.isAgg0
  z0:=Tryz.sizeOf0
  v0:=Tryz.zeroValue0
  t3:=Tryz.underlying3
  a3:=Tryz.isAgg3
  z3:=Tryz.sizeOf3
  v3:=Tryz.zeroValue3
  t4:=Tryz.underlying4
  a4:=Tryz.isAgg4
  z4:=Tryz.sizeOf4
  v4:=Tryz.zeroValue4
  t5:=Tryz.underlying5
  a5:=Tryz.isAgg5
  z5:=Tryz.sizeOf5
  v5:=Tryz.zeroValue5
  t9:=Tryz.underlying9
  a9:=Tryz.isAgg9
  z9:=Tryz.sizeOf9
  v9:=Tryz.zeroValue9
  t21:=Tryz.underlying21
  a21:=Tryz.isAgg21
  z21:=Tryz.sizeOf21
  v21:=Tryz.zeroValue21
  t46:=Tryz.underlying116
  a46:=Tryz.isAgg116
  z46:=Tryz.sizeOf116
  v46:=Tryz.zeroValue116
  t105:=Tryz.underlying186
  a105:=Tryz.isAgg186
  z105:=Tryz.sizeOf186
  v105:=Tryz.zeroValue186
  t116:=Tryz.underlying213
  a116:=Tryz.isAgg213
  z116:=Tryz.sizeOf213
  t117:=Tryz.underlying214
  a117:=Tryz.isAgg214
  z117:=Tryz.sizeOf214
  v117:=Tryz.zeroValue214
  t119:=Tryz.underlying112
  a119:=Tryz.isAgg112
  z119:=Tryz.sizeOf112
  t124:=Tryz.underlying217
  a124:=Tryz.isAgg217
  z124:=Tryz.sizeOf217
  v124:=Tryz.zeroValue217
  t138:=Tryz.underlying114
  a138:=Tryz.isAgg114
  z138:=Tryz.sizeOf114
  v138:=Tryz.zeroValue114
  t139:=Tryz.underlying115
  a139:=Tryz.isAgg115
  z139:=Tryz.sizeOf115
  v139:=Tryz.zeroValue115
  g3:=by kernel_rfl
  g4:=by kernel_rfl }
def Tryz.laysM316_ren:Go.Shelf.Ren:=⟨fun | 316=>86 | n=>n,fun | 9=>9 | 3=>3 | 4=>4 | 37=>63 | 0=>0 | 127=>90 | 5=>5 | n=>n,fun | n=>n⟩
theorem Tryz.laysM316:Go.Proofs.LaysM.n316 Tryz.prog Tryz.laysM316_ren:={
  mixed:=by kernel_rfl
  f316:=Tryz.func86.trans (congrArg some (by kernel_rfl))
  t0:=Tryz.underlying0
  a0:=Tryz.isAgg0
  z0:=Tryz.sizeOf0
  v0:=Tryz.zeroValue0
  t3:=Tryz.underlying3
  a3:=Tryz.isAgg3
  z3:=Tryz.sizeOf3
  v3:=Tryz.zeroValue3
  t4:=Tryz.underlying4
  a4:=Tryz.isAgg4
  z4:=Tryz.sizeOf4
  v4:=Tryz.zeroValue4
  t9:=Tryz.underlying9
  a9:=Tryz.isAgg9
  z9:=Tryz.sizeOf9
  v9:=Tryz.zeroValue9
  t37:=Tryz.underlying63
  a37:=Tryz.isAgg63
  z37:=Tryz.sizeOf63
  v37:=Tryz.zeroValue63
  t127:=Tryz.underlying90
  a127:=Tryz.isAgg90
  z127:=Tryz.sizeOf90
  v127:=Tryz.zeroValue90
  t5:=Tryz.underlying5
  a5:=Tryz.isAgg5
  z5:=Tryz.sizeOf5
  v5:=Tryz.zeroValue5
  i0:=by kernel_rfl
  i3:=by kernel_rfl
  i4:=by kernel_rfl
  i5:=by kernel_rfl
  i9:=by kernel_rfl
  i37:=by kernel_rfl
  i127:=by kernel_rfl }
end Go.Proofs
