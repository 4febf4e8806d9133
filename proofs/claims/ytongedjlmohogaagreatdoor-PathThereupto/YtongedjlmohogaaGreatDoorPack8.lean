/-
  Texts of mine that others lean on, one behind the other.
-/
import Derived.Test.YtongedjlmohogaaGreatDoorPack7
import Derived.Test.YtongedjlmohogaaGreatDoorPack6
import Derived.Shelf.Strings.Trim
import Derived.Shelf.LaysM
import Derived.Shelf.Strconv.Clone
import Derived.Test.YtongedjlmohogaaGreatDoorProg
import Derived.KernelRfl
import Derived.Deep.Upon
namespace Go.Proofs.YtongedjlmohogaaGreatDoor
inductive QE (s:ByteArray):Nat→Nat→Prop
 | stop (p:Nat) (h:p<s.size) (hq:byteAt s p=34):QE s p p
 | esc (p e:Nat) (h:p<s.size) (hq:byteAt s p=92) (hn:QE s (p+2) e):QE s p e
 | step (p e:Nat) (h:p<s.size) (h1:byteAt s p≠34) (h2:byteAt s p≠92) (hn:QE s (p+1) e):QE s p e
theorem QE.le {s:ByteArray} {p e:Nat} (h:QE s p e):p≤e∧e<s.size:=by
 induction h with
 | stop p h hq=>exact ⟨Nat.le_refl _,h⟩
 | esc p e h hq hn ih=>exact ⟨by omega,ih.2⟩
 | step p e h h1 h2 hn ih=>exact ⟨by omega,ih.2⟩
def Txt (s:ByteArray) (i j:Nat) (T:ByteArray):Prop:=byteAt s i=34∧∃ e,QE s (i+1) e∧j=e+1∧(unS (s.extract (i+1) e)).1=T
inductive PV (s:ByteArray):Nat→Vt→Nat→Prop
 | null (i:Nat) (h:byteAt s i=110) (hl:i+4≤s.size):PV s i (.mk 1 false ⟨#[]⟩ ⟨#[]⟩ [] []) (i+4)
 | yes (i:Nat) (h:byteAt s i=116) (hl:i+4≤s.size):PV s i (.mk 2 true ⟨#[]⟩ ⟨#[]⟩ [] []) (i+4)
 | no (i:Nat) (h:byteAt s i=102) (hl:i+5≤s.size):PV s i (.mk 2 false ⟨#[]⟩ ⟨#[]⟩ [] []) (i+5)
 | text (i j:Nat) (T:ByteArray) (h:Txt s i j T):PV s i (.mk 4 false ⟨#[]⟩ T [] []) j
 | num (i j:Nat) (h:i<s.size) (hc:byteAt s i≠91∧byteAt s i≠123∧byteAt s i≠34∧byteAt s i≠110∧byteAt s i≠116∧byteAt s i≠102) (hj:(readS s i).2.1=j) (hl:i<j) (hs:j≤s.size):PV s i (.mk 3 false (s.extract i j) ⟨#[]⟩ [] []) j
 | arr (i:Nat) (vs:List Vt) (a b c:Nat→Nat) (h:byteAt s i=91) (h0:IsSkip s (i+1) (a 0))
   (hq:∀ q,q<vs.length→byteAt s (a q)≠93∧a q<s.size∧IsSkip s (if byteAt s (a q)=44 then a q+1 else a q) (b q)∧b q<s.size)
   (hv:∀ (q:Nat) (u:Vt),vs[q]? = some u→PV s (b q) u (c q)) (hs:∀ q,q<vs.length→IsSkip s (c q) (a (q+1)))
   (he:byteAt s (a vs.length)=93) (hn:a vs.length<s.size):PV s i (.mk 5 false ⟨#[]⟩ ⟨#[]⟩ [] vs) (a vs.length+1)
 | obj (i:Nat) (ks:List ByteArray) (vs:List Vt) (hkv:ks.length=vs.length) (a n m d b c:Nat→Nat) (h:byteAt s i=123) (h0:IsSkip s (i+1) (a 0))
   (hq:∀ q,q<vs.length→byteAt s (a q)≠125∧a q<s.size∧IsSkip s (if byteAt s (a q)=44 then a q+1 else a q) (n q)∧n q<s.size∧IsSkip s (m q) (d q)∧d q<s.size∧IsSkip s (d q+1) (b q)∧b q<s.size)
   (hk:∀ (q:Nat) (K:ByteArray),ks[q]? = some K→Txt s (n q) (m q) K)
   (hv:∀ (q:Nat) (u:Vt),vs[q]? = some u→PV s (b q) u (c q)) (hs:∀ q,q<vs.length→IsSkip s (c q) (a (q+1)))
   (he:byteAt s (a vs.length)=125) (hn:a vs.length<s.size):PV s i (.mk 6 false ⟨#[]⟩ ⟨#[]⟩ ks vs) (a vs.length+1)
theorem Txt.le {s:ByteArray} {i j:Nat} {T:ByteArray} (h:Txt s i j T):i<s.size∧i+2≤j∧j≤s.size:=by
 obtain ⟨h1,e,h2,rfl,-⟩:=h
 have:=h2.le
 omega
theorem PV.le {s:ByteArray} {i j:Nat} {t:Vt} (h:PV s i t j):i<s.size∧i<j∧j≤s.size:=by
 induction h with
 | null i h hl=>omega
 | yes i h hl=>omega
 | no i h hl=>omega
 | text i j T h=>have:=h.le;omega
 | num i j h hc hj hl hs=>omega
 | arr i vs a b c h h0 hq hv hs he hn ih =>
  have hi:i<s.size:=byteAt_in (by rw [h];decide)
  have hup:∀ q,q≤vs.length→i<a q:=by
   intro q
   induction q with
   | zero=>intro _;have:=h0.1;omega
   | succ q ihq =>
    intro hq1
    have h1:=ihq (by omega)
    obtain ⟨-,-,h2,-⟩:=hq q (by omega)
    have h3:=h2.1
    have h4:=ih q _ (List.getElem?_eq_getElem (show q<vs.length by omega))
    have h5:=(hs q (by omega)).1
    split at h3 <;> omega
  have:=hup vs.length (Nat.le_refl _)
  omega
 | obj i ks vs hkv a n m d b c h h0 hq hk hv hs he hn ih =>
  have hi:i<s.size:=byteAt_in (by rw [h];decide)
  have hup:∀ q,q≤vs.length→i<a q:=by
   intro q
   induction q with
   | zero=>intro _;have:=h0.1;omega
   | succ q ihq =>
    intro hq1
    have h1:=ihq (by omega)
    obtain ⟨-,-,h2,-,h6,-,h7,-⟩:=hq q (by omega)
    have h3:=h2.1
    have h8:=(hk q _ (List.getElem?_eq_getElem (show q<ks.length by omega))).le
    have h9:=h6.1
    have h10:=h7.1
    have h4:=ih q _ (List.getElem?_eq_getElem (show q<vs.length by omega))
    have h5:=(hs q (by omega)).1
    split at h3 <;> omega
  have:=hup vs.length (Nat.le_refl _)
  omega
theorem arr_len {s:ByteArray} {vs:List Vt} {a bb cc:Nat→Nat} (hq:∀ q,q<vs.length→a q≤bb q) (hv:∀ (q:Nat) (u:Vt),vs[q]? = some u→PV s (bb q) u (cc q)) (hs:∀ q,q<vs.length→IsSkip s (cc q) (a (q+1))):∀ q,q≤vs.length→q≤a q:=by
 intro q
 induction q with
 | zero=>intro _;exact Nat.zero_le _
 | succ q ih =>
  intro h
  have h1:=ih (by omega)
  have h2:=hq q (by omega)
  have h3:=(hv q _ (List.getElem?_eq_getElem (show q<vs.length by omega))).le
  have h4:=(hs q (by omega)).1
  omega
end Go.Proofs.YtongedjlmohogaaGreatDoor

namespace Go.Proofs.YtongedjlmohogaaGreatDoor
open Go.RowKit Go.Shelf
theorem ValAt.six {w:World} {u:Vt} {L:List Value} (h:ValAt w u (.agg L.toArray)):∃ k b r t ko N kc vo M vc,L=[.int .i64 k,.bool b,.string r,.string t,.slice ko N kc,.slice vo M vc]:=by
 obtain ⟨ko,kc,vo,vc,h⟩:=h.cells
 exact ⟨_,_,_,_,_,_,_,_,_,_,by simpa using congrArg Array.toList h⟩
end Go.Proofs.YtongedjlmohogaaGreatDoor

namespace Go.Proofs.YtongedjlmohogaaGreatDoor
open Go.RowKit Go.Shelf
def IsFst (ks:List ByteArray) (nm:ByteArray) (f:Int):Prop:=(f = -1∧∀ j:Nat,ks[j]?≠some nm)∨∃ i:Nat,f=(i:Int)∧ks[i]? = some nm∧∀ j,j<i→ks[j]?≠some nm
theorem IsFst.uniq {ks:List ByteArray} {nm:ByteArray} {f g:Int} (h:IsFst ks nm f) (h':IsFst ks nm g):f=g:=by
 rcases h with ⟨rfl,h⟩ | ⟨i,rfl,h1,h2⟩ <;> rcases h' with ⟨rfl,h'⟩ | ⟨i',rfl,h1',h2'⟩
 ·rfl
 ·exact absurd h1' (h i')
 ·exact absurd h1 (h' i)
 ·by_cases hlt:i<i'
  ·exact absurd h1 (h2' i hlt)
  ·by_cases hgt:i'<i
   ·exact absurd h1' (h2 i' hgt)
   ·have:i=i':=by omega
    rw [this]
end Go.Proofs.YtongedjlmohogaaGreatDoor

namespace Go.Proofs
open Go.Shelf
def Tryz.lays161_ren:Go.Shelf.Ren:=⟨fun | 161=>173 | 231=>190 | 227=>191 | 233=>192 | 235=>193 | 228=>204 | 197=>151 | 151=>205 | 260=>163 | 152=>211 | 137=>215 | 119=>216 | 224=>179 | 225=>178 | 217=>177 | 266=>197 | n=>n,fun | 9=>9 | 4=>4 | 3=>3 | 5=>5 | 117=>214 | 116=>213 | 0=>0 | 124=>217 | 105=>186 | 21=>21 | 119=>112 | 46=>116 | 139=>115 | 138=>114 | n=>n,fun | 3=>0 | 4=>1 | n=>n⟩
theorem Tryz.lays161:Go.Proofs.Lays.n161 Tryz.prog Tryz.lays161_ren:={
  mixed:=by kernel_rfl
  f119:=Tryz.func216.trans (congrArg some (by kernel_rfl))
  f137:=Tryz.func215.trans (congrArg some (by kernel_rfl))
  f151:=Tryz.func205.trans (congrArg some (by kernel_rfl))
  f152:=Tryz.func211.trans (congrArg some (by kernel_rfl))
  f161:=Tryz.func173.trans (congrArg some (by kernel_rfl))
  f197:=Tryz.func151.trans (congrArg some (by kernel_rfl))
  f217:=Tryz.func177.trans (congrArg some (by kernel_rfl))
  f224:=Tryz.func179.trans (congrArg some (by kernel_rfl))
  f225:=Tryz.func178.trans (congrArg some (by kernel_rfl))
  f227:=Tryz.func191.trans (congrArg some (by kernel_rfl))
  f228:=Tryz.func204.trans (congrArg some (by kernel_rfl))
  f231:=Tryz.func190.trans (congrArg some (by kernel_rfl))
  f233:=Tryz.func192.trans (congrArg some (by kernel_rfl))
  f235:=Tryz.func193.trans (congrArg some (by kernel_rfl))
  f260:=Tryz.func163.trans (congrArg some (by kernel_rfl))
  f266:=Tryz.func197.trans (congrArg some (by kernel_rfl))
  t0:=Tryz.underlying0
  a0:=Tryz.isAgg0
  z0:=Tryz.sizeOf0
  v0:=Tryz.zeroValue0
  t3:=Tryz.underlying3
  a3:=Tryz.isAgg3
  z3:=Tryz.sizeOf3
  v3:=Tryz.zeroValue3
  t4:=Tryz.underlying4
  a4:=Tryz.isAgg4
  z4:=Tryz.sizeOf4
  v4:=Tryz.zeroValue4
  t5:=Tryz.underlying5
  a5:=Tryz.isAgg5
  z5:=Tryz.sizeOf5
  v5:=Tryz.zeroValue5
  t9:=Tryz.underlying9
  a9:=Tryz.isAgg9
  z9:=Tryz.sizeOf9
  v9:=Tryz.zeroValue9
  t21:=Tryz.underlying21
  a21:=Tryz.isAgg21
  z21:=Tryz.sizeOf21
  v21:=Tryz.zeroValue21
  t46:=Tryz.underlying116
  a46:=Tryz.isAgg116
  z46:=Tryz.sizeOf116
  v46:=Tryz.zeroValue116
  t105:=Tryz.underlying186
  a105:=Tryz.isAgg186
  z105:=Tryz.sizeOf186
  v105:=Tryz.zeroValue186
  t116:=Tryz.underlying213
  a116:=Tryz.isAgg213
  z116:=Tryz.sizeOf213
  t117:=Tryz.underlying214
  a117:=Tryz.isAgg214
  z117:=Tryz.sizeOf214
  v117:=Tryz.zeroValue214
  t119:=Tryz.underlying112
  a119:=Tryz.isAgg112
  z119:=Tryz.sizeOf112
  t124:=Tryz.underlying217
  a124:=Tryz.isAgg217
  z124:=Tryz.sizeOf217
  v124:=Tryz.zeroValue217
  t138:=Tryz.underlying114
  a138:=Tryz.isAgg114
  z138:=Tryz.sizeOf114
  v138:=Tryz.zeroValue114
  t139:=Tryz.underlying115
  a139:=Tryz.isAgg115
  z139:=Tryz.sizeOf115
  v139:=Tryz.zeroValue115
  g3:=by kernel_rfl
  g4:=by kernel_rfl }
def Tryz.lays162_ren:Go.Shelf.Ren:=⟨fun | 162=>174 | 232=>194 | 227=>191 | 234=>195 | 236=>196 | 228=>204 | 271=>206 | 151=>205 | 120=>212 | 197=>151 | 152=>211 | 260=>163 | 137=>215 | 119=>216 | 224=>179 | 225=>178 | 217=>177 | 266=>197 | n=>n,fun | 9=>9 | 4=>4 | 3=>3 | 5=>5 | 117=>214 | 116=>213 | 0=>0 | 124=>217 | 21=>21 | 105=>186 | 46=>116 | 119=>112 | 139=>115 | 138=>114 | n=>n,fun | 3=>0 | 4=>1 | n=>n⟩
theorem Tryz.lays162:Go.Proofs.Lays.n162 Tryz.prog Tryz.lays162_ren:={
  mixed:=by kernel_rfl
  f119:=Tryz.func216.trans (congrArg some (by kernel_rfl))
  f120:=Tryz.func212.trans (congrArg some (by kernel_rfl))
  f137:=Tryz.func215.trans (congrArg some (by kernel_rfl))
  f151:=Tryz.func205.trans (congrArg some (by kernel_rfl))
  f152:=Tryz.func211.trans (congrArg some (by kernel_rfl))
  f162:=Tryz.func174.trans (congrArg some (by kernel_rfl))
  f197:=Tryz.func151.trans (congrArg some (by kernel_rfl))
  f217:=Tryz.func177.trans (congrArg some (by kernel_rfl))
  f224:=Tryz.func179.trans (congrArg some (by kernel_rfl))
  f225:=Tryz.func178.trans (congrArg some (by kernel_rfl))
  f227:=Tryz.func191.trans (congrArg some (by kernel_rfl))
  f228:=Tryz.func204.trans (congrArg some (by kernel_rfl))
  f232:=Tryz.func194.trans (congrArg some (by kernel_rfl))
  f234:=Tryz.func195.trans (congrArg some (by kernel_rfl))
  f236:=Tryz.func196.trans (congrArg some (by kernel_rfl))
  f260:=Tryz.func163.trans (congrArg some (by kernel_rfl))
  f266:=Tryz.func197.trans (congrArg some (by kernel_rfl))
  f271:=Tryz.func206.trans (congrArg some (by kernel_rfl))
  t0:=Tryz.underlying0
  a0:=Tryz.isAgg0
  z0:=Tryz.sizeOf0
  v0:=Tryz.zeroValue0
  t3:=Tryz.underlying3
  a3:=Tryz.isAgg3
  z3:=Tryz.sizeOf3
  v3:=Tryz.zeroValue3
  t4:=Tryz.underlying4
  a4:=Tryz.isAgg4
  z4:=Tryz.sizeOf4
  v4:=Tryz.zeroValue4
  t5:=Tryz.underlying5
  a5:=Tryz.isAgg5
  z5:=Tryz.sizeOf5
  v5:=Tryz.zeroValue5
  t9:=Tryz.underlying9
  a9:=Tryz.isAgg9
  z9:=Tryz.sizeOf9
  v9:=Tryz.zeroValue9
  t21:=Tryz.underlying21
  a21:=Tryz.isAgg21
  z21:=Tryz.sizeOf21
  v21:=Tryz.zeroValue21
  t46:=Tryz.underlying116
  a46:=Tryz.isAgg116
  z46:=Tryz.sizeOf116
  v46:=Tryz.zeroValue116
  t105:=Tryz.underlying186
  a105:=Tryz.isAgg186
  z105:=Tryz.sizeOf186
  v105:=Tryz.zeroValue186
  t116:=Tryz.underlying213
  a116:=Tryz.isAgg213
  z116:=Tryz.sizeOf213
  t117:=Tryz.underlying214
  a117:=Tryz.isAgg214
  z117:=Tryz.sizeOf214
  v117:=Tryz.zeroValue214
  t119:=Tryz.underlying112
  a119:=Tryz.isAgg112
  z119:=Tryz.sizeOf112
  t124:=Tryz.underlying217
  a124:=Tryz.isAgg217
  z124:=Tryz.sizeOf217
  v124:=Tryz.zeroValue217
  t138:=Tryz.underlying114
  a138:=Tryz.isAgg114
  z138:=Tryz.sizeOf114
  v138:=Tryz.zeroValue114
  t139:=Tryz.underlying115
  a139:=Tryz.isAgg115
  z139:=Tryz.sizeOf115
  v139:=Tryz.zeroValue115
  g3:=by kernel_rfl
  g4:=by kernel_rfl }
def Tryz.laysM316_ren:Go.Shelf.Ren:=⟨fun | 316=>86 | n=>n,fun | 9=>9 | 3=>3 | 4=>4 | 37=>63 | 0=>0 | 127=>90 | 5=>5 | n=>n,fun | n=>n⟩
theorem Tryz.laysM316:Go.Proofs.LaysM.n316 Tryz.prog Tryz.laysM316_ren:={
  mixed:=by kernel_rfl
  f316:=Tryz.func86.trans (congrArg some (by kernel_rfl))
  t0:=Tryz.underlying0
  a0:=Tryz.isAgg0
  z0:=Tryz.sizeOf0
  v0:=Tryz.zeroValue0
  t3:=Tryz.underlying3
  a3:=Tryz.isAgg3
  z3:=Tryz.sizeOf3
  v3:=Tryz.zeroValue3
  t4:=Tryz.underlying4
  a4:=Tryz.isAgg4
  z4:=Tryz.sizeOf4
  v4:=Tryz.zeroValue4
  t9:=Tryz.underlying9
  a9:=Tryz.isAgg9
  z9:=Tryz.sizeOf9
  v9:=Tryz.zeroValue9
  t37:=Tryz.underlying63
  a37:=Tryz.isAgg63
  z37:=Tryz.sizeOf63
  v37:=Tryz.zeroValue63
  t127:=Tryz.underlying90
  a127:=Tryz.isAgg90
  z127:=Tryz.sizeOf90
  v127:=Tryz.zeroValue90
  t5:=Tryz.underlying5
  a5:=Tryz.isAgg5
  z5:=Tryz.sizeOf5
  v5:=Tryz.zeroValue5
  i0:=by kernel_rfl
  i3:=by kernel_rfl
  i4:=by kernel_rfl
  i5:=by kernel_rfl
  i9:=by kernel_rfl
  i37:=by kernel_rfl
  i127:=by kernel_rfl }
end Go.Proofs

namespace Go.Proofs.YtongedjlmohogaaGreatDoor
open Go.RowKit Go.Shelf
def KeysOn (S:Nat→Prop) (w:World) (ao:Option Addr) (ks:List ByteArray):Prop:=∀ (i:Nat) (s:ByteArray),ks[i]? = some s→s.size≤capT∧∃ b off,ao=some ⟨b,off,none⟩∧S b∧b<w.heap.size∧w.cell? ⟨b,off+i,none⟩=some (.string s)
def RowOn (S:Nat→Prop) (w:World) (ao:Option Addr) (n:Nat) (X:Nat→Array Value):Prop:=∀ i,i<n→(X i).size=6∧∃ b off,ao=some ⟨b,off,none⟩∧S b∧b<w.heap.size∧∀ j,j<6→w.cell? ⟨b,off+i*6+j,none⟩=(X i)[j]?
inductive ValOn (S:Nat→Prop) (w:World):Vt→Value→Prop
 | mk (k:Int) (b:Bool) (r t:ByteArray) (ks:List ByteArray) (vs:List Vt) (ko:Option Addr) (kc:Nat) (vo:Option Addr) (vc:Nat) (X:Nat→Array Value)
   (hw:(Lit.int .i64 k).wf=true) (hz:r.size≤capT∧t.size≤capT∧ks.length≤capT∧vs.length≤capT) (hk:KeysOn S w ko ks) (hr:RowOn S w vo vs.length X) (hv:∀ (i:Nat) (u:Vt),vs[i]? = some u→ValOn S w u (.agg (X i))) :
   ValOn S w (.mk k b r t ks vs) (.agg #[.int .i64 k,.bool b,.string r,.string t,.slice ko ks.length kc,.slice vo vs.length vc])
theorem KeysOn.at {S:Nat→Prop} {w:World} {ao:Option Addr} {ks:List ByteArray} (h:KeysOn S w ao ks):KeysAt w ao ks:=fun i s hi=>by
 obtain ⟨h0,b,off,h1,-,h2,h3⟩:=h i s hi
 exact ⟨h0,b,off,h1,h2,h3⟩
theorem RowOn.at {S:Nat→Prop} {w:World} {ao:Option Addr} {n:Nat} {X:Nat→Array Value} (h:RowOn S w ao n X):RowAt w ao n X:=fun i hi=>by
 obtain ⟨h0,b,off,h1,-,h2,h3⟩:=h i hi
 exact ⟨h0,b,off,h1,h2,h3⟩
theorem ValOn.at {S:Nat→Prop} {w:World} {t:Vt} {v:Value} (h:ValOn S w t v):ValAt w t v:=by
 induction h with
 | mk k b r t ks vs ko kc vo vc X hw hz hk hr hv ih=>exact .mk k b r t ks vs ko kc vo vc X hw hz hk.at hr.at ih
def SameOn (S:Nat→Prop) (w w':World):Prop:=w.heap.size≤w'.heap.size∧∀ b,S b→b<w.heap.size→w'.heap[b]? = w.heap[b]?
theorem cell_same {w w':World} {b o:Nat} (h:w'.heap[b]? = w.heap[b]?):w'.cell? ⟨b,o,none⟩=w.cell? ⟨b,o,none⟩:=World.cell?_of_block (w:=w) h
theorem KeysOn.kept {S S':Nat→Prop} {w w':World} {ao:Option Addr} {ks:List ByteArray} (h:KeysOn S w ao ks) (hS:∀ b,b<w.heap.size→S b→S' b) (hb:SameOn S w w'):KeysOn S' w' ao ks:=fun i s hi=>by
 obtain ⟨h0,b,off,h1,h4,h2,h3⟩:=h i s hi
 exact ⟨h0,b,off,h1,hS b h2 h4,Nat.lt_of_lt_of_le h2 hb.1,(cell_same (hb.2 b h4 h2)).trans h3⟩
theorem RowOn.kept {S S':Nat→Prop} {w w':World} {ao:Option Addr} {n:Nat} {X:Nat→Array Value} (h:RowOn S w ao n X) (hS:∀ b,b<w.heap.size→S b→S' b) (hb:SameOn S w w'):RowOn S' w' ao n X:=fun i hi=>by
 obtain ⟨h0,b,off,h1,h4,h2,h3⟩:=h i hi
 exact ⟨h0,b,off,h1,hS b h2 h4,Nat.lt_of_lt_of_le h2 hb.1,fun j hj=>(cell_same (hb.2 b h4 h2)).trans (h3 j hj)⟩
theorem ValOn.kept {S S':Nat→Prop} {w w':World} {t:Vt} {v:Value} (h:ValOn S w t v) (hS:∀ b,b<w.heap.size→S b→S' b) (hb:SameOn S w w'):ValOn S' w' t v:=by
 induction h with
 | mk k b r t ks vs ko kc vo vc X hw hz hk hr hv ih=>exact .mk k b r t ks vs ko kc vo vc X hw hz (hk.kept hS hb) (hr.kept hS hb) ih
theorem SameOn.below {S:Nat→Prop} {w w':World} (hb:Below w.heap.size w w'):SameOn S w w':=⟨hb.size,fun b _ h=>hb.block b h⟩
theorem ValOn.keptB {S:Nat→Prop} {w w':World} {t:Vt} {v:Value} (h:ValOn S w t v) (hb:Below w.heap.size w w'):ValOn S w' t v:=h.kept (fun _ _ h=>h) (SameOn.below hb)
theorem ValOn.mono {S S':Nat→Prop} {w:World} {t:Vt} {v:Value} (h:ValOn S w t v) (hS:∀ b,b<w.heap.size→S b→S' b):ValOn S' w t v:=h.kept hS ⟨Nat.le_refl _,fun _ _ _=>rfl⟩
theorem ValOn.six {S:Nat→Prop} {w:World} {u:Vt} {v:Value} (h:ValOn S w u v):∃ ko kc vo vc,v = .agg #[.int .i64 u.kind,.bool u.b,.string u.raw,.string u.text,.slice ko u.keys.length kc,.slice vo u.kids.length vc]:=by
 cases h with
 | mk k b r t ks vs ko kc vo vc X hw hz hk hr hv=>exact ⟨ko,kc,vo,vc,rfl⟩
mutual
def lnV:Vt→Prop
 | .mk _ _ _ _ ks vs=>ks.length≤1099511627776∧vs.length≤1099511627776∧lnL vs
def lnL:List Vt→Prop
 | []=>True
 | v :: vs=>lnV v∧lnL vs
end
theorem lnL_get:∀ {vs:List Vt} {i:Nat} {u:Vt},lnL vs→vs[i]? = some u→lnV u
 | [],i,u,_,h=>by simp at h
 | v :: vs,i,u,hs,h=>by
  unfold lnL at hs
  cases i with
  | zero=>simp at h;subst h;exact hs.1
  | succ i=>exact lnL_get hs.2 (by simpa using h)
theorem cloneT_calls (s:ByteArray) (hs:s.size≤281474976710656) (w:World) :
  Calls Tryz.prog 61 #[.string s] w fun e w'=>e = .returned (.string s)∧Below w.heap.size w w':=by
 have hc:=hid (show Calls Tryz.prog 86 #[.string s] w fun e w'=>e = .returned (.string s)∧Below w.heap.size w w' from Any.stringslite_Clone Tryz.laysM316 s w hs)
 go_enter Tryz.func61,Tryz.ntmps61
 go_wp2_with fail
 refine Calls.mono hc.out ?_
 rintro e w1 ⟨rfl,hb⟩
 clear hc
 go_wp2
 go_ret
 exact ⟨rfl,hb⟩
theorem append_fresh {t e:TypeId} {i:TypeInfo} {z:Value} (ht:Tryz.prog.underlying t=some (.slice e)) (hi:Tryz.prog.info? e=some i) (hz:i.zero=some z) {x:Value} {n:Nat} {news:List Value} (w:World) (hs:Src Tryz.prog i.size t x n news w) (h0:0<n) (hn:n*i.bytes≤281474976710656) (hn2:n≤1099511627776) :
  ∃ (cap:Nat) (cs:Array Value),(∀ ty,(Builtin.append_ #[t,t] ty #[.slice none 0 0,x]).run Tryz.prog w = .ok (.slice (some ⟨w.heap.size,0,none⟩) n cap) (w.drew.alloc (.cells cs e)))∧∀ j,j<news.length→cs[j]? = news[j]?:=by
 have h:=fun ty=>run_append_grow_src (P:=Tryz.prog) w t t ty e i z ht hi hz none 0 0 [] (run_firstCells_none w.drew i.size 0 0 0) x n news hs (by omega) (by omega) (by rw [Nat.zero_add,nextslicecap_zero h0];exact hn)
 simp only [Nat.zero_add] at h
 refine ⟨_,_,h,fun j hj=>?_⟩
 simp only [List.nil_append]
 rw [Array.getElem?_append_left (by simpa using hj)]
 simp
theorem append_none {t e:TypeId} {i:TypeInfo} (ht:Tryz.prog.underlying t=some (.slice e)) (hi:Tryz.prog.info? e=some i) {x:Value} (w:World) (hs:Src Tryz.prog i.size t x 0 [] w) (ty:TypeId) :
  (Builtin.append_ #[t,t] ty #[.slice none 0 0,x]).run Tryz.prog w = .ok (.slice none 0 0) w :=
 run_append_nothing w t t ty e i ht hi none 0 0 (Nat.le_refl _) x hs
end Go.Proofs.YtongedjlmohogaaGreatDoor

namespace Go.Proofs.YtongedjlmohogaaGreatDoor
open Go.RowKit Go.Shelf
def vt0:Vt:=.mk 0 false ⟨#[]⟩ ⟨#[]⟩ [] []
def IsMem (t:Vt) (nm:ByteArray) (u:Vt) (B:Bool):Prop :=
 (B=true∧t.kind=6∧t.keys.length=t.kids.length∧∃ i:Nat,IsFst t.keys nm (i:Int)∧t.kids[i]? = some u) ∨
 (B=false∧u=vt0∧¬ (t.kind=6∧t.keys.length=t.kids.length∧∃ j:Nat,t.keys[j]? = some nm))
theorem ret_val2 {fn:Func} {p u:Tmp} {R:Ending→World→Prop} {a:Act} {w:World} {b:Nat} {cs:Array Value} (hres:fn.results = #[.cell p 59,.tmp u]) (hp:a.tmps.getD p undef = .pointer (some ⟨b,0,none⟩))
  (h:At w b cs 59) (hc:cs.size=6) (hd:a.defers=[]) (hR:R (.returned (.tuple #[.agg cs,a.tmps.getD u undef])) w):bodyPost Tryz.prog fn R .ret a w:=by
 refine bodyPost_ret (v:=.tuple #[.agg cs,a.tmps.getD u undef]) ?_ hd hR
 have hl:=run_loadVar_row (P:=Tryz.prog) w b 59 59 cs (0,0) _ h Tryz.underlying59 rfl (by rw [hc];exact sizeVl)
 rw [results_cell_tmp hres,hp]
 simp [asAddr,hl]
theorem At.six {w:World} {b:Nat} {x0 x1 x2 x3 x4 x5 y0 y1 y2 y3 y4 y5:Value} (h:At w b #[x0,x1,x2,x3,x4,x5] 59) :
  At ((((((w.setCell ⟨b,0,none⟩ y0).setCell ⟨b,1,none⟩ y1).setCell ⟨b,2,none⟩ y2).setCell ⟨b,3,none⟩ y3).setCell ⟨b,4,none⟩ y4).setCell ⟨b,5,none⟩ y5) b #[y0,y1,y2,y3,y4,y5] 59:=by
 have:=(((((h.set 0 y0).set 1 y1).set 2 y2).set 3 y3).set 4 y4).set 5 y5
 simpa using this
theorem below_six {w w':World} {n b:Nat} (h:Below n w w') (hb:n≤b) (y0 y1 y2 y3 y4 y5:Value):Below n w ((((((w'.setCell ⟨b,0,none⟩ y0).setCell ⟨b,1,none⟩ y1).setCell ⟨b,2,none⟩ y2).setCell ⟨b,3,none⟩ y3).setCell ⟨b,4,none⟩ y4).setCell ⟨b,5,none⟩ y5) :=
 (((((h.setCell hb _).setCell hb _).setCell hb _).setCell hb _).setCell hb _).setCell hb _
end Go.Proofs.YtongedjlmohogaaGreatDoor
