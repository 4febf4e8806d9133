/-
  Texts of mine that others lean on, one behind the other.
-/
import Derived.Test.YtongedjlmohogaaGreatDoorPack1
import Derived.Laws.BitsAllLaws
import Derived.Test.YtongedjlmohogaaGreatDoorRows
import Derived.WalkKit
import Derived.WalkSpells
import Derived.WalkLawsBesides
import Derived.BigQuiet
import Derived.Deep.QuietTactic
import Derived.Outline
import Derived.Deep.RegionHeld3
import Derived.Lib.MakeNoZero
import Derived.Laws.IdiomCopy
import Derived.Laws.ResultCell
import Derived.Shelf.Spec.TrailingZeros
import Derived.ChangeSlices
import Derived.ChangeSame
import Derived.SizedLaws
/-
 Of no program: rows of bits,told by their words.
-/
namespace Go.Proofs.YtongedjlmohogaaGreatDoor
def bitAt (X:Nat→Nat) (i:Nat):Bool:=(X (i / 64)).testBit (i % 64)
def need (n:Nat):Nat:=(n+63) / 64
def formed (n:Int) (k:Nat) (X:Nat→Nat):Prop:=0≤n∧k=need n.toNat∧∀ i,n.toNat≤i→i<64*k→bitAt X i=false
def cntB (X:Nat→Nat):Nat→Nat
 | 0=>0
 | n+1=>cntB X n+(bitAt X n).toNat
theorem cntB_succ (X:Nat→Nat) (n:Nat):cntB X (n+1)=cntB X n+(bitAt X n).toNat:=rfl
theorem cntB_mono (X:Nat→Nat) {a b:Nat} (h:a≤b):cntB X a≤cntB X b:=by
 obtain ⟨d,rfl⟩:∃ d,b=a+d:=⟨b-a,by omega⟩
 clear h
 induction d with
 | zero=>exact Nat.le_refl _
 | succ d ih=>rw [← Nat.add_assoc,cntB_succ];omega
theorem cntB_lt {X:Nat→Nat} {a b:Nat} (h:a<b) (hb:bitAt X a=true):cntB X a<cntB X b:=by
 have h1:=cntB_mono X (show a+1≤b by omega)
 rw [cntB_succ,hb] at h1
 simp at h1
 omega
def IsSel (X:Nat→Nat) (n:Nat) (k s:Int):Prop :=
 (∃ p:Nat,s=p∧p<n∧bitAt X p=true∧((cntB X p:Nat):Int)=k)∨(s = -1∧(k<0∨((cntB X n:Nat):Int)≤k))
theorem IsSel.uniq {X:Nat→Nat} {n:Nat} {k s t:Int} (h:IsSel X n k s) (h':IsSel X n k t):s=t:=by
 rcases h with ⟨p,rfl,h1,h2,h3⟩ | ⟨rfl,h1⟩ <;> rcases h' with ⟨q,rfl,h4,h5,h6⟩ | ⟨rfl,h4⟩
 ·rcases Nat.lt_trichotomy p q with h | h | h
  ·have:=cntB_lt h h2;omega
  ·rw [h]
  ·have:=cntB_lt h h5;omega
 ·have:=cntB_lt h1 h2;omega
 ·have:=cntB_lt h4 h5;omega
 ·rfl
def IsNext (X:Nat→Nat) (n:Nat) (f s:Int):Prop :=
 (∃ p:Nat,s=p∧p<n∧bitAt X p=true∧f≤(p:Int)∧∀ i:Nat,f≤(i:Int)→i<p→bitAt X i=false)∨(s = -1∧∀ i:Nat,f≤(i:Int)→i<n→bitAt X i=false)
theorem IsNext.uniq {X:Nat→Nat} {n:Nat} {k s t:Int} (h:IsNext X n k s) (h':IsNext X n k t):s=t:=by
 rcases h with ⟨p,rfl,h1,h2,h3,hz⟩ | ⟨rfl,h1⟩ <;> rcases h' with ⟨q,rfl,h4,h5,h6,hy⟩ | ⟨rfl,h4⟩
 ·rcases Nat.lt_trichotomy p q with h | h | h
  ·rw [hy p h3 h] at h2;cases h2
  ·rw [h]
  ·rw [hz q h6 h] at h5;cases h5
 ·rw [h4 p h3 h1] at h2;cases h2
 ·rw [h1 q h6 h4] at h5;cases h5
 ·rfl
def IsLast (X:Nat→Nat) (n:Nat) (t s:Int):Prop :=
 (∃ p:Nat,s=p∧p<n∧bitAt X p=true∧(p:Int)<t∧∀ i:Nat,p<i→i<n→(i:Int)<t→bitAt X i=false)∨(s = -1∧∀ i:Nat,i<n→(i:Int)<t→bitAt X i=false)
theorem IsLast.uniq {X:Nat→Nat} {n:Nat} {k s t:Int} (h:IsLast X n k s) (h':IsLast X n k t):s=t:=by
 rcases h with ⟨p,rfl,h1,h2,h3,hz⟩ | ⟨rfl,h1⟩ <;> rcases h' with ⟨q,rfl,h4,h5,h6,hy⟩ | ⟨rfl,h4⟩
 ·rcases Nat.lt_trichotomy p q with h | h | h
  ·rw [hz q h h4 h6] at h5;cases h5
  ·rw [h]
  ·rw [hy p h h1 h3] at h2;cases h2
 ·rw [h4 p h1 h3] at h2;cases h2
 ·rw [h1 q h4 h6] at h5;cases h5
 ·rfl
def Eff (n:Int) (k:Nat) (X:Nat→Nat) (N:Nat):Prop:=(formed n k X∧N=n.toNat)∨(¬ formed n k X∧N=0)
theorem Eff.uniq {n:Int} {k:Nat} {X:Nat→Nat} {N M:Nat} (h:Eff n k X N) (h':Eff n k X M):N=M:=by
 rcases h with ⟨h1,h2⟩ | ⟨h1,h2⟩ <;> rcases h' with ⟨h3,h4⟩ | ⟨h3,h4⟩
 ·rw [h2,h4]
 ·exact (h3 h1).elim
 ·exact (h1 h3).elim
 ·rw [h2,h4]
theorem Eff.get (n:Int) (k:Nat) (X:Nat→Nat):∃ N,Eff n k X N:=by
 by_cases h:formed n k X
 ·exact ⟨_,.inl ⟨h,rfl⟩⟩
 ·exact ⟨_,.inr ⟨h,rfl⟩⟩
end Go.Proofs.YtongedjlmohogaaGreatDoor
/-
 Of no program: what the program's tests of words say of rows of bits.
-/
namespace Go.Proofs.YtongedjlmohogaaGreatDoor
end Go.Proofs.YtongedjlmohogaaGreatDoor
/-
 Of no program: what the document's way,place by place,makes of rows of bits.
-/
namespace Go.Proofs.YtongedjlmohogaaGreatDoor
def rowOf (g:Nat→Bool) (n:Nat) (j:Nat):Nat:=sumBits (fun r=>decide (64*j+r<n) && g (64*j+r)) 64
end Go.Proofs.YtongedjlmohogaaGreatDoor
/-
 Of no program: that what is asked of a row has an answer;what rows put together and turned come to.
-/
namespace Go.Proofs.YtongedjlmohogaaGreatDoor
theorem IsSel.range {X:Nat→Nat} {N:Nat} {k s:Int} (h:IsSel X N k s):-1≤s∧s<max N 1:=by
 rcases h with ⟨p,rfl,h1,_⟩ | ⟨rfl,_⟩ <;> omega
theorem IsSel.next {X:Nat→Nat} {N:Nat} {f s:Int} {F:Nat} (hF:(F:Int)=max f 0) (h:IsSel X N (cntB X F:Nat) s):IsNext X N f s:=by
 rcases h with ⟨p,rfl,h1,h2,h3⟩ | ⟨rfl,h1⟩
 ·have hp:F≤p:=by
   rcases Nat.lt_or_ge p F with h | h
   ·have:=cntB_lt h h2;omega
   ·exact h
  refine .inl ⟨p,rfl,h1,h2,by omega,fun i h4 h5=>?_⟩
  cases hb:bitAt X i
  ·rfl
  ·have:=cntB_lt h5 hb
   have:=cntB_mono X (show F≤i by omega)
   omega
 ·refine .inr ⟨rfl,fun i h4 h5=>?_⟩
  cases hb:bitAt X i
  ·rfl
  ·have:=cntB_lt h5 hb
   have:=cntB_mono X (show F≤i by omega)
   omega
theorem IsSel.last {X:Nat→Nat} {N:Nat} {t s:Int} {T:Nat} (hT:T=min t.toNat N) (h:IsSel X N ((cntB X T:Nat)-1:Int) s):IsLast X N t s:=by
 rcases h with ⟨p,rfl,h1,h2,h3⟩ | ⟨rfl,h1⟩
 ·have hp:p<T:=by
   rcases Nat.lt_or_ge p T with h | h
   ·exact h
   ·have:=cntB_mono X h;omega
  refine .inl ⟨p,rfl,h1,h2,by omega,fun i h4 h5 h6=>?_⟩
  cases hb:bitAt X i
  ·rfl
  ·have h7:=cntB_lt h4 h2
   have h8:=cntB_lt (show i<T by omega) hb
   omega
 ·refine .inr ⟨rfl,fun i h4 h5=>?_⟩
  cases hb:bitAt X i
  ·rfl
  ·have h8:=cntB_lt (show i<T by omega) hb
   have:=cntB_mono X (show T≤N by omega)
   omega
theorem IsNext.range {X:Nat→Nat} {N:Nat} {k s:Int} (h:IsNext X N k s):-1≤s∧s<max N 1:=by
 rcases h with ⟨p,rfl,h1,_⟩ | ⟨rfl,_⟩ <;> omega
theorem IsLast.range {X:Nat→Nat} {N:Nat} {k s:Int} (h:IsLast X N k s):-1≤s∧s<max N 1:=by
 rcases h with ⟨p,rfl,h1,_⟩ | ⟨rfl,_⟩ <;> omega
def joinE (n m:Int) (k l:Nat) (X Y:Nat→Nat) (E q:Int) (r:Nat):Prop :=
 (¬ (formed n k X∧formed m l Y)∧E=1∧q=0∧r=0)∨((formed n k X∧formed m l Y)∧n≠m∧E=2∧q=0∧r=0)∨((formed n k X∧formed m l Y)∧n=m∧E=0∧q=n∧r=k)
end Go.Proofs.YtongedjlmohogaaGreatDoor

/-
 Plain facts on words as rows of bits: no program,no memory.
-/
namespace Go.Proofs.YtongedjlmohogaaGreatDoor
def mk (q:Nat→Bool):Nat→Nat
 | 0=>0
 | n+1=>mk q n ||| if q n then 2 ^ n else 0
def less (A B:Nat):Nat:=A ^^^ (A &&& B)
end Go.Proofs.YtongedjlmohogaaGreatDoor
/-
 What block.only,block.Join,block.Minus and block.Not answer.
-/
namespace Go.Proofs.YtongedjlmohogaaGreatDoor
open Go.RowKit
def clsArr (c:Nat→Nat):Array Value:=Array.ofFn (n:=4) fun j=>.int .u64 ((c j.val:Nat):Int)
theorem clsArr_at (c:Nat→Nat) (k:Nat) (h:k<4):(clsArr c)[k]? = some (.int .u64 ((c k:Nat):Int)):=by
 simp [clsArr,h]
theorem clsArr_lit (c:Nat→Nat):clsArr c = #[.int .u64 ((c 0:Nat):Int),.int .u64 ((c 1:Nat):Int),.int .u64 ((c 2:Nat):Int),.int .u64 ((c 3:Nat):Int)]:=rfl
def part (f c:Nat→Nat) (k j:Nat):Nat:=if j<k then f j else c j
end Go.Proofs.YtongedjlmohogaaGreatDoor
/-
 What block.only,block.Has and block.Of answer.
-/
namespace Go.Proofs.YtongedjlmohogaaGreatDoor
open Go.RowKit
end Go.Proofs.YtongedjlmohogaaGreatDoor
/-
 What block.Of answers.
-/
namespace Go.Proofs.YtongedjlmohogaaGreatDoor
open Go.RowKit
def byteAt (s:ByteArray) (i:Nat):Nat:=(s.data[i]?.getD 0).toNat
theorem byteAt_eq (s:ByteArray) (i:Nat) (h:i<s.size):(s[i]'h).toNat=byteAt s i:=by
 have h2:i<s.data.size:=h
 unfold byteAt
 rw [Array.getElem?_eq_getElem h2]
 rfl
theorem byteAt_lt (s:ByteArray) (i:Nat):byteAt s i<256:=UInt8.toNat_lt _
theorem At.four {w:World} {b:Nat} {c:Nat→Nat} {t:TypeId} (h:At w b (clsArr c) t):(w.cell? ⟨b,0,none⟩=some (.int .u64 ((c 0:Nat):Int))∧w.cell? ⟨b,1,none⟩=some (.int .u64 ((c 1:Nat):Int))∧w.cell? ⟨b,2,none⟩=some (.int .u64 ((c 2:Nat):Int))∧w.cell? ⟨b,3,none⟩=some (.int .u64 ((c 3:Nat):Int)))∧(w.frozen? ⟨b,0,none⟩=false∧w.frozen? ⟨b,1,none⟩=false∧w.frozen? ⟨b,2,none⟩=false∧w.frozen? ⟨b,3,none⟩=false) :=
 ⟨⟨(h.cell 0).trans (clsArr_at c 0 (by decide)),(h.cell 1).trans (clsArr_at c 1 (by decide)),(h.cell 2).trans (clsArr_at c 2 (by decide)),(h.cell 3).trans (clsArr_at c 3 (by decide))⟩,h.frozen 0,h.frozen 1,h.frozen 2,h.frozen 3⟩
theorem At.put {w:World} {b:Nat} {c:Nat→Nat} {t:TypeId} (h:At w b (clsArr c) t) (d:Nat→Nat) :
  At ((((w.setCell ⟨b,0,none⟩ (.int .u64 ((d 0:Nat):Int))).setCell ⟨b,1,none⟩ (.int .u64 ((d 1:Nat):Int))).setCell ⟨b,2,none⟩ (.int .u64 ((d 2:Nat):Int))).setCell ⟨b,3,none⟩ (.int .u64 ((d 3:Nat):Int))) b (clsArr d) t:=by
 have h4:=(((h.set 0 (.int .u64 ((d 0:Nat):Int))).set 1 (.int .u64 ((d 1:Nat):Int))).set 2 (.int .u64 ((d 2:Nat):Int))).set 3 (.int .u64 ((d 3:Nat):Int))
 have e:((((clsArr c).setIfInBounds 0 (.int .u64 ((d 0:Nat):Int))).setIfInBounds 1 (.int .u64 ((d 1:Nat):Int))).setIfInBounds 2 (.int .u64 ((d 2:Nat):Int))).setIfInBounds 3 (.int .u64 ((d 3:Nat):Int))=clsArr d:=by
  rw [clsArr_lit c,clsArr_lit d];rfl
 rwa [e] at h4
end Go.Proofs.YtongedjlmohogaaGreatDoor

/-
 What block.Mask and block.Equal answer.
-/
namespace Go.Proofs.YtongedjlmohogaaGreatDoor
open Go.RowKit
def arr64 (f:Nat→Nat):Array Value:=Array.ofFn (n:=64) fun j=>.int .u8 ((f j.val:Nat):Int)
theorem arr64_at (f:Nat→Nat) (k:Nat) (h:k<64):(arr64 f)[k]? = some (.int .u8 ((f k:Nat):Int)):=by
 simp [arr64,h]
end Go.Proofs.YtongedjlmohogaaGreatDoor
/-
 What block.Equal answers.
-/
namespace Go.Proofs.YtongedjlmohogaaGreatDoor
open Go.RowKit
end Go.Proofs.YtongedjlmohogaaGreatDoor
/-
 What bytes.Repeat of one byte,64 times,answers.
-/
namespace Go.Proofs.YtongedjlmohogaaGreatDoor
open Go.RowKit
end Go.Proofs.YtongedjlmohogaaGreatDoor
/-
 What block.Cut answers.
-/
namespace Go.Proofs.YtongedjlmohogaaGreatDoor
open Go.RowKit
def Row64 (w:World) (b:Nat) (f:Nat→Nat):Prop:=∃ cs:Array Value,At w b cs 5∧64≤cs.size∧∀ i,i<64→cs[i]? = some (.int .u8 ((f i:Nat):Int))
theorem Row64.range {w:World} {b:Nat} {f:Nat→Nat} (h:Row64 w b f) {L:List Value} (hL:L.toArray=arr64 f) (hl:L.length=64):w.rangeAt b 0 L:=fun j v hv=>by
 obtain ⟨cs,hA,_,hc⟩:=h
 have hj:j<64:=by
  have:=(List.getElem?_eq_some_iff.1 hv).1
  omega
 rw [Nat.zero_add,hA.cell,hc j hj,← arr64_at f j hj,← hL]
 simpa using hv
theorem Row64.congr {w:World} {b:Nat} {f g:Nat→Nat} (h:Row64 w b f) (e:∀ i,i<64→f i=g i):Row64 w b g:=by
 obtain ⟨cs,hA,hs,hc⟩:=h
 exact ⟨cs,hA,hs,fun i hi=>by rw [hc i hi,e i hi]⟩
end Go.Proofs.YtongedjlmohogaaGreatDoor
/-
 What quarrylaw02.awake answers: true.
-/
namespace Go.Proofs.YtongedjlmohogaaGreatDoor
open Go.RowKit
end Go.Proofs.YtongedjlmohogaaGreatDoor
/-
 What block.Blocks tells: the blocks of a text,one behind the other.
-/
namespace Go.Proofs.YtongedjlmohogaaGreatDoor
open Go.RowKit Go.Shelf
attribute [local go_sem] Oper.semAt_some
end Go.Proofs.YtongedjlmohogaaGreatDoor
/-
 What block.Blocks tells,where its two variables lie among others that the caller's rounds turn.
-/
namespace Go.Proofs.YtongedjlmohogaaGreatDoor
open Go.RowKit Go.Shelf
attribute [local go_sem] Oper.semAt_some
def KeepB (Bs Bp:Nat) (A B:World):Prop:=A.heap.size≤B.heap.size∧(∀ cs t,At A Bs cs t→At B Bs cs t)∧∀ cs t,At A Bp cs t→At B Bp cs t
section
variable {Bs Bp:Nat} {A B C:World}
theorem KeepB.refl (Bs Bp:Nat) (A:World):KeepB Bs Bp A A:=⟨Nat.le_refl _,fun _ _ h=>h,fun _ _ h=>h⟩
theorem KeepB.trans (h:KeepB Bs Bp A B) (k:KeepB Bs Bp B C):KeepB Bs Bp A C:=⟨Nat.le_trans h.1 k.1,fun _ _ x=>k.2.1 _ _ (h.2.1 _ _ x),fun _ _ x=>k.2.2 _ _ (h.2.2 _ _ x)⟩
theorem KeepB.of_below (h:Below A.heap.size A B):KeepB Bs Bp A B:=⟨h.size,fun _ _ x=>x.keptAll h,fun _ _ x=>x.keptAll h⟩
end
end Go.Proofs.YtongedjlmohogaaGreatDoor

/-
 What math/bits.OnesCount64,math/bits.TrailingZeros64,words.Rank come to.
-/
namespace Go.Proofs.YtongedjlmohogaaGreatDoor
open Go.RowKit
abbrev Tab (w:World):Prop:=TabAt 0 Lib.deBruijn64tab w
theorem Tab.below {n₀:Nat} {w w':World} (h:Tab w) (hb:Below n₀ w w') (h0:0<n₀):Tab w':=fun j hj=>(hb.cell (p:=⟨0,j,none⟩) h0).trans (h j hj)
end Go.Proofs.YtongedjlmohogaaGreatDoor
/-
 What words.Each tells: the places of the set bits,one behind the other.
-/
namespace Go.Proofs.YtongedjlmohogaaGreatDoor
open Go.RowKit Go.Shelf
attribute [local go_sem] Oper.semAt_some
end Go.Proofs.YtongedjlmohogaaGreatDoor
/-
 What words.Runs tells: the rows of set bits,one behind the other. It ranges over words.Each and calls its yield in those rounds.
-/
namespace Go.Proofs.YtongedjlmohogaaGreatDoor
open Go.RowKit Go.Shelf
attribute [local go_sem] Oper.semAt_some
end Go.Proofs.YtongedjlmohogaaGreatDoor
/-
 What words.Escaped answers.
-/
namespace Go.Proofs.YtongedjlmohogaaGreatDoor
open Go.RowKit Go.Shelf
attribute [local go_sem] Oper.semAt_some
end Go.Proofs.YtongedjlmohogaaGreatDoor
/-
 What words.Select answers.
-/
namespace Go.Proofs.YtongedjlmohogaaGreatDoor
open Go.RowKit Go.Shelf
attribute [local go_sem] Oper.semAt_some
end Go.Proofs.YtongedjlmohogaaGreatDoor

namespace Go.Proofs.YtongedjlmohogaaGreatDoor
open Go.ChangeShapes Go.WideShapes Go.ChangeAt Go.RowKit
set_option maxRecDepth 100000
def Wds (w:World) (ao:Option Addr) (k:Nat) (X:Nat→Nat):Prop :=
 ∀ j,j<k→X j<18446744073709551616∧∃ g off,ao=some ⟨g,off,none⟩∧w.cell? ⟨g,off+j,none⟩=some (.int .u64 ((X j:Nat):Int))
def Nums (w:World) (ao:Option Addr) (k:Nat) (Z:Nat→Int):Prop :=
 ∀ j,j<k→(Lit.int .i64 (Z j)).wf=true∧∃ g off,ao=some ⟨g,off,none⟩∧w.cell? ⟨g,off+j,none⟩=some (.int .i64 (Z j))
theorem cell_block {w:World} {a:Addr} {v:Value} (h:w.cell? a=some v):a.block<w.heap.size:=by
 unfold World.cell? at h
 cases ho:w.heap[a.block]? with
 | none=>simp [ho] at h
 | some o=>exact (Array.getElem?_eq_some_iff.1 ho).1
theorem Wds.kept {w w':World} {ao:Option Addr} {k:Nat} {X:Nat→Nat} (h:Wds w ao k X) (hb:Below w.heap.size w w'):Wds w' ao k X:=fun j hj=>by
 obtain ⟨h1,g,off,h2,h3⟩:=h j hj
 exact ⟨h1,g,off,h2,(hb.cell (p:=⟨g,off+j,none⟩) (cell_block h3)).trans h3⟩
theorem Nums.kept {w w':World} {ao:Option Addr} {k:Nat} {Z:Nat→Int} (h:Nums w ao k Z) (hb:Below w.heap.size w w'):Nums w' ao k Z:=fun j hj=>by
 obtain ⟨h1,g,off,h2,h3⟩:=h j hj
 exact ⟨h1,g,off,h2,(hb.cell (p:=⟨g,off+j,none⟩) (cell_block h3)).trans h3⟩
theorem Wds.le {w:World} {ao:Option Addr} {k k':Nat} {X:Nat→Nat} (h:Wds w ao k X) (hk:k'≤k):Wds w ao k' X:=fun j hj=>h j (by omega)
section
variable {H:Type} {enc:TypeId × Value→H} {P:Program} {w:World} {base:Nat} {spare:Nat→Bool} {held:Bool}
end
section
variable {H:Type} {enc:TypeId × Value→H} {w:World} {base:Nat} {spare:Nat→Bool} {held:Bool}
end
end Go.Proofs.YtongedjlmohogaaGreatDoor

namespace Go.Proofs.YtongedjlmohogaaGreatDoor
open Go.RowKit
abbrev bv (n:Int) (ao:Option Addr) (k cap:Nat):Value:=.agg #[.int .i64 n,.slice ao k cap]
end Go.Proofs.YtongedjlmohogaaGreatDoor
