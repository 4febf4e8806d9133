/-
  Texts of mine that others lean on, one behind the other.
-/
import Derived.Test.YtongedjlmohogaaGreatDoorPack2
import Derived.Laws.OwnMore
import Derived.Laws.ResultCell
import Derived.Laws.Rows
import Derived.Laws.AppendOwn
import Derived.Test.YtongedjlmohogaaGreatDoorPack1
import Derived.WalkMore
import Derived.Shelf.Abstract
import Derived.Test.YtongedjlmohogaaGreatDoorRows
import Derived.Lib.Strings
import Derived.Lib.Slices
import Derived.Lib.Small
import Derived.Lib.Walk
import Derived.Lib.BitFns
import Derived.Lib.ItoaNum
/-
 Rows of words and rows of truths that a call has made.
-/
namespace Go.Proofs.YtongedjlmohogaaGreatDoor
open Go.RowKit
def rowCells (K:Nat) (Y:Nat→Nat):Array Value:=((List.range K).map fun j=>Value.int .u64 ((Y j:Nat):Int)).toArray
theorem rowCells_congr {K:Nat} {Y Y':Nat→Nat} (h:∀ j,j<K→Y j=Y' j):rowCells K Y=rowCells K Y':=by
 unfold rowCells
 congr 1
 apply List.map_congr_left
 intro j hj
 rw [h j (by simpa using hj)]
def setTo (Z:Nat→Int):Nat→Nat→Bool
 | 0,_=>false
 | m+1,i=>setTo Z m i || decide (Z m=(i:Int))
end Go.Proofs.YtongedjlmohogaaGreatDoor
/-
 A call's end,where a row of bits is among its results.
-/
namespace Go.Proofs.YtongedjlmohogaaGreatDoor
open Go.RowKit
end Go.Proofs.YtongedjlmohogaaGreatDoor
/-
 Rows that append has made: what is read of them,and what keeps them;rows of truths.
-/
namespace Go.Proofs.YtongedjlmohogaaGreatDoor
open Go.RowKit
def Bls (w:World) (ao:Option Addr) (k:Nat) (G:Nat→Bool):Prop:=∀ j,j<k→∃ g off,ao=some ⟨g,off,none⟩∧w.cell? ⟨g,off+j,none⟩=some (.bool (G j))
theorem Bls.kept {w w':World} {ao:Option Addr} {k:Nat} {G:Nat→Bool} (h:Bls w ao k G) (hb:Below w.heap.size w w'):Bls w' ao k G:=fun j hj=>by
 obtain ⟨g,off,h2,h3⟩:=h j hj
 exact ⟨g,off,h2,(hb.cell (p:=⟨g,off+j,none⟩) (cell_block h3)).trans h3⟩
theorem At.grown {w w':World} {b B:Nat} {cs:Array Value} {t:TypeId} {o:Obj} {row:Option Nat} (h:At w b cs t) (hg:(w.alloc o).grownBy w' row) (hr:∀ r,row=some r→B≤r) (hb:b<B):At w' b cs t :=
 (hg.block b (h.alloc o).lt (fun e=>by have:=hr b e.symm;omega)).trans (h.alloc o)
end Go.Proofs.YtongedjlmohogaaGreatDoor

/-
 Of no program: the words of the row of escaped bytes.
-/
namespace Go.Proofs.YtongedjlmohogaaGreatDoor
def escS (s:ByteArray):Nat→Bool:=escG (slash s) false
end Go.Proofs.YtongedjlmohogaaGreatDoor
/-
 What escape.Escaped answers.
-/
namespace Go.Proofs.YtongedjlmohogaaGreatDoor
open Go.RowKit Go.Shelf
attribute [local go_sem] Oper.semAt_some
section
variable {w:World} {s:ByteArray} {K B:Nat}
end
end Go.Proofs.YtongedjlmohogaaGreatDoor
/-
 What quarryref06.Escaped answers.
-/
namespace Go.Proofs.YtongedjlmohogaaGreatDoor
open Go.RowKit
end Go.Proofs.YtongedjlmohogaaGreatDoor
/-
 What the walks through the laws of escape share.
-/
namespace Go.Proofs.YtongedjlmohogaaGreatDoor
open Go.RowKit
end Go.Proofs.YtongedjlmohogaaGreatDoor

/- JoinWalk,ChangedBad,ChangeWalk,MakeWalk,JoinOps,GivesKit,PrefixOnly,TurnOps,Len64Walk,AskKit. -/
/-
  What bitmap.joined,And,Or,Xor and Minus answer.
-/
namespace Go.Proofs.YtongedjlmohogaaGreatDoor
open Go.RowKit
def Joined (o:Nat→Nat→Nat) (n m:Int) (k l:Nat) (X Y:Nat→Nat) (w:World) (e:Ending) (w':World):Prop :=
  Below w.heap.size w w' ∧
    ((¬ (formed n k X∧formed m l Y)∧e = .returned (.tuple #[bv 0 none 0 0,.int .i64 1])) ∨
     ((formed n k X∧formed m l Y)∧n≠m∧e = .returned (.tuple #[bv 0 none 0 0,.int .i64 2])) ∨
     ((formed n k X∧formed m l Y)∧n=m∧∃ g,w.heap.size≤g∧At w' g (rowCells k (fun j=>o (X j) (Y j))) 127∧e = .returned (.tuple #[bv n (some ⟨g,0,none⟩) k k,.int .i64 0])))
end Go.Proofs.YtongedjlmohogaaGreatDoor
/-
  What bitmap.changed and bitmap.Not answer of a row that isn't one.
-/
namespace Go.Proofs.YtongedjlmohogaaGreatDoor
open Go.RowKit
end Go.Proofs.YtongedjlmohogaaGreatDoor
/-
  What bitmap.changed answers of a row of bits.
-/
namespace Go.Proofs.YtongedjlmohogaaGreatDoor
open Go.RowKit Go.Shelf
end Go.Proofs.YtongedjlmohogaaGreatDoor
/-
  What bitmap.Make answers.
-/
namespace Go.Proofs.YtongedjlmohogaaGreatDoor
open Go.RowKit
def good (n:Int) (k:Nat) (Z:Nat→Int):Prop:=0≤n∧n≤16777216∧∀ t,t<k→0≤Z t∧Z t<n
def Made (w:World) (n:Int) (k:Nat) (Z:Nat→Int) (e:Ending) (w':World):Prop :=
  Below w.heap.size w w'∧((¬ good n k Z∧e = .returned (.tuple #[bv 0 none 0 0,.int .i64 2])) ∨
    (good n k Z∧∃ g K,Hid (K=need n.toNat)∧w.heap.size≤g∧At w' g (rowCells K (rowOf (setTo Z k) n.toNat)) 127∧e = .returned (.tuple #[bv n (some ⟨g,0,none⟩) K K,.int .i64 0])))
end Go.Proofs.YtongedjlmohogaaGreatDoor
/-
  What bitmap.And,Or,Xor and Minus answer.
-/
namespace Go.Proofs.YtongedjlmohogaaGreatDoor
open Go.RowKit Go.Shelf
end Go.Proofs.YtongedjlmohogaaGreatDoor
/-
  What calls that answer a row of bits and an error number leave: the row lies in a block of its own.
-/
namespace Go.Proofs.YtongedjlmohogaaGreatDoor
open Go.RowKit
def Own (B:Nat) (w:World) (so:Option Addr) (r:Nat) (Z:Nat→Nat):Prop:=(so=none∧r=0)∨∃ g,so=some ⟨g,0,none⟩∧B≤g∧At w g (rowCells r Z) 127
theorem Own.kept {B:Nat} {w w':World} {so:Option Addr} {r:Nat} {Z:Nat→Nat} (h:Own B w so r Z) (hb:Below w.heap.size w w'):Own B w' so r Z:=by
  rcases h with h | ⟨g,h1,h2,h3⟩
  · exact .inl h
  · exact .inr ⟨g,h1,h2,h3.keptAll hb⟩
theorem Own.mono {B B':Nat} {w:World} {so:Option Addr} {r:Nat} {Z:Nat→Nat} (h:Own B w so r Z) (hB:B'≤B):Own B' w so r Z:=by
  rcases h with h | ⟨g,h1,h2,h3⟩
  · exact .inl h
  · exact .inr ⟨g,h1,by omega,h3⟩
theorem Own.other {B:Nat} {w:World} {so:Option Addr} {r:Nat} {Z:Nat→Nat} (h:Own B w so r Z) {p:Addr} (hp:p.block<B) (v:Value):Own B (w.setCell p v) so r Z:=by
  rcases h with h | ⟨g,h1,h2,h3⟩
  · exact .inl h
  · exact .inr ⟨g,h1,h2,h3.other (by omega) v⟩
def Gives (E q:Int) (r:Nat) (Z:Nat→Nat) (w:World) (e:Ending) (w':World):Prop:=Below w.heap.size w w'∧∃ so,Own w.heap.size w' so r Z∧e = .returned (.tuple #[bv q so r r,.int .i64 E])
theorem Gives.congr {E q:Int} {r:Nat} {Z Z':Nat→Nat} {w w':World} {e:Ending} (h:Gives E q r Z w e w') (hZ:∀ j,j<r→Z j=Z' j):Gives E q r Z' w e w':=by
  obtain ⟨h1,so,h2,h3⟩:=h
  refine ⟨h1,so,?_,h3⟩
  rcases h2 with h | ⟨g,h4,h5,h6⟩
  · exact .inl h
  · exact .inr ⟨g,h4,h5,rowCells_congr hZ ▸ h6⟩
theorem Joined.gives {o:Nat→Nat→Nat} {n m:Int} {k l:Nat} {X Y:Nat→Nat} {w w':World} {e:Ending} (h:Joined o n m k l X Y w e w') {E q:Int} {r:Nat} (hE:joinE n m k l X Y E q r):Gives E q r (fun j=>o (X j) (Y j)) w e w':=by
  obtain ⟨hb,h⟩:=h
  refine ⟨hb,?_⟩
  rcases hE with ⟨h1,rfl,rfl,rfl⟩ | ⟨h1,h2,rfl,rfl,rfl⟩ | ⟨h1,h2,rfl,rfl,rfl⟩ <;> rcases h with ⟨h3,rfl⟩ | ⟨h3,h4,rfl⟩ | ⟨h3,h4,g,hg,hrow,rfl⟩
  · exact ⟨none,.inl ⟨rfl,rfl⟩,rfl⟩
  · exact (h1 h3).elim
  · exact (h1 h3).elim
  · exact (h3 h1).elim
  · exact ⟨none,.inl ⟨rfl,rfl⟩,rfl⟩
  · exact (h2 h4).elim
  · exact (h3 h1).elim
  · exact (h4 h2).elim
  · exact ⟨_,.inr ⟨g,rfl,hg,hrow⟩,rfl⟩
def makeE (n:Int) (k:Nat) (Z:Nat→Int) (E q:Int) (r:Nat):Prop:=(¬ good n k Z∧E=2∧q=0∧r=0)∨(good n k Z∧E=0∧q=n∧r=need n.toNat)
theorem Made.gives {n:Int} {k:Nat} {Z:Nat→Int} {w w':World} {e:Ending} (h:Made w n k Z e w') {E q:Int} {r:Nat} (hE:makeE n k Z E q r):Gives E q r (rowOf (setTo Z k) n.toNat) w e w':=by
  obtain ⟨hb,h⟩:=h
  refine ⟨hb,?_⟩
  rcases hE with ⟨h1,rfl,rfl,rfl⟩ | ⟨h1,rfl,rfl,rfl⟩ <;> rcases h with ⟨h3,rfl⟩ | ⟨h3,g,K,hK,hg,hrow,rfl⟩
  · exact ⟨none,.inl ⟨rfl,rfl⟩,rfl⟩
  · exact (h1 h3).elim
  · exact (h3 h1).elim
  · obtain rfl:=hK.out
    exact ⟨_,.inr ⟨g,rfl,hg,hrow⟩,rfl⟩
end Go.Proofs.YtongedjlmohogaaGreatDoor
/-
  What words.Prefix comes to.
-/
namespace Go.Proofs.YtongedjlmohogaaGreatDoor
open Go.RowKit
end Go.Proofs.YtongedjlmohogaaGreatDoor
/-
  What bitmap.Not and bitmap.Prefix answer.
-/
namespace Go.Proofs.YtongedjlmohogaaGreatDoor
open Go.RowKit Go.Shelf
end Go.Proofs.YtongedjlmohogaaGreatDoor
/-
  What math/bits.Len64 answers.
-/
namespace Go.Proofs.YtongedjlmohogaaGreatDoor
end Go.Proofs.YtongedjlmohogaaGreatDoor
/-
  What the calls that ask a row of bits have in common.
-/
namespace Go.Proofs.YtongedjlmohogaaGreatDoor
open Go.RowKit Go.Shelf
end Go.Proofs.YtongedjlmohogaaGreatDoor
/- GetWalk,CountWalk,NextWalk. -/
/-
  What bitmap.Get answers.
-/
namespace Go.Proofs.YtongedjlmohogaaGreatDoor
open Go.RowKit Go.Shelf
end Go.Proofs.YtongedjlmohogaaGreatDoor
/-
  What bitmap.Count answers.
-/
namespace Go.Proofs.YtongedjlmohogaaGreatDoor
open Go.RowKit Go.Shelf
end Go.Proofs.YtongedjlmohogaaGreatDoor
/-
  What bitmap.Next answers.
-/
namespace Go.Proofs.YtongedjlmohogaaGreatDoor
open Go.RowKit Go.Shelf
end Go.Proofs.YtongedjlmohogaaGreatDoor

/- QuoMath,SpanMath. -/
/-
  Of no program: the quotes of a text that count,and what stands between them.
-/
namespace Go.Proofs.YtongedjlmohogaaGreatDoor
def quoB (s:ByteArray) (i:Nat):Bool:=decide ((s.data[i]?.getD 0).toNat=34)
def markS (s:ByteArray) (i:Nat):Bool:=quoB s i && !escS s i
def oddG (G:Nat→Bool):Nat→Bool
  | 0=>false
  | n+1=>oddG G n ^^ G n
theorem oddG_succ (G:Nat→Bool) (n:Nat):oddG G (n+1)=(oddG G n ^^ G n):=rfl
def inS (s:ByteArray) (i:Nat):Bool:=oddG (markS s) (i+1)
def openS (s:ByteArray):Bool:=oddG (markS s) s.size
def ctlB (s:ByteArray) (i:Nat):Bool:=decide ((s.data[i]?.getD 32).toNat<32)
def IsCtl (s:ByteArray) (c:Int):Prop :=
  (∃ p:Nat,c=p∧p<s.size∧inS s p=true∧ctlB s p=true∧∀ i,i<p→(inS s i && ctlB s i)=false)∨(c = -1∧∀ i,i<s.size→(inS s i && ctlB s i)=false)
theorem IsCtl.uniq {s:ByteArray} {c d:Int} (h:IsCtl s c) (h':IsCtl s d):c=d:=by
  rcases h with ⟨p,rfl,h1,h2,h3,hz⟩ | ⟨rfl,h1⟩ <;> rcases h' with ⟨q,rfl,h4,h5,h6,hy⟩ | ⟨rfl,h4⟩
  · rcases Nat.lt_trichotomy p q with h | h | h
    · have:=hy p h;rw [h2,h3] at this;cases this
    · rw [h]
    · have:=hz q h;rw [h5,h6] at this;cases this
  · have:=h4 p h1;rw [h2,h3] at this;cases this
  · have:=h1 q h4;rw [h5,h6] at this;cases this
  · rfl
end Go.Proofs.YtongedjlmohogaaGreatDoor
/-
  Of no program: the spans between the marks of a text.
-/
namespace Go.Proofs.YtongedjlmohogaaGreatDoor
def nxtF (G:Nat→Bool):Nat→Nat→Nat
  | 0,f=>f
  | k+1,f=>if G f then f else nxtF G k (f+1)
theorem nxtF_lo (G:Nat→Bool) (k f:Nat):f≤nxtF G k f∧nxtF G k f≤f+k:=by
  induction k generalizing f with
  | zero=>exact ⟨Nat.le_refl _,Nat.le_refl _⟩
  | succ k ih =>
    rw [nxtF]
    split
    · omega
    · have:=ih (f+1);omega
theorem nxtF_hit (G:Nat→Bool) (k f:Nat) (h:nxtF G k f<f+k):G (nxtF G k f)=true:=by
  induction k generalizing f with
  | zero=>rw [nxtF] at h;omega
  | succ k ih =>
    rw [nxtF] at h ⊢
    split
    · assumption
    · rename_i hf
      rw [if_neg hf] at h
      exact ih (f+1) (by omega)
theorem nxtF_gap (G:Nat→Bool) (k f i:Nat) (h1:f≤i) (h2:i<nxtF G k f):G i=false:=by
  induction k generalizing f with
  | zero=>rw [nxtF] at h2;omega
  | succ k ih =>
    rw [nxtF] at h2
    split at h2
    · omega
    · rename_i hf
      by_cases he:i=f
      · rw [he];simpa using hf
      · exact ih (f+1) (by omega) h2
def nxt (G:Nat→Bool) (n f:Nat):Nat:=nxtF G (n-f) f
section
variable {G:Nat→Bool} {n f i:Nat}
theorem nxt_lo:f≤nxt G n f:=(nxtF_lo G _ f).1
theorem nxt_le (h:f≤n):nxt G n f≤n:=by have:=(nxtF_lo G (n-f) f).2;unfold nxt;omega
theorem nxt_hit (h:nxt G n f<n):G (nxt G n f)=true:=nxtF_hit G _ f (by have:=nxt_lo (G:=G) (n:=n) (f:=f);unfold nxt at h this;omega)
theorem nxt_gap (h1:f≤i) (h2:i<nxt G n f):G i=false:=nxtF_gap G _ f i h1 h2
end
def spansF (G:Nat→Bool) (n:Nat):Nat→Nat→List (Nat × Nat)
  | 0,_=>[]
  | k+1,f=>if nxt G n f<n then (nxt G n f+1,nxt G n (nxt G n f+1)) :: spansF G n k (nxt G n (nxt G n f+1)+1) else []
theorem spansF_fuel (G:Nat→Bool) (n:Nat) (k k' f:Nat) (h:n<f+k) (h':n<f+k'):spansF G n k f=spansF G n k' f:=by
  induction k generalizing k' f with
  | zero =>
    cases k' with
    | zero=>rfl
    | succ k' =>
      rw [spansF,spansF,if_neg]
      have:=nxt_lo (G:=G) (n:=n) (f:=f);omega
  | succ k ih =>
    cases k' with
    | zero =>
      rw [spansF,spansF,if_neg]
      have:=nxt_lo (G:=G) (n:=n) (f:=f);omega
    | succ k' =>
      rw [spansF,spansF]
      have h1:=nxt_lo (G:=G) (n:=n) (f:=f)
      have h2:=nxt_lo (G:=G) (n:=n) (f:=nxt G n f+1)
      rw [ih k' _ (by omega) (by omega)]
def spansAt (G:Nat→Bool) (n f:Nat):List (Nat × Nat):=spansF G n (n+1) f
theorem spansAt_t {G:Nat→Bool} {n f:Nat} (h:nxt G n f<n):spansAt G n f=(nxt G n f+1,nxt G n (nxt G n f+1)) :: spansAt G n (nxt G n (nxt G n f+1)+1):=by
  unfold spansAt
  rw [spansF,if_pos h]
  congr 1
  have h1:=nxt_lo (G:=G) (n:=n) (f:=nxt G n f+1)
  exact spansF_fuel G n _ _ _ (by omega) (by omega)
theorem spansAt_f {G:Nat→Bool} {n f:Nat} (h:¬ nxt G n f<n):spansAt G n f=[]:=by
  unfold spansAt
  rw [spansF,if_neg h]
def spansS (s:ByteArray):List (Nat × Nat):=spansAt (markS s) s.size 0
def SpAt (s:ByteArray) (r f:Nat):Prop:=(spansS s).drop r=spansAt (markS s) s.size f∧r≤(spansS s).length∧f≤s.size+1∧(f≤s.size→oddG (markS s) f=false)
theorem oddG_same {G:Nat→Bool} {a b:Nat} (h:a≤b) (hz:∀ i,a≤i→i<b→G i=false):oddG G b=oddG G a:=by
  obtain ⟨d,rfl⟩:∃ d,b=a+d:=⟨b-a,by omega⟩
  clear h
  induction d with
  | zero=>rfl
  | succ d ih=>rw [← Nat.add_assoc,oddG_succ,ih (fun i h1 h2=>hz i h1 (by omega)),hz (a+d) (by omega) (by omega),Bool.xor_false]
structure SpNext (s:ByteArray) (r f o c:Nat):Prop where
  lt:r<(spansS s).length
  at_:(spansS s)[r]? = some (o+1,c)
  next:SpAt s (r+1) (c+1)
  fo:f≤o
  on:o<s.size
  oc:o<c
  cn:c≤s.size
  mo:markS s o=true
  mc:c<s.size→markS s c=true
  ahead:∀ i,f≤i→i<o→markS s i=false
  within:∀ i,o<i→i<c→markS s i=false
  outside:∀ i,f≤i→i<o→inS s i=false
  inside:∀ i,o≤i→i<c→inS s i=true
  last:c<s.size→inS s c=false
theorem SpAt.step {s:ByteArray} {r f o:Nat} (h:SpAt s r f) (ho:nxt (markS s) s.size f=o) (hlt:o<s.size):SpNext s r f o (nxt (markS s) s.size (o+1)):=by
  obtain ⟨h1,h2,h3,h4⟩:=h
  obtain ⟨c,hc⟩:∃ c,nxt (markS s) s.size (o+1)=c:=⟨_,rfl⟩
  rw [hc]
  rw [spansAt_t (by rw [ho];exact hlt),ho,hc] at h1
  have hlen:r<(spansS s).length:=by
    by_cases h:r<(spansS s).length
    · exact h
    · rw [List.drop_eq_nil_of_le (by omega)] at h1;cases h1
  rw [List.drop_eq_getElem_cons hlen] at h1
  obtain ⟨e1,e2⟩:=List.cons.inj h1
  have hfo:f≤o:=by have:=nxt_lo (G:=markS s) (n:=s.size) (f:=f);omega
  have hoc:o<c:=by have:=nxt_lo (G:=markS s) (n:=s.size) (f:=o+1);omega
  have hcn:c≤s.size:=by rw [← hc];exact nxt_le (by omega)
  have hmo:markS s o=true:=by rw [← ho];exact nxt_hit (by omega)
  have hmc:c<s.size→markS s c=true:=fun h=>by rw [← hc];exact nxt_hit (by omega)
  have hah:∀ i,f≤i→i<o→markS s i=false:=fun i g1 g2=>nxt_gap g1 (by rw [ho];exact g2)
  have hwi:∀ i,o<i→i<c→markS s i=false:=fun i g1 g2=>nxt_gap (f:=o+1) g1 (by rw [hc];exact g2)
  have hf0:=h4 (by omega)
  have odd1:∀ i,f≤i→i≤o→oddG (markS s) i=false:=fun i g1 g2=>(oddG_same g1 (fun j j1 j2=>hah j j1 (by omega))).trans hf0
  have odd2:oddG (markS s) (o+1)=true:=by rw [oddG_succ,odd1 o hfo (Nat.le_refl _),hmo];rfl
  have odd3:∀ i,o+1≤i→i≤c→oddG (markS s) i=true:=fun i g1 g2=>(oddG_same g1 (fun j j1 j2=>hwi j (by omega) (by omega))).trans odd2
  have odd4:c<s.size→oddG (markS s) (c+1)=false:=fun g=>by rw [oddG_succ,odd3 c hoc (Nat.le_refl _),hmc g];rfl
  exact { lt := hlen, at_ := by rw [List.getElem?_eq_getElem hlen, e1], next := ⟨e2, hlen, by omega, fun g => odd4 (by omega)⟩, fo := hfo, on := hlt, oc := hoc, cn := hcn, mo := hmo, mc := hmc, ahead := hah, within := hwi,
          outside:=fun i g1 g2=>odd1 (i+1) (by omega) g2,inside:=fun i g1 g2=>odd3 (i+1) (by omega) g2,last:=odd4 }
theorem SpAt.end {s:ByteArray} {r f:Nat} (h:SpAt s r f) (hno:¬ nxt (markS s) s.size f<s.size):r=(spansS s).length∧(∀ i,f≤i→i<s.size→markS s i=false)∧∀ i,f≤i→i<s.size→inS s i=false:=by
  obtain ⟨h1,h2,h3,h4⟩:=h
  rw [spansAt_f hno] at h1
  have hz:∀ i,f≤i→i<s.size→markS s i=false:=fun i g1 g2=>nxt_gap (n:=s.size) g1 (by omega)
  refine ⟨?_,hz,fun i g1 g2=>?_⟩
  · have:=congrArg List.length h1
    rw [List.length_drop,List.length_nil] at this
    omega
  · unfold inS
    rw [oddG_same (a:=f) (by omega) (fun j j1 j2=>hz j j1 (by omega))]
    exact h4 (by omega)
theorem SpAt.more {s:ByteArray} {r f:Nat} (h:SpAt s r f) (hr:r<(spansS s).length):nxt (markS s) s.size f<s.size:=by
  by_cases ho:nxt (markS s) s.size f<s.size
  · exact ho
  · have:=(h.end ho).1;omega
end Go.Proofs.YtongedjlmohogaaGreatDoor
/- TellKit,BlockTell,QuoMarks,QuoInside. -/
/-
  A range over an iterator of which it is known,number by number,what it tells: the body is walked at the number that is next alone.
-/
namespace Go.Proofs.YtongedjlmohogaaGreatDoor
open Go.RowKit Go.Shelf
section
variable {P:Program}
end
end Go.Proofs.YtongedjlmohogaaGreatDoor
/-
  What block.Blocks tells,number by number.
-/
namespace Go.Proofs.YtongedjlmohogaaGreatDoor
open Go.RowKit Go.Shelf
attribute [local go_sem] Oper.semAt_some
end Go.Proofs.YtongedjlmohogaaGreatDoor
/-
  What quotes.Marks answers.
-/
namespace Go.Proofs.YtongedjlmohogaaGreatDoor
open Go.RowKit Go.Shelf
attribute [local go_sem] Oper.semAt_some
section
variable {w:World} {s:ByteArray} {K g b B:Nat}
end
end Go.Proofs.YtongedjlmohogaaGreatDoor
/-
  What quotes.Inside and quotes.Open answer.
-/
namespace Go.Proofs.YtongedjlmohogaaGreatDoor
open Go.RowKit Go.Shelf
end Go.Proofs.YtongedjlmohogaaGreatDoor

namespace Go.Proofs.YtongedjlmohogaaGreatDoor
def sgnB (s:ByteArray) (i:Nat):Bool:=byteAt s i == 123 || byteAt s i == 125 || byteAt s i == 91 || byteAt s i == 93 || byteAt s i == 58 || byteAt s i == 44
def blkB (s:ByteArray) (i:Nat):Bool:=byteAt s i == 32 || byteAt s i == 9 || byteAt s i == 10 || byteAt s i == 13
def outS (s:ByteArray) (i:Nat):Bool:=decide (i<s.size) && (!markS s i && !inS s i)
def strS (s:ByteArray) (i:Nat):Bool:=outS s i && sgnB s i
def wordS (s:ByteArray) (i:Nat):Bool:=outS s i && (!sgnB s i && !blkB s i)
def begS (s:ByteArray) (i:Nat):Bool:=strS s i || ((markS s i && inS s i) || (wordS s i && !(decide (0<i) && wordS s (i-1))))
def kdS (s:ByteArray) (i:Nat):Nat:=if markS s i && inS s i then 3 else if markS s i then 4 else if inS s i then 5 else if sgnB s i then 1 else if blkB s i then 2 else 6
def idxTo (s:ByteArray) (n:Nat):List Nat:=(List.range n).filter (begS s)
theorem idxTo_t {s:ByteArray} {n:Nat} (h:begS s n=true):idxTo s (n+1)=idxTo s n++[n]:=by simp [idxTo,List.range_succ,h]
theorem idxTo_f {s:ByteArray} {n:Nat} (h:begS s n=false):idxTo s (n+1)=idxTo s n:=by simp [idxTo,List.range_succ,h]
def idxS (s:ByteArray):List Nat:=idxTo s s.size
/-! Two texts,one behind the other. -/
section
variable {s t:ByteArray} (hb:behindS s false=false) (ho:openS s=false)
include hb
end
end Go.Proofs.YtongedjlmohogaaGreatDoor

/- What marks.kindOf and marks.split answer. -/
namespace Go.Proofs.YtongedjlmohogaaGreatDoor
open Go.RowKit Go.Shelf
def kB (x:Nat):Nat:=if x == 123 || x == 125 || x == 91 || x == 93 || x == 58 || x == 44 then 1 else if x == 32 || x == 9 || x == 10 || x == 13 then 2 else 0
def tabM:List Nat:=(List.range 128).map kB
abbrev TabM (w:World):Prop:=TabAt 1 tabM w
theorem TabM.below {n₀:Nat} {w w':World} (h:TabM w) (hb:Below n₀ w w') (h0:1<n₀):TabM w':=fun j hj=>(hb.cell (p:=⟨1,j,none⟩) h0).trans (h j hj)
end Go.Proofs.YtongedjlmohogaaGreatDoor
/- What marks.sides answers. -/
namespace Go.Proofs.YtongedjlmohogaaGreatDoor
open Go.RowKit Go.Shelf
end Go.Proofs.YtongedjlmohogaaGreatDoor
/- What marks.parts answers. -/
namespace Go.Proofs.YtongedjlmohogaaGreatDoor
open Go.RowKit Go.Shelf
attribute [local go_sem] Oper.semAt_some
/-! The words of a part. -/
end Go.Proofs.YtongedjlmohogaaGreatDoor
/- What marks.parts answers. -/
namespace Go.Proofs.YtongedjlmohogaaGreatDoor
open Go.RowKit Go.Shelf
attribute [local go_sem] Oper.semAt_some
section
variable {w:World} {s:ByteArray} {K b B:Nat} {o1 o2:Option Addr}
end
end Go.Proofs.YtongedjlmohogaaGreatDoor
