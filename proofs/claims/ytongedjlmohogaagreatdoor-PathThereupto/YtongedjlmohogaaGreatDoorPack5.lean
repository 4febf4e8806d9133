/-
  Texts of mine that others lean on, one behind the other.
-/
import Derived.Test.YtongedjlmohogaaGreatDoorPack4
import Derived.Test.YtongedjlmohogaaGreatDoorPack3
import Derived.Deep.DeepCutAuto
import Derived.Deep.RegionHeld
import Derived.Test.YtongedjlmohogaaGreatDoorPack1
import Derived.Lib.TrimByte
import Derived.Below
import Derived.Lib.AppendStr
import Derived.Lib.BufferRead
import Derived.Laws.IdiomStrings
import Derived.WalkKit
namespace Go.Proofs.YtongedjlmohogaaGreatDoor
open Go.RowKit Go.Shelf
attribute [local go_sem] Oper.semAt_some
end Go.Proofs.YtongedjlmohogaaGreatDoor

/- LevMath,LvWalk,LvRows. -/
/-
  Of no program: how deep the places of a text lie;where a bracket is closed.
-/
namespace Go.Proofs.YtongedjlmohogaaGreatDoor
def opB (x:Nat):Bool:=x == 123 || x == 91
def clB (x:Nat):Bool:=x == 125 || x == 93
def brO (s:ByteArray) (i:Nat):Bool:=outS s i && opB (byteAt s i)
def brC (s:ByteArray) (i:Nat):Bool:=outS s i && clB (byteAt s i)
def stepD (o c:Bool) (d:Nat):Nat:=if o then d+1 else if c then d-1 else d
def depS (s:ByteArray):Nat→Nat
  | 0=>0
  | i+1=>stepD (brO s i) (brC s i) (depS s i)
theorem depS_succ (s:ByteArray) (i:Nat):depS s (i+1)=stepD (brO s i) (brC s i) (depS s i):=rfl
/-! At a place at which something begins the byte itself tells. -/
/-! The places at which something begins,one after another. -/
/-! The depth hangs on nothing behind the place. -/
/-! Where a bracket is closed. -/
def clsP (s:ByteArray) (a p:Nat):Bool:=decide (a<p) && (brC s p && decide (depS s p=depS s a+1))
def IsCls (s:ByteArray) (a:Int) (c:Int):Prop :=
  (∃ i:Nat,a=i∧brO s i=true∧((∃ p:Nat,c=p∧p<s.size∧clsP s i p=true∧∀ q,q<p→clsP s i q=false)∨(c = -1∧∀ q,q<s.size→clsP s i q=false)))∨(c = -1∧∀ i:Nat,a=i→brO s i=false)
theorem IsCls.uniq {s:ByteArray} {a c d:Int} (h:IsCls s a c) (h':IsCls s a d):c=d:=by
  rcases h with ⟨i,rfl,ho,h⟩ | ⟨rfl,h⟩ <;> rcases h' with ⟨j,e,ho',h'⟩ | ⟨rfl,h'⟩
  · have e':j=i:=by omega
    subst e'
    rcases h with ⟨p,rfl,h1,h2,hz⟩ | ⟨rfl,h1⟩ <;> rcases h' with ⟨q,rfl,h4,h5,hy⟩ | ⟨rfl,h4⟩
    · rcases Nat.lt_trichotomy p q with h | h | h
      · have:=hy p h;rw [h2] at this;cases this
      · rw [h]
      · have:=hz q h;rw [h5] at this;cases this
    · have:=h4 p h1;rw [h2] at this;cases this
    · have:=h1 q h4;rw [h5] at this;cases this
    · rfl
  · have:=h' i rfl;rw [ho] at this;cases this
  · have:=h j e;rw [ho'] at this;cases this
  · rfl
end Go.Proofs.YtongedjlmohogaaGreatDoor
/-
  What levels.walk does with a function that is handed to it.
-/
namespace Go.Proofs.YtongedjlmohogaaGreatDoor
open Go.RowKit Go.Shelf
end Go.Proofs.YtongedjlmohogaaGreatDoor
/-
  What levels.rows and levels.set do: rows of bits,one behind another.
-/
namespace Go.Proofs.YtongedjlmohogaaGreatDoor
open Go.RowKit Go.Shelf
def But (g:Nat) (w w':World):Prop:=Below 0 w w'∧∀ b,b<w.heap.size→b≠g→w'.heap[b]? = w.heap[b]?
theorem But.at {g:Nat} {w w':World} (h:But g w w') {b:Nat} {cs:Array Value} {t:TypeId} (ha:At w b cs t) (hb:b≠g):At w' b cs t:=(h.2 b ha.lt hb).trans ha
theorem But.cell {g:Nat} {w w':World} (h:But g w w') {p:Addr} (hp:p.block<w.heap.size) (hb:p.block≠g):w'.cell? p=w.cell? p:=by
  unfold World.cell?
  rw [h.2 _ hp hb]
theorem But.below {g n:Nat} {w w' w0:World} (h:But g w w') (h0:Below n w0 w) (hn:n≤w.heap.size) (hg:n≤g):Below n w0 w':=by
  refine ⟨h.1.os.trans h0.os,h.1.tape.trans h0.tape,h.1.output.trans h0.output,Nat.le_trans h0.size h.1.size,fun b hb=>?_⟩
  refine Eq.trans ?_ (h0.block b hb)
  by_cases hbw:b<w.heap.size
  · exact h.2 b hbw (by omega)
  · exact absurd (Nat.lt_of_lt_of_le hb hn) hbw
end Go.Proofs.YtongedjlmohogaaGreatDoor
/- LvBuild,LvBuild2. -/
/-
  What levels.Build answers.
-/
namespace Go.Proofs.YtongedjlmohogaaGreatDoor
open Go.RowKit Go.Shelf
/-! Rows of a list: kept,and one of them turned. -/
def putR (Y:Nat→Nat) (i j:Nat):Nat:=if j=i / 64 then Y (i / 64) ||| 2 ^ (i % 64) else Y j
section
variable {w w':World} {A m n g:Nat} {F:Nat→Nat→Nat}
end
def B1 (s:ByteArray) (m i d A B:Nat) (F G:Nat→Nat→Nat) (w w':World):Prop :=
  (∃ k, d = k + 1 ∧ k < m ∧ byteAt s i = 58 ∧ At w' (A + 1 + k) (rowCells (need s.size) (putR (F k) i)) 127 ∧ But (A + 1 + k) w w') ∨
       (∃ k,d=k+1∧k<m∧byteAt s i=44∧At w' (B+1+k) (rowCells (need s.size) (putR (G k) i)) 127∧But (B+1+k) w w') ∨
       (((d=0∨m<d)∨(byteAt s i≠58∧byteAt s i≠44))∧w'=w)
end Go.Proofs.YtongedjlmohogaaGreatDoor
/-
  What levels.Build answers,whole.
-/
namespace Go.Proofs.YtongedjlmohogaaGreatDoor
open Go.RowKit Go.Shelf
section
variable {w W w1:World} {s:ByteArray} {m bl A B hw:Nat}
end
end Go.Proofs.YtongedjlmohogaaGreatDoor
/- LvDepth,LvWithin. -/
/-
  What levels.Depth and levels.Close answer.
-/
namespace Go.Proofs.YtongedjlmohogaaGreatDoor
open Go.RowKit Go.Shelf
end Go.Proofs.YtongedjlmohogaaGreatDoor
/-
  What levels.upTo,levels.within,levels.Colons and levels.Commas answer.
-/
namespace Go.Proofs.YtongedjlmohogaaGreatDoor
open Go.RowKit Go.Shelf
def UpTo (N k:Nat) (t:Int) (N' k':Nat):Prop:=((N:Int)≤t∧N'=N∧k'=k)∨(t<(N:Int)∧k'=need t.toNat∧N'=min (64*k') N)
theorem UpTo.le {N k N' k':Nat} {t:Int} (h:UpTo N k t N' k') (hk:k=need N):N'≤N∧k'≤k:=by
  unfold need at hk
  rcases h with ⟨_,h1,h2⟩ | ⟨h0,h1,h2⟩
  · omega
  · unfold need at h1;omega
theorem UpTo.formed {N k N' k':Nat} {t:Int} {X:Nat→Nat} (h:UpTo N k t N' k') (hf:formed (N:Int) k X):formed (N':Int) k' X:=by
  obtain ⟨f1,f2,f3⟩:=hf
  rw [Int.toNat_natCast] at f2 f3
  rcases h with ⟨_,rfl,rfl⟩ | ⟨h0,h1,h2⟩
  · exact ⟨f1,by rw [Int.toNat_natCast];exact f2,by rw [Int.toNat_natCast];exact f3⟩
  · unfold need at f2 h1
    refine ⟨by omega,by rw [Int.toNat_natCast];unfold need;omega,fun i h3 h4=>?_⟩
    rw [Int.toNat_natCast] at h3
    exact f3 i (by omega) (by omega)
end Go.Proofs.YtongedjlmohogaaGreatDoor

/- The machine: what each byte does to texts,backslashes and brackets. -/
namespace Go.Proofs.YtongedjlmohogaaGreatDoor
def TabN (a c b n k:Nat):Prop :=
  (b=7 ↔ (c=92∧a≠7)) ∧
  ((b=6∨b=7∨b=8) ↔ (((a=6∨a=7∨a=8)∧¬ (c=34∧a≠7))∨(¬ (a=6∨a=7∨a=8)∧c=34))) ∧
  (¬ (a=6∨a=7∨a=8)→(c=91∨c=123)→k=n+1) ∧
  (¬ (a=6∨a=7∨a=8)→(c=93∨c=125)→k+1=n) ∧
  ((a=6∨a=7∨a=8)∨¬ (c=91∨c=123∨c=93∨c=125)→k=n)
def TabV (m:Mc) (c:Nat) (m':Mc):Prop:=TabN m.st c m'.st m.op.length m'.op.length
theorem dropLast_len {m:Mc} (h:topN m≠0):m.op.dropLast.length+1=m.op.length:=by
  have:=List.length_pos_iff.mpr (op_ne h)
  rw [List.length_dropLast];omega
theorem value_tab {m m':Mc} {c:Nat} (hs:m.st=0∨m.st=1) (h:valueM m c=some m'):TabV m c m':=by
  unfold valueM at h
  simp only [digN,decide_eq_true_eq] at h
  repeat' split at h
  all_goals first
    | (cases h;done)
    | (injection h with h;subst h
       unfold TabV;try simp only [List.length_append,List.length_singleton]
       unfold TabN;refine ⟨?_,?_,?_,?_,?_⟩ <;> omega)
theorem after_tab {m m':Mc} {c:Nat} (hs:m.st=5∨10≤m.st) (h:afterM m c=some m'):TabV m c m':=by
  unfold afterM at h
  simp only [blankN,decide_eq_true_eq] at h
  repeat' split at h
  all_goals first
    | (cases h;done)
    | (injection h with h;subst h
       unfold TabV;try simp only
       unfold TabN;refine ⟨?_,?_,?_,?_,?_⟩ <;> omega)
    | (rename_i h4
       have hz:topN m≠0:=by omega
       have:=dropLast_len hz
       injection h with h;subst h
       unfold TabV;try simp only
       unfold TabN;refine ⟨?_,?_,?_,?_,?_⟩ <;> omega)
theorem char_tab {m m':Mc} {c:Nat} (hs:m.st=6) (hb:0<m.lf→128≤m.lo) (h:charM m c=some m'):TabV m c m':=by
  unfold charM at h
  repeat' split at h
  all_goals first
    | (cases h;done)
    | (injection h with h;subst h
       unfold TabV;try simp only
       unfold TabN;refine ⟨?_,?_,?_,?_,?_⟩ <;> omega)
theorem esc_tab {m m':Mc} {c:Nat} (hs:m.st=7∨m.st=8) (h:escM m c=some m'):TabV m c m':=by
  unfold escM at h
  simp only [hexN,decide_eq_true_eq] at h
  by_cases e:m.st=8
  · rw [if_pos e] at h
    split at h
    · injection h with h;subst h
      unfold TabV;try simp only
      split <;> (unfold TabN;refine ⟨?_,?_,?_,?_,?_⟩ <;> omega)
    · cases h
  · rw [if_neg e] at h
    repeat' split at h
    all_goals first
      | (cases h;done)
      | (injection h with h;subst h
         unfold TabV;try simp only
         unfold TabN;refine ⟨?_,?_,?_,?_,?_⟩ <;> omega)
theorem num_tab {m m':Mc} {c:Nat} (hs:10≤m.st) (h:numM m c=some m'):TabV m c m':=by
  unfold numM at h
  simp only [digN,decide_eq_true_eq] at h
  repeat' split at h
  all_goals first
    | (cases h;done)
    | (exact after_tab (Or.inr hs) h)
    | (injection h with h;subst h
       unfold TabV;try simp only
       unfold TabN;refine ⟨?_,?_,?_,?_,?_⟩ <;> omega)
    | (injection h with h;subst h
       unfold TabV;try simp only
       unfold TabN;refine ⟨?_,?_,?_,?_,?_⟩ <;> omega)
theorem step_tab {m m':Mc} {c:Nat} (f:Fit m) (hb:m.st=6→0<m.lf→128≤m.lo) (h:stepM m c=some m'):TabV m c m':=by
  unfold stepM at h
  by_cases h1:10≤m.st
  · rw [if_pos h1] at h;exact num_tab h1 h
  rw [if_neg h1] at h
  by_cases h2:m.st=6
  · rw [if_pos h2] at h;exact char_tab h2 (hb h2) h
  rw [if_neg h2] at h
  by_cases h3:m.st=7∨m.st=8
  · rw [if_pos h3] at h;exact esc_tab h3 h
  rw [if_neg h3] at h
  by_cases h4:m.st=9
  · rw [if_pos h4] at h
    cases hw:m.wd with
    | nil=>rw [hw] at h;cases h
    | cons x r =>
      rw [hw] at h
      have hx:=f.wd x (by rw [hw];simp)
      simp only at h
      by_cases h5:x=c
      · rw [if_pos h5] at h
        injection h with h;subst h
        unfold TabV;try simp only
        split <;> (unfold TabN;refine ⟨?_,?_,?_,?_,?_⟩ <;> omega)
      · rw [if_neg h5] at h;cases h
  rw [if_neg h4] at h
  by_cases h5:blankN c=true
  · rw [if_pos h5] at h;injection h with h;subst h
    simp only [blankN,decide_eq_true_eq] at h5
    unfold TabV;try simp only
    unfold TabN;refine ⟨?_,?_,?_,?_,?_⟩ <;> omega
  rw [if_neg h5] at h
  by_cases h6:m.st=5
  · rw [if_pos h6] at h;exact after_tab (Or.inl h6) h
  rw [if_neg h6] at h
  by_cases h7:m.st=4
  · rw [if_pos h7] at h
    by_cases h8:c=58
    · rw [if_pos h8] at h;injection h with h;subst h
      unfold TabV;try simp only
      unfold TabN;refine ⟨?_,?_,?_,?_,?_⟩ <;> omega
    · rw [if_neg h8] at h;cases h
  rw [if_neg h7] at h
  by_cases h8:m.st=0
  · rw [if_pos h8] at h;exact value_tab (Or.inl h8) h
  rw [if_neg h8] at h
  by_cases h9:(m.st=1∧c=93)∨(m.st=2∧c=125)
  · rw [if_pos h9] at h;injection h with h;subst h
    have hz:topN m≠0:=by
      rcases h9 with h9 | h9
      · have:=f.s1 h9.1;omega
      · have:=f.s2 (Or.inl h9.1);omega
    have:=dropLast_len hz
    unfold TabV;try simp only
    unfold TabN;refine ⟨?_,?_,?_,?_,?_⟩ <;> omega
  rw [if_neg h9] at h
  by_cases h10:m.st=1
  · rw [if_pos h10] at h;exact value_tab (Or.inr h10) h
  rw [if_neg h10] at h
  by_cases h11:c=34
  · rw [if_pos h11] at h;injection h with h;subst h
    unfold TabV;try simp only
    unfold TabN;refine ⟨?_,?_,?_,?_,?_⟩ <;> omega
  · rw [if_neg h11] at h;cases h
def LoM (m:Mc):Prop:=m.st=6→0<m.lf→128≤m.lo
theorem lo0:LoM mc0:=by intro h;simp [mc0] at h
theorem lowB_le (c:Nat):128≤lowB c:=by
  unfold lowB
  repeat' split
  all_goals omega
theorem value_lf {m m':Mc} {c:Nat} (h:valueM m c=some m'):m'.lf=m.lf:=by
  unfold valueM at h
  repeat' split at h
  all_goals first
    | (cases h;done)
    | (injection h with h;subst h;rfl)
theorem after_lf {m m':Mc} {c:Nat} (h:afterM m c=some m'):m'.lf=m.lf:=by
  unfold afterM at h
  repeat' split at h
  all_goals first
    | (cases h;done)
    | (injection h with h;subst h;rfl)
theorem num_lf {m m':Mc} {c:Nat} (h:numM m c=some m'):m'.lf=m.lf:=by
  unfold numM at h
  repeat' split at h
  all_goals first
    | (cases h;done)
    | (exact after_lf h)
    | (injection h with h;subst h;rfl)
theorem step_lf {m m':Mc} {c:Nat} (h2:¬ m.st=6) (h3:¬ (m.st=7∨m.st=8)) (h:stepM m c=some m'):m'.lf=m.lf:=by
  unfold stepM at h
  by_cases h1:10≤m.st
  · rw [if_pos h1] at h;exact num_lf h
  rw [if_neg h1,if_neg h2,if_neg h3] at h
  by_cases h4:m.st=9
  · rw [if_pos h4] at h
    cases hw:m.wd with
    | nil=>rw [hw] at h;cases h
    | cons x r =>
      rw [hw] at h
      simp only at h
      by_cases h5:x=c
      · rw [if_pos h5] at h;injection h with h;subst h;rfl
      · rw [if_neg h5] at h;cases h
  rw [if_neg h4] at h
  by_cases h5:blankN c=true
  · rw [if_pos h5] at h;injection h with h;subst h;rfl
  rw [if_neg h5] at h
  by_cases h6:m.st=5
  · rw [if_pos h6] at h;exact after_lf h
  rw [if_neg h6] at h
  by_cases h7:m.st=4
  · rw [if_pos h7] at h
    by_cases h8:c=58
    · rw [if_pos h8] at h;injection h with h;subst h;rfl
    · rw [if_neg h8] at h;cases h
  rw [if_neg h7] at h
  by_cases h8:m.st=0
  · rw [if_pos h8] at h;exact value_lf h
  rw [if_neg h8] at h
  by_cases h9:(m.st=1∧c=93)∨(m.st=2∧c=125)
  · rw [if_pos h9] at h;injection h with h;subst h;rfl
  rw [if_neg h9] at h
  by_cases h10:m.st=1
  · rw [if_pos h10] at h;exact value_lf h
  rw [if_neg h10] at h
  by_cases h11:c=34
  · rw [if_pos h11] at h;injection h with h;subst h;rfl
  · rw [if_neg h11] at h;cases h
theorem step_lo {m m':Mc} {c:Nat} (f:Fit m) (g:Fit2 m) (h:stepM m c=some m'):LoM m':=by
  have f':=step_fit f h
  by_cases h2:m.st=6
  · unfold stepM at h
    rw [if_neg (by omega),if_pos h2] at h
    have:=lowB_le c
    unfold charM at h
    repeat' split at h
    all_goals first
      | (cases h;done)
      | (injection h with h;subst h
         intro _ _
         simp only
         omega)
  · -- a text begins,or goes on,with nothing that has to come
    intro h6 hl
    exfalso
    have h8:=g.l8
    by_cases h3:m.st=7∨m.st=8
    · unfold stepM at h
      rw [if_neg (by omega),if_neg h2,if_pos h3] at h
      have h7:m.st=7→m.lf=0:=fun h=>f.lf (by omega) (by omega)
      unfold escM at h
      by_cases e:m.st=8
      · rw [if_pos e] at h
        split at h
        · injection h with h;subst h
          simp only at h6 hl
          split at h6 <;> omega
        · cases h
      · rw [if_neg e] at h
        have:=h7 (by omega)
        repeat' split at h
        all_goals first
          | (cases h;done)
          | (injection h with h;subst h
             simp only at h6 hl
             omega)
    · have h0:m.lf=0:=f.lf (by omega) (by omega)
      have:m'.lf=m.lf:=step_lf h2 h3 h
      omega
end Go.Proofs.YtongedjlmohogaaGreatDoor
/- The machine and the text's own marks: where it is within a text,where a byte is escaped,how many brackets are open. -/
namespace Go.Proofs.YtongedjlmohogaaGreatDoor
theorem byt_byteAt (s:ByteArray) (i:Nat):byt s i=byteAt s i:=by
  unfold byt byteAt
  rw [List.getD_eq_getElem?_getD,Array.getElem?_toList]
theorem take_snoc (m:Mc) (l:List Nat) (x:Nat):takeM m (l++[x])=(takeM m l).bind (fun k=>stepM k x):=by
  rw [takeM_app]
  cases takeM m l with
  | none=>rfl
  | some k =>
    show takeM k [x]=stepM k x
    simp only [takeM]
    cases stepM k x <;> rfl
theorem take_one {m k : Mc} {l : List Nat} {i x : Nat} (h : takeM m (l.take (i + 1)) = some k) (hx : l[i]? = some x) :
    ∃ q,takeM m (l.take i)=some q∧stepM q x=some k:=by
  have hi:i<l.length:=(List.getElem?_eq_some_iff.mp hx).1
  have he:l[i]=x:=(List.getElem?_eq_some_iff.mp hx).2
  rw [List.take_succ_eq_append_getElem hi,he,take_snoc] at h
  cases hq:takeM m (l.take i) with
  | none=>rw [hq] at h;cases h
  | some q=>rw [hq] at h;exact ⟨q,rfl,h⟩
theorem take_lo {m m':Mc} {l:List Nat} (f:Fit m) (g:Fit2 m) (h0:LoM m) (h:takeM m l=some m'):LoM m':=by
  induction l generalizing m with
  | nil=>simp only [takeM] at h;injection h with h;subst h;exact h0
  | cons x l ih =>
    simp only [takeM] at h
    cases hs:stepM m x with
    | none=>rw [hs] at h;cases h
    | some k=>rw [hs] at h;exact ih (step_fit f hs) (step_fit2 g f hs) (step_lo f g hs) h
structure IsDep (s:ByteArray) (D:Nat→Nat):Prop where
  zero:D 0=0
  up:∀ i,i<s.size→outS s i=true→(byteAt s i=91∨byteAt s i=123)→D (i+1)=D i+1
  down:∀ i,i<s.size→outS s i=true→(byteAt s i=93∨byteAt s i=125)→D (i+1)=D i-1
  same:∀ i,i<s.size→(outS s i=false∨¬ (byteAt s i=91∨byteAt s i=123∨byteAt s i=93∨byteAt s i=125))→D (i+1)=D i
theorem take_marks {s : ByteArray} {D : Nat → Nat} (hD : IsDep s D) (i : Nat) (hi : i ≤ s.size) {m : Mc} (h : takeM mc0 ((byts s).take i) = some m) :
    escS s i=decide (m.st=7)∧oddG (markS s) i=decide (m.st=6∨m.st=7∨m.st=8)∧D i=m.op.length:=by
  induction i generalizing m with
  | zero =>
    simp only [List.take_zero,takeM] at h;injection h with h;subst h
    exact ⟨rfl,rfl,hD.zero⟩
  | succ i ih =>
    have hx:(byts s)[i]? = some (byteAt s i):=by rw [byts_get s i (by omega),byt_byteAt]
    obtain ⟨q,hq,hs⟩:=take_one h hx
    obtain ⟨i1,i2,i3⟩:=ih (by omega) hq
    have f:=take_fit fit0 hq
    have g:=take_fit2 fit20 fit0 hq
    obtain ⟨t1,t2,t3,t4,t5⟩:=step_tab f (take_lo fit0 fit20 lo0 hq) hs
    have e1:escS s (i+1)=decide (m.st=7):=by
      show (slash s i && !escS s i)=_
      rw [i1]
      show (decide (byteAt s i=92) && !decide (q.st=7))=_
      rw [Bool.eq_iff_iff]
      simp only [Bool.and_eq_true,Bool.not_eq_true',decide_eq_true_eq,decide_eq_false_iff_not]
      exact t1.symm
    have hm:markS s i=decide (byteAt s i=34∧q.st≠7):=by
      show (decide (byteAt s i=34) && !escS s i)=_
      rw [i1,Bool.eq_iff_iff]
      simp only [Bool.and_eq_true,Bool.not_eq_true',decide_eq_true_eq,decide_eq_false_iff_not,ne_eq]
    have e2:oddG (markS s) (i+1)=decide (m.st=6∨m.st=7∨m.st=8):=by
      rw [oddG_succ,i2,hm,Bool.eq_iff_iff,decide_eq_true_eq,t2]
      by_cases a:q.st=6∨q.st=7∨q.st=8
      · by_cases b:byteAt s i=34∧q.st≠7
        · rw [decide_eq_true a,decide_eq_true b];simp;omega
        · rw [decide_eq_true a,decide_eq_false b];simp only [Bool.xor_false,true_iff];exact Or.inl ⟨a,b⟩
      · by_cases b:byteAt s i=34∧q.st≠7
        · rw [decide_eq_false a,decide_eq_true b];simp only [Bool.false_xor,true_iff];exact Or.inr ⟨a,b.1⟩
        · rw [decide_eq_false a,decide_eq_false b];simp only [Bool.xor_false,Bool.false_eq_true,false_iff];omega
    refine ⟨e1,e2,?_⟩
    have ho:outS s i=decide (¬ (byteAt s i=34∧q.st≠7)∧¬ (m.st=6∨m.st=7∨m.st=8)):=by
      unfold outS inS
      rw [decide_eq_true (by omega:i<s.size),e2,hm,Bool.true_and,Bool.eq_iff_iff]
      simp only [Bool.and_eq_true,Bool.not_eq_true',decide_eq_true_eq,decide_eq_false_iff_not]
    by_cases a:q.st=6∨q.st=7∨q.st=8
    · have hb:=t5 (Or.inl a)
      rw [hb,← i3]
      apply hD.same i (by omega)
      by_cases b:byteAt s i=34
      · right;omega
      · left
        rw [ho,decide_eq_false_iff_not]
        have:m.st=6∨m.st=7∨m.st=8:=t2.mpr (Or.inl ⟨a,fun e=>b e.1⟩)
        exact fun e=>e.2 this
    · by_cases b1:byteAt s i=91∨byteAt s i=123
      · have hb:=t3 a b1
        have:¬ (m.st=6∨m.st=7∨m.st=8):=by rw [t2];omega
        rw [hD.up i (by omega) (by rw [ho,decide_eq_true_eq];exact ⟨by omega,this⟩) b1,i3,hb]
      · by_cases b2:byteAt s i=93∨byteAt s i=125
        · have hb:=t4 a b2
          have:¬ (m.st=6∨m.st=7∨m.st=8):=by rw [t2];omega
          rw [hD.down i (by omega) (by rw [ho,decide_eq_true_eq];exact ⟨by omega,this⟩) b2,i3];omega
        · rw [hD.same i (by omega) (Or.inr (by omega)),i3]
          exact (t5 (Or.inr (by omega))).symm
end Go.Proofs.YtongedjlmohogaaGreatDoor
/- As many brackets as are open at most: by the machine,and by the text's own marks. -/
namespace Go.Proofs.YtongedjlmohogaaGreatDoor
def maxD (D:Nat→Nat):Nat→Nat
  | 0=>D 0
  | n+1=>max (maxD D n) (D (n+1))
theorem maxD_ge (D:Nat→Nat) {i n:Nat} (h:i≤n):D i≤maxD D n:=by
  induction n with
  | zero=>rw [Nat.le_zero.mp h];exact Nat.le_refl _
  | succ n ih =>
    simp only [maxD]
    rcases Nat.lt_or_ge n i with h1 | h1
    · rw [show i=n+1 by omega];omega
    · have:=ih h1;omega
theorem maxD_le (D:Nat→Nat) {n k:Nat} (h:∀ i,i≤n→D i≤k):maxD D n≤k:=by
  induction n with
  | zero=>exact h 0 (Nat.le_refl _)
  | succ n ih =>
    simp only [maxD]
    have h1:=ih (fun i hi=>h i (by omega))
    have h2:=h (n+1) (Nat.le_refl _)
    omega
end Go.Proofs.YtongedjlmohogaaGreatDoor
/- What a verdict is,where a value begins and ends;each text has its verdict,each place of a document its answer. -/
namespace Go.Proofs.YtongedjlmohogaaGreatDoor
open Go.RowKit Go.Shelf
theorem after_lf4 {m k:Mc} {c:Nat} (h:afterM m c=some k):k.lf=m.lf∧k.op.length≤m.op.length+1:=by
  unfold afterM at h
  repeat' split at h
  all_goals first
    | (cases h;done)
    | (injection h with h;subst h;refine ⟨rfl,?_⟩;simp only [List.length_dropLast];omega)
    | (injection h with h;subst h;exact ⟨rfl,Nat.le_succ _⟩)
theorem value_lf4 {m k:Mc} {c:Nat} (h:valueM m c=some k):k.lf=m.lf∧k.op.length≤m.op.length+1:=by
  unfold valueM at h
  repeat' split at h
  all_goals first
    | (cases h;done)
    | (injection h with h;subst h;refine ⟨rfl,?_⟩;simp only [List.length_append,List.length_singleton];omega)
    | (injection h with h;subst h;exact ⟨rfl,Nat.le_succ _⟩)
theorem char_lf {m k:Mc} {c:Nat} (h:charM m c=some k) (hl:m.lf≤4):k.lf≤4:=by
  unfold charM at h
  repeat' split at h
  all_goals first
    | (cases h;done)
    | (injection h with h;subst h;simp only;omega)
theorem esc_lf {m k:Mc} {c:Nat} (h:escM m c=some k) (hl:m.lf≤4):k.lf≤4:=by
  unfold escM at h
  repeat' split at h
  all_goals first
    | (cases h;done)
    | (injection h with h;subst h;simp only;omega)
theorem num_lf4 {m k:Mc} {c:Nat} (h:numM m c=some k) (hl:m.lf≤4):k.lf≤4∧k.op.length≤m.op.length+1:=by
  unfold numM at h
  repeat' split at h
  all_goals first
    | (cases h;done)
    | (injection h with h;subst h;exact ⟨hl,Nat.le_succ _⟩)
    | (obtain ⟨h1,h2⟩:=after_lf4 h;exact ⟨by omega,h2⟩)
theorem step_lf4 {m k:Mc} {c:Nat} (h:stepM m c=some k) (hl:m.lf≤4):k.lf≤4∧k.op.length≤m.op.length+1:=by
  unfold stepM at h
  by_cases k1:10≤m.st
  · rw [if_pos k1] at h
    exact num_lf4 h hl
  rw [if_neg k1] at h
  by_cases k2:m.st=6
  · rw [if_pos k2] at h
    exact ⟨char_lf h hl,by rw [(char_keeps h).1];omega⟩
  rw [if_neg k2] at h
  by_cases k3:m.st=7∨m.st=8
  · rw [if_pos k3] at h
    exact ⟨esc_lf h hl,by rw [(esc_keeps h).1];omega⟩
  rw [if_neg k3] at h
  by_cases k4:m.st=9
  · rw [if_pos k4] at h
    split at h
    · cases h
    · split at h
      · injection h with h;subst h;exact ⟨hl,Nat.le_succ _⟩
      · cases h
  rw [if_neg k4] at h
  repeat' split at h
  all_goals first
    | (cases h;done)
    | (injection h with h;subst h;refine ⟨hl,?_⟩;simp only [List.length_dropLast];omega)
    | (injection h with h;subst h;exact ⟨hl,Nat.le_succ _⟩)
    | exact ⟨by rw [(value_lf4 h).1];exact hl,(value_lf4 h).2⟩
    | exact ⟨by rw [(after_lf4 h).1];exact hl,(after_lf4 h).2⟩
structure RunOk (n:Nat) (m:Mc):Prop where
  fit:Fit m
  fit2:Fit2 m
  lf:m.lf≤4
  op:m.op.length≤n
theorem RunOk.step {n:Nat} {m k:Mc} {c:Nat} (h:RunOk n m) (hs:stepM m c=some k):RunOk (n+1) k :=
  ⟨step_fit h.fit hs,step_fit2 h.fit2 h.fit hs,(step_lf4 hs h.lf).1,by have:=(step_lf4 hs h.lf).2;have:=h.op;omega⟩
theorem runOk0:RunOk 0 mc0:=⟨fit0,fit20,by decide,by decide⟩
theorem take_ok:∀ (l:List Nat) (n:Nat) (m k:Mc),RunOk n m→takeM m l=some k→RunOk (n+l.length) k:=by
  intro l
  induction l with
  | nil=>intro n m k h e;cases e;exact h
  | cons x l ih =>
    intro n m k h e
    cases hs:stepM m x with
    | none=>simp [takeM,hs] at e
    | some m1 =>
      rw [takeM_cons hs] at e
      have:=ih (n+1) m1 k (h.step hs) e
      rw [List.length_cons]
      rw [show n+(l.length+1)=n+1+l.length by omega]
      exact this
theorem run_at:∀ (l:List Nat) (i:Nat) (m0 m:Mc) (x:Nat),takeM m0 (l.take i)=some m→l[i]? = some x→stepM m x=none→runM m0 l=(i,m):=by
  intro l
  induction l with
  | nil=>intro i m0 m x _ h;simp at h
  | cons y l ih =>
    intro i m0 m x ht hx hs
    cases i with
    | zero =>
      simp at hx
      subst hx
      cases ht
      simp [runM,hs]
    | succ i =>
      rw [List.take_succ_cons] at ht
      cases hy:stepM m0 y with
      | none=>simp [takeM,hy] at ht
      | some m1 =>
        rw [takeM_cons hy] at ht
        have:=ih i m1 m x ht (by simpa using hx) hs
        simp [runM,hy,this]
theorem run_all (l:List Nat) (m0 m:Mc) (h:takeM m0 l=some m):runM m0 l=(l.length,m):=by
  obtain ⟨h1,h2,-⟩:=run_take m0 l
  exact Prod.ext (h1.2 (by rw [h];rfl)) (h2 m h)
theorem take_next {l:List Nat} {i x:Nat} {m0 m k:Mc} (h:takeM m0 (l.take i)=some m) (hx:l[i]? = some x) (hs:stepM m x=some k):takeM m0 (l.take (i+1))=some k:=by
  rw [List.take_add_one,hx,takeM_app,h]
  show takeM m [x]=some k
  rw [takeM_cons hs]
  rfl
theorem run_ok (l:List Nat):RunOk l.length (runM mc0 l).2∧(runM mc0 l).1≤l.length:=by
  have h:=take_ok _ 0 mc0 _ runOk0 (run_parts mc0 l)
  have h2:=(run_take mc0 l).2.2
  refine ⟨⟨h.fit,h.fit2,h.lf,?_⟩,h2⟩
  have:=h.op
  rw [List.length_take] at this
  omega
def IsChk (s:ByteArray) (d:Int) (C A:Nat) (E:Int):Prop :=
  ((d<1∨1024<d)∧C=0∧A=0∧E=2) ∨
  ((1≤d∧d≤1024)∧E=0∧∃ k m,runM mc0 (byts s)=(k,m) ∧
    (((k<s.size∨wholeM m=false)∧C=2∧A=k) ∨
     (k=s.size∧wholeM m=true∧((∃ i,i<s.size∧d<((depS s (i+1):Nat):Int)∧(∀ j,j<i→((depS s (j+1):Nat):Int)≤d)∧C=3∧A=i)∨((∀ j,j<s.size→((depS s (j+1):Nat):Int)≤d)∧C=1∧A=s.size)))))
theorem sizeVer:(Tryz.prog.info? 137).map (·.size)=some 2:=by kernel_rfl
theorem ret_ver {fn : Func} {p u : Tmp} {R : Ending → World → Prop} {a : Act} {w : World} {b : Nat} {x y : Value} (hres : fn.results = #[.cell p 137, .tmp u]) (hp : a.tmps.getD p undef = .pointer (some ⟨b, 0, none⟩))
    (h:At w b #[x,y] 137) (hd:a.defers=[]) (hR:R (.returned (.tuple #[.agg #[x,y],a.tmps.getD u undef])) w):bodyPost Tryz.prog fn R .ret a w:=by
  refine bodyPost_ret (v:=.tuple #[.agg #[x,y],a.tmps.getD u undef]) ?_ hd hR
  have hl:(loadVar 137 ⟨b,0,none⟩).run Tryz.prog w = .ok (.agg #[x,y]) w:=run_loadVar_row (P:=Tryz.prog) w b 137 137 #[x,y] (0,0) _ h Tryz.underlying137 rfl sizeVer
  rw [results_cell_tmp hres,hp]
  simp [asAddr,hl]
theorem At.two_ver {w:World} {b:Nat} {x y x' y':Value} (h:At w b #[x,y] 137):At ((w.setCell ⟨b,0,none⟩ x').setCell ⟨b,1,none⟩ y') b #[x',y'] 137:=by
  have:=(h.set 0 x').set 1 y'
  simpa using this
def ChkP (s:ByteArray) (d:Int) (w:World) (e:Ending) (w':World):Prop:=∃ (C A:Nat) (E:Int),e = .returned (.tuple #[.agg #[.int .i64 (C:Int),.int .i64 (A:Int)],.int .i64 E])∧IsChk s d C A E∧Below w.heap.size w w'
theorem dep_le (s:ByteArray) (i:Nat):depS s i≤i:=by
  induction i with
  | zero=>exact Nat.le_refl _
  | succ i ih =>
    rw [depS_succ]
    unfold stepD
    repeat' split
    all_goals omega
theorem IsChk.uniq {s:ByteArray} {d:Int} {C C' A A':Nat} {E E':Int} (h:IsChk s d C A E) (h':IsChk s d C' A' E'):C=C'∧A=A'∧E=E':=by
  rcases h with ⟨h1,h2,h3,h4⟩ | ⟨h1,h2,k,m,h3,h4⟩ <;> rcases h' with ⟨g1,g2,g3,g4⟩ | ⟨g1,g2,k',m',g3,g4⟩
  · exact ⟨by omega,by omega,by omega⟩
  · exfalso
    obtain ⟨p,q⟩:=g1
    clear g4 g3
    omega
  · exfalso
    obtain ⟨p,q⟩:=h1
    clear h4 h3
    omega
  · rw [h3] at g3
    injection g3 with e1 e2
    subst e1 e2
    refine ⟨?_,?_,by omega⟩ <;>
      (rcases h4 with ⟨a1,a2,a3⟩ | ⟨a1,a2,a3⟩ <;> rcases g4 with ⟨b1,b2,b3⟩ | ⟨b1,b2,b3⟩
       · omega
       · rcases a1 with a1 | a1
         · omega
         · rw [a1] at b2;cases b2
       · rcases b1 with b1 | b1
         · omega
         · rw [b1] at a2;cases a2
       · rcases a3 with ⟨i,c1,c2,c3,c4,c5⟩ | ⟨c1,c2,c3⟩ <;> rcases b3 with ⟨j,d1,d2,d3,d4,d5⟩ | ⟨d1,d2,d3⟩
         · rcases Nat.lt_trichotomy i j with e | e | e
           · have:=d3 i e;omega
           · omega
           · have:=c3 j e;omega
         · have:=d1 i c1;omega
         · have:=c1 j d1;omega
         · omega)
def stopB (x:Nat):Bool:=blankN x || (x == 44 || (x == 93 || x == 125))
def IsSkip (s:ByteArray) (j k:Nat):Prop:=j≤k∧k≤s.size∧(∀ q,j≤q→q<k→blankN (byteAt s q)=true)∧(k=s.size∨blankN (byteAt s k)=false)
theorem skip_ex (s:ByteArray):∀ (n j:Nat),s.size-j≤n→j≤s.size→∃ e,IsSkip s j e:=by
  intro n
  induction n with
  | zero=>intro j h1 h2;exact ⟨j,Nat.le_refl _,h2,fun q _ _=>by omega,.inl (by omega)⟩
  | succ n ih =>
    intro j h1 h2
    by_cases hj:j=s.size
    · exact ⟨j,Nat.le_refl _,h2,fun q _ _=>by omega,.inl hj⟩
    · cases hs:blankN (byteAt s j) with
      | false=>exact ⟨j,Nat.le_refl _,h2,fun q _ _=>by omega,.inr hs⟩
      | true =>
        obtain ⟨e,g1,g2,g3,g4⟩:=ih (j+1) (by omega) (by omega)
        exact ⟨e,by omega,g2,fun q q1 q2=>by
          by_cases e:q=j
          · subst e;exact hs
          · exact g3 q (by omega) q2,g4⟩
theorem isDep (s:ByteArray):IsDep s (depS s):=by
  have hop:∀ x,x=91∨x=123→opB x=true∧clB x=false:=by rintro x (rfl | rfl) <;> decide
  have hcl:∀ x,x=93∨x=125→opB x=false∧clB x=true:=by rintro x (rfl | rfl) <;> decide
  refine ⟨rfl,fun i _ ho hb=>?_,fun i _ ho hb=>?_,fun i _ h=>?_⟩
  · rw [depS_succ]
    unfold brO brC stepD
    rw [ho,(hop _ hb).1]
    rfl
  · rw [depS_succ]
    unfold brO brC stepD
    rw [ho,(hcl _ hb).1,(hcl _ hb).2]
    rfl
  · rw [depS_succ]
    unfold brO brC stepD
    rcases h with h | h
    · rw [h];rfl
    · have h1:opB (byteAt s i)=false:=by unfold opB;simp;omega
      have h2:clB (byteAt s i)=false:=by unfold clB;simp;omega
      rw [h1,h2]
      simp
theorem least_ex {P:Nat→Prop}:∀ n:Nat,(∃ i,i<n∧P i∧∀ j,j<i→¬ P j)∨∀ j,j<n→¬ P j:=by
  intro n
  induction n with
  | zero=>exact .inr (fun j hj=>by omega)
  | succ n ih =>
    rcases ih with ⟨i,h1,h2,h3⟩ | h
    · exact .inl ⟨i,by omega,h2,h3⟩
    · by_cases hn:P n
      · exact .inl ⟨n,by omega,hn,h⟩
      · exact .inr (fun j hj => by
          by_cases e:j=n
          · subst e;exact hn
          · exact h j (by omega))
theorem chk_ex (s:ByteArray) (d:Int):∃ C A E,IsChk s d C A E:=by
  by_cases hd:d<1∨1024<d
  · exact ⟨0,0,2,.inl ⟨hd,rfl,rfl,rfl⟩⟩
  · obtain ⟨k,m,hkm⟩:∃ k m,runM mc0 (byts s)=(k,m):=⟨_,_,rfl⟩
    have hk:k≤s.size:=by have:=(run_ok (byts s)).2;rw [hkm,byts_length] at this;exact this
    have hd':1≤d∧d≤1024:=by omega
    by_cases h1:k<s.size∨wholeM m=false
    · exact ⟨2,k,0,.inr ⟨hd',rfl,k,m,hkm,.inl ⟨h1,rfl,rfl⟩⟩⟩
    · have hw : wholeM m = true := by cases h : wholeM m with
        | true=>rfl
        | false=>exact absurd (.inr h) h1
      have hks:k=s.size:=by
        by_cases h:k<s.size
        · exact absurd (.inl h) h1
        · omega
      rcases least_ex (P:=fun i=>d<((depS s (i+1):Nat):Int)) s.size with ⟨i,g1,g2,g3⟩ | g
      · exact ⟨3,i,0,.inr ⟨hd',rfl,k,m,hkm,.inr ⟨hks,hw,.inl ⟨i,g1,g2,fun j hj=>by have:=g3 j hj;omega,rfl,rfl⟩⟩⟩⟩
      · exact ⟨1,s.size,0,.inr ⟨hd',rfl,k,m,hkm,.inr ⟨hks,hw,.inr ⟨fun j hj=>by have:=g j hj;omega,rfl,rfl⟩⟩⟩⟩
theorem chk_doc {s:ByteArray} {d:Int} {C A:Nat} {E:Int} (h:IsChk s d C A E) (hc:C=1∨C=3):docM (byts s):=by
  rcases h with ⟨_,h2,_⟩ | ⟨_,_,k,m,h3,h4⟩
  · omega
  · rcases h4 with ⟨_,h,_⟩ | ⟨h5,h6,_⟩
    · omega
    · refine ⟨m,?_,h6⟩
      have:=run_parts mc0 (byts s)
      rw [h3] at this
      have e:(byts s).take k=byts s:=by rw [h5,← byts_length,List.take_length]
      rw [← e]
      exact this
end Go.Proofs.YtongedjlmohogaaGreatDoor

/- The machine within brackets and the machine alone,step for step,both ways. -/
namespace Go.Proofs.YtongedjlmohogaaGreatDoor
end Go.Proofs.YtongedjlmohogaaGreatDoor
/- A value within a document,taken by the machine alone. -/
namespace Go.Proofs.YtongedjlmohogaaGreatDoor
end Go.Proofs.YtongedjlmohogaaGreatDoor
/- The text of each value of a document is a document by itself;what begins in a document is a value,a sign or a name. -/
namespace Go.Proofs.YtongedjlmohogaaGreatDoor
open Go.RowKit Go.Shelf
theorem mark_quote {s:ByteArray} {a:Nat} (h:markS s a=true):byteAt s a=34:=by
 unfold markS at h
 rw [Bool.and_eq_true] at h
 have h1:=h.1
 unfold quoB at h1
 exact of_decide_eq_true h1
theorem mark_not {s:ByteArray} {a:Nat} (h:byteAt s a≠34):markS s a=false:=by
 cases hm:markS s a with
 | false=>rfl
 | true=>exact absurd (mark_quote hm) h
theorem sgn_iff (s:ByteArray) (i:Nat):sgnB s i=true ↔ (byteAt s i=123∨byteAt s i=125∨byteAt s i=91∨byteAt s i=93∨byteAt s i=58∨byteAt s i=44):=by
 unfold sgnB
 simp only [Bool.or_eq_true,beq_iff_eq]
 omega
end Go.Proofs.YtongedjlmohogaaGreatDoor
/- The text of each value of a document is a document by itself. -/
namespace Go.Proofs.YtongedjlmohogaaGreatDoor
open Go.RowKit Go.Shelf
end Go.Proofs.YtongedjlmohogaaGreatDoor

namespace Go.Proofs.YtongedjlmohogaaGreatDoor
open Go.RowKit
def lk (s:ByteArray) (i:Nat):Nat:=if h:i<s.size then (s[i]'h).toNat else 0
theorem lk_at (s:ByteArray) (i:Nat) (h:i<s.size):lk s i=(s[i]'h).toNat:=dif_pos h
theorem lk_out (s:ByteArray) (i:Nat) (h:s.size≤i):lk s i=0:=dif_neg (by omega)
theorem lk_in {s:ByteArray} {i:Nat} (h:0<lk s i):i<s.size:=by
 rcases Nat.lt_or_ge i s.size with h1 | h1
 ·exact h1
 ·rw [lk_out s i h1] at h;omega
def dgB (x:Nat):Bool:=decide (48≤x∧x≤57)
theorem dgB_iff (x:Nat):dgB x=true ↔ 48≤x∧x≤57:=by simp [dgB]
def rnF (s:ByteArray):Nat→Nat→Nat
 | 0,a=>a
 | n+1,a=>if dgB (lk s a) then rnF s n (a+1) else a
def rn (s:ByteArray) (a:Nat):Nat:=rnF s (s.size-a) a
theorem rnF_ge (s:ByteArray):∀ n a,a≤rnF s n a
 | 0,a=>Nat.le_refl a
 | n+1,a=>by
  unfold rnF
  split
  ·have:=rnF_ge s n (a+1);omega
  ·exact Nat.le_refl a
theorem rnF_le (s:ByteArray):∀ n a,rnF s n a≤a+n
 | 0,a=>Nat.le_refl a
 | n+1,a=>by
  unfold rnF
  split
  ·have:=rnF_le s n (a+1);omega
  ·omega
theorem rnF_dig (s:ByteArray):∀ n a i,a≤i→i<rnF s n a→dgB (lk s i)=true
 | 0,a,i,h1,h2=>by unfold rnF at h2;omega
 | n+1,a,i,h1,h2=>by
  unfold rnF at h2
  split at h2
  ·rename_i h
   rcases Nat.eq_or_lt_of_le h1 with rfl | h3
   ·exact h
   ·exact rnF_dig s n (a+1) i h3 h2
  ·omega
theorem rnF_end (s:ByteArray):∀ n a,s.size≤a+n→dgB (lk s (rnF s n a))=false
 | 0,a,h=>by
  unfold rnF
  rw [lk_out s a (by omega)]
  rfl
 | n+1,a,h=>by
  unfold rnF
  split
  ·exact rnF_end s n (a+1) (by omega)
  ·rename_i h1
   simpa using h1
theorem rn_ge (s:ByteArray) (a:Nat):a≤rn s a:=rnF_ge s _ a
theorem rn_le (s:ByteArray) (a:Nat) (h:a≤s.size):rn s a≤s.size:=by have:=rnF_le s (s.size-a) a;unfold rn;omega
theorem rn_dig (s:ByteArray) (a i:Nat) (h1:a≤i) (h2:i<rn s a):dgB (lk s i)=true:=rnF_dig s _ a i h1 h2
theorem rn_end (s:ByteArray) (a:Nat):dgB (lk s (rn s a))=false:=rnF_end s _ a (by omega)
theorem rn_uniq (s:ByteArray) (a e:Nat) (h:a≤e) (hd:∀ i,a≤i→i<e→dgB (lk s i)=true) (he:dgB (lk s e)=false):rn s a=e:=by
 have h1:=rn_ge s a
 rcases Nat.lt_trichotomy (rn s a) e with h2 | h2 | h2
 ·have h3:=hd _ h1 h2
  rw [rn_end] at h3
  cases h3
 ·exact h2
 ·have h3:=rn_dig s a e h h2
  rw [he] at h3
  cases h3
theorem rn_lt (s:ByteArray) (a:Nat) (h:dgB (lk s a)=true):a<rn s a:=by
 rcases Nat.eq_or_lt_of_le (rn_ge s a) with h1 | h1
 ·have:=rn_end s a
  rw [← h1,h] at this
  cases this
 ·exact h1
structure Num where
 neg:Bool
 wh:ByteArray
 be:ByteArray
 dn:Bool
 pw:ByteArray
def scA (s:ByteArray) (p:Nat):Nat:=if lk s p=45 then p+1 else p
def scB (s:ByteArray) (p:Nat):Nat:=if lk s (scA s p)=48 then scA s p+1 else rn s (scA s p)
def scC (s:ByteArray) (p:Nat):Nat:=if lk s (scB s p)=46 then rn s (scB s p+1) else scB s p
def scF (s:ByteArray) (p:Nat):Nat:=if lk s (scC s p+1)=43∨lk s (scC s p+1)=45 then scC s p+2 else scC s p+1
def scX (s:ByteArray) (p:Nat):Bool:=decide (lk s (scC s p)=101∨lk s (scC s p)=69)
def scH (s:ByteArray) (p:Nat):Nat:=if scX s p then rn s (scF s p) else scC s p
def scNeg (s:ByteArray) (p:Nat):Bool:=decide (lk s p=45)
def scDn (s:ByteArray) (p:Nat):Bool:=scX s p && decide (lk s (scC s p+1)=45)
def scBe (s:ByteArray) (p:Nat):ByteArray:=if lk s (scB s p)=46 then s.extract (scB s p+1) (scC s p) else ⟨#[]⟩
def scPw (s:ByteArray) (p:Nat):ByteArray:=if scX s p then s.extract (scF s p) (scH s p) else ⟨#[]⟩
def scanS (s:ByteArray) (p:Nat):Option Num × Nat :=
 if dgB (lk s (scA s p))=false then (none,scA s p)
 else if lk s (scB s p)=46∧dgB (lk s (scB s p+1))=false then (none,scB s p+1)
 else if scX s p=true∧dgB (lk s (scF s p))=false then (none,scF s p)
 else (some ⟨scNeg s p,s.extract (scA s p) (scB s p),scBe s p,scDn s p,scPw s p⟩,scH s p)
def pwN (l:List UInt8):Nat:=l.foldl (fun n b=>10*n+(b.toNat-48)) 0
structure Dec where
 neg:Bool
 ds:List UInt8
 ex:Int
def allS (n:Num):List UInt8:=Lib.trimLeftB (n.wh.data.toList++n.be.data.toList) 48
def digS (n:Num):List UInt8:=Lib.trimRightB (allS n) 48
def powS (n:Num):Int:=if n.dn then -(pwN n.pw.data.toList:Int) else pwN n.pw.data.toList
def expS (n:Num):Int:=powS n-(n.be.size:Int)+(((allS n).length-(digS n).length:Nat):Int)
def inB (x:Int):Bool:=decide (-1073741824≤x∧x≤1073741824)
def worthS (n:Num):Option Dec :=
 if allS n=[] then some ⟨n.neg,[],0⟩
 else if inB (expS n) then some ⟨n.neg,digS n,expS n⟩ else none
def zeroD:Dec:=⟨false,[],0⟩
def readS (s:ByteArray) (p:Nat):Dec × Nat × Nat :=
 match (scanS s p).1 with
 | none=>(zeroD,(scanS s p).2,110)
 | some n=>match worthS n with
  | none=>(zeroD,(scanS s p).2,111)
  | some d=>(d,(scanS s p).2,0)
def ofS (s:ByteArray):Dec × Nat:=if (readS s 0).2.1=s.size then ((readS s 0).1,(readS s 0).2.2) else (zeroD,110)
def decV (d:Dec):Value:=.agg #[.bool d.neg,.string ⟨d.ds.toArray⟩,.int .i64 d.ex]
theorem trimL_length (l:List UInt8) (c:UInt8):(Lib.trimLeftB l c).length≤l.length:=by
 unfold Lib.trimLeftB
 exact (List.dropWhile_sublist _).length_le
theorem trimR_length (l:List UInt8) (c:UInt8):(Lib.trimRightB l c).length≤l.length:=by
 unfold Lib.trimRightB
 rw [List.length_reverse]
 have:=(List.dropWhile_sublist (fun x=>x == c) (l:=l.reverse)).length_le
 rwa [List.length_reverse] at this
theorem trimL_twice (a b:List UInt8) (c:UInt8):Lib.trimLeftB (Lib.trimLeftB a c++b) c=Lib.trimLeftB (a++b) c:=by
 unfold Lib.trimLeftB
 induction a with
 | nil=>rfl
 | cons x r ih =>
  by_cases h:(x == c)=true
  ·simp only [List.dropWhile_cons,h,if_true,List.cons_append]
   exact ih
  ·simp only [List.dropWhile_cons,h,List.cons_append]
   simp [h]
end Go.Proofs.YtongedjlmohogaaGreatDoor

/- Which bytes may follow which,in numbers: the state behind some bytes,what a text tells,and the forms of characters. -/
namespace Go.Proofs.YtongedjlmohogaaGreatDoor
structure Q5 where
 left:Nat
 lo:Nat
 hi:Nat
structure St5 where
 good:Nat
 wrong:Bool
 q:Q5
def secLo (x:Nat):Nat:=if x=224 then 160 else if x=240 then 144 else 128
def secHi (x:Nat):Nat:=if x=237 then 159 else if x=244 then 143 else 191
def begQ (q:Q5) (x:Nat):Option Q5 :=
 if 244<x then none else if 240≤x then some ⟨3,secLo x,secHi x⟩ else if 224≤x then some ⟨2,secLo x,secHi x⟩ else if 194≤x then some ⟨1,secLo x,secHi x⟩ else if 128≤x then none else some q
def stp (q:Q5) (x:Nat):Option Q5:=if q.left=0 then begQ q x else if x<q.lo∨q.hi<x then none else some ⟨q.left-1,128,191⟩
def tk (s:St5) (x:Nat):St5:=if s.wrong then s else match stp s.q x with
 | some q=>⟨s.good+1,false,q⟩
 | none=>⟨s.good,true,s.q⟩
def s5:St5:=⟨0,false,⟨0,0,0⟩⟩
def runS (s:St5) (l:List Nat):St5:=l.foldl tk s
def badI (s:St5):Int:=if s.wrong=true∨0<s.q.left then (s.good:Int) else -1
def badOf (z:ByteArray):Int:=badI (runS s5 (byts z))
theorem runS_nil (s:St5):runS s []=s:=rfl
theorem runS_cons (s:St5) (x:Nat) (l:List Nat):runS s (x :: l)=runS (tk s x) l:=rfl
theorem runS_append (s:St5) (a b:List Nat):runS s (a++b)=runS (runS s a) b:=List.foldl_append ..
theorem runS_snoc (s:St5) (a:List Nat) (x:Nat):runS s (a++[x])=tk (runS s a) x:=by rw [runS_append];rfl
theorem tk_wrong {s:St5} (h:s.wrong=true) (x:Nat):tk s x=s:=by simp [tk,h]
theorem runS_wrong {s:St5} (h:s.wrong=true) (l:List Nat):runS s l=s:=by
 induction l with
 | nil=>rfl
 | cons x l ih=>rw [runS_cons,tk_wrong h,ih]
theorem tk_some {s:St5} (h:s.wrong=false) {x:Nat} {q:Q5} (hq:stp s.q x=some q):tk s x=⟨s.good+1,false,q⟩:=by simp [tk,h,hq]
theorem tk_none {s:St5} (h:s.wrong=false) {x:Nat} (hq:stp s.q x=none):tk s x=⟨s.good,true,s.q⟩:=by simp [tk,h,hq]
def FormAt (b:List Nat) (q:Q5) (r:Nat):Prop :=
 match b with
 | []=>q.left=0
 | [x]=>(194≤x∧x≤223∧q=⟨1,secLo x,secHi x⟩∧r=x-192)∨(224≤x∧x≤239∧q=⟨2,secLo x,secHi x⟩∧r=x-224)∨(240≤x∧x≤244∧q=⟨3,secLo x,secHi x⟩∧r=x-240)
 | [x,y]=>secLo x≤y∧y≤secHi x∧((224≤x∧x≤239∧q=⟨1,128,191⟩∧r=(x-224)*64+(y-128))∨(240≤x∧x≤244∧q=⟨2,128,191⟩∧r=(x-240)*64+(y-128)))
 | [x,y,z]=>secLo x≤y∧y≤secHi x∧128≤z∧z≤191∧240≤x∧x≤244∧q=⟨1,128,191⟩∧r=((x-240)*64+(y-128))*64+(z-128)
 | _=>False
def nextR (b:List Nat) (r x left:Nat):Nat:=if b=[] then x &&& (127 >>> left) else r*64+x % 64
def sizeN (c:Nat):Nat:=if (55296≤c∧c≤57343)∨1114111<c then 0 else if c<128 then 1 else if c<2048 then 2 else if c<65536 then 3 else 4
def formL (c:Nat):List Nat :=
 if sizeN c=1 then [c] else if sizeN c=2 then [192+c / 64,128+c % 64] else if sizeN c=3 then [224+c / 4096,128+c / 64 % 64,128+c % 64] else if sizeN c=4 then [240+c / 262144,128+c / 4096 % 64,128+c / 64 % 64,128+c % 64] else []
set_option maxRecDepth 100000 in
theorem mask_first {x:Nat} (hx:x<256):(x<128→x &&& (127 >>> 0)=x)∧(194≤x→x≤223→x &&& (127 >>> 1)=x-192)∧(224≤x→x≤239→x &&& (127 >>> 2)=x-224)∧(240≤x→x≤244→x &&& (127 >>> 3)=x-240):=by
 revert x;decide
theorem secLo_ge (x:Nat):128≤secLo x:=by unfold secLo;split <;> (try split) <;> omega
theorem sec_facts (x:Nat):(x=224→secLo x=160)∧(x=240→secLo x=144)∧(x=237→secHi x=159)∧(x=244→secHi x=143):=by
 refine ⟨?_,?_,?_,?_⟩ <;> rintro rfl <;> rfl
theorem secHi_le (x:Nat):secHi x≤191:=by unfold secHi;split <;> (try split) <;> omega
set_option maxRecDepth 10000 in
theorem form_step {b:List Nat} {q q':Q5} {r x:Nat} (h:FormAt b q r) (hx:x<256) (hs:stp q x=some q') :
  (q'.left=0∧b++[x]=formL (nextR b r x q'.left)∧sizeN (nextR b r x q'.left)=b.length+1)∨(0<q'.left∧FormAt (b++[x]) q' (nextR b r x q'.left)):=by
 obtain ⟨m0,m1,m2,m3⟩:=mask_first hx
 match b,h with
 | [],h =>
  have h:q.left=0:=h
  simp only [stp,h,if_true,begQ] at hs
  simp only [nextR,if_true,List.nil_append]
  split at hs
  ·cases hs
  ·split at hs
   ·cases hs
    right;refine ⟨by simp,.inr (.inr ⟨by omega,by omega,rfl,?_⟩)⟩
    exact m3 (by omega) (by omega)
   ·split at hs
    ·cases hs
     right;refine ⟨by simp,.inr (.inl ⟨by omega,by omega,rfl,?_⟩)⟩
     exact m2 (by omega) (by omega)
    ·split at hs
     ·cases hs
      right;refine ⟨by simp,.inl ⟨by omega,by omega,rfl,?_⟩⟩
      exact m1 (by omega) (by omega)
     ·split at hs
      ·cases hs
      ·cases hs
       left
       rw [h,m0 (by omega)]
       have e:sizeN x=1:=by unfold sizeN;rw [if_neg (by omega),if_pos (by omega)]
       exact ⟨rfl,by unfold formL;rw [if_pos e],e⟩
 | [y],h =>
  have hl:=secLo_ge y
  have hh:=secHi_le y
  rcases h with ⟨h1,h2,rfl,rfl⟩ | ⟨h1,h2,rfl,rfl⟩ | ⟨h1,h2,rfl,rfl⟩
  ·simp only [stp] at hs
   rw [if_neg (by decide)] at hs
   split at hs
   ·cases hs
   ·cases hs
    left
    simp only [nextR]
    rw [if_neg (by simp)]
    have e:sizeN ((y-192)*64+x % 64)=2:=by unfold sizeN;rw [if_neg (by omega),if_neg (by omega),if_pos (by omega)]
    refine ⟨by simp,?_,e⟩
    unfold formL
    rw [if_neg (by omega),if_pos e]
    simp
    omega
  ·simp only [stp] at hs
   rw [if_neg (by decide)] at hs
   split at hs
   ·cases hs
   ·cases hs
    right
    simp only [nextR]
    rw [if_neg (by simp)]
    refine ⟨by simp,?_⟩
    show secLo y≤x∧_
    exact ⟨by omega,by omega,.inl ⟨h1,h2,rfl,by omega⟩⟩
  ·simp only [stp] at hs
   rw [if_neg (by decide)] at hs
   split at hs
   ·cases hs
   ·cases hs
    right
    simp only [nextR]
    rw [if_neg (by simp)]
    refine ⟨by simp,?_⟩
    show secLo y≤x∧_
    exact ⟨by omega,by omega,.inr ⟨h1,h2,rfl,by omega⟩⟩
 | [y,z],h =>
  obtain ⟨k1,k2,h⟩:=h
  have hl:=secLo_ge y
  have hh:=secHi_le y
  rcases h with ⟨h1,h2,rfl,rfl⟩ | ⟨h1,h2,rfl,rfl⟩
  ·simp only [stp] at hs
   rw [if_neg (by decide)] at hs
   split at hs
   ·cases hs
   ·cases hs
    left
    simp only [nextR]
    rw [if_neg (by simp)]
    have e:sizeN (((y-224)*64+(z-128))*64+x % 64)=3:=by
     obtain ⟨f1,f2,f3,f4⟩:=sec_facts y
     unfold sizeN
     rw [if_neg (by omega),if_neg (by omega),if_neg (by omega),if_pos (by omega)]
    refine ⟨by simp,?_,e⟩
    unfold formL
    rw [if_neg (by omega),if_neg (by omega),if_pos e]
    simp
    omega
  ·simp only [stp] at hs
   rw [if_neg (by decide)] at hs
   split at hs
   ·cases hs
   ·cases hs
    right
    simp only [nextR]
    rw [if_neg (by simp)]
    refine ⟨by simp,?_⟩
    show secLo y≤z∧_
    exact ⟨k1,k2,by omega,by omega,h1,h2,rfl,by omega⟩
 | [y,z,t],h =>
  obtain ⟨k1,k2,t1,t2,h1,h2,rfl,rfl⟩:=h
  have hl:=secLo_ge y
  have hh:=secHi_le y
  simp only [stp] at hs
  rw [if_neg (by decide)] at hs
  split at hs
  ·cases hs
  ·cases hs
   left
   simp only [nextR]
   rw [if_neg (by simp)]
   have e:sizeN ((((y-240)*64+(z-128))*64+(t-128))*64+x % 64)=4:=by
    obtain ⟨f1,f2,f3,f4⟩:=sec_facts y
    unfold sizeN
    rw [if_neg (by omega),if_neg (by omega),if_neg (by omega),if_neg (by omega)]
   refine ⟨by simp,?_,e⟩
   unfold formL
   rw [if_neg (by omega),if_neg (by omega),if_neg (by omega),if_pos e]
   simp
   omega
theorem begQ_left {q q':Q5} {x:Nat} (h:q.left=0) (hb:begQ q x=some q'):q'.left≤3:=by
 unfold begQ at hb
 split at hb
 ·cases hb
 ·split at hb
  ·cases hb;simp
  ·split at hb
   ·cases hb;simp
   ·split at hb
    ·cases hb;simp
    ·split at hb
     ·cases hb
     ·cases hb;omega
theorem stp_left {q q':Q5} {x:Nat} (h:q.left≤3) (hb:stp q x=some q'):q'.left≤3:=by
 unfold stp at hb
 split at hb
 ·exact begQ_left (by assumption) hb
 ·split at hb
  ·cases hb
  ·cases hb;show q.left-1≤3;omega
theorem tk_left {s:St5} {x:Nat} (h:s.q.left≤3):(tk s x).q.left≤3:=by
 cases hw:s.wrong with
 | true=>rw [tk_wrong hw];exact h
 | false =>
  cases hs:stp s.q x with
  | none=>rw [tk_none hw hs];exact h
  | some q=>rw [tk_some hw hs];exact stp_left h hs
theorem runS_left {s:St5} (h:s.q.left≤3) (l:List Nat):(runS s l).q.left≤3:=by
 induction l generalizing s with
 | nil=>exact h
 | cons x l ih=>exact ih (tk_left h)
theorem tk_good (s:St5) (x:Nat):(tk s x).good≤s.good+1:=by
 cases hw:s.wrong with
 | true=>rw [tk_wrong hw];omega
 | false =>
  cases hs:stp s.q x with
  | none=>rw [tk_none hw hs];show s.good≤_;omega
  | some q=>rw [tk_some hw hs];exact Nat.le_refl _
theorem runS_good (s:St5) (l:List Nat):(runS s l).good≤s.good+l.length:=by
 induction l generalizing s with
 | nil=>exact Nat.le_refl _
 | cons x l ih=>have h1:=ih (tk s x);have h2:=tk_good s x;show (runS (tk s x) l).good≤_;simp only [List.length_cons];omega
theorem byt_at (s:ByteArray) (i:Nat) (h:i<s.size):s[i].toNat=byt s i:=by
 have h':i<s.data.toList.length:=by rw [Array.length_toList];exact h
 unfold byt
 rw [List.getD_eq_getElem?_getD,List.getElem?_eq_getElem h']
 rfl
theorem byt_lt (s:ByteArray) (i:Nat):byt s i<256:=UInt8.toNat_lt _
def tel (q:Q5) (p r i:Nat):List Nat→List (Nat × Nat)
 | []=>[]
 | x :: l=>match stp q x with
  | none=>[]
  | some q' =>
   if q'.left=0 then (p,if i=p then x &&& (127 >>> q'.left) else r*64+x % 64) :: tel q' (i+1) (if i=p then x &&& (127 >>> q'.left) else r*64+x % 64) (i+1) l
   else tel q' p (if i=p then x &&& (127 >>> q'.left) else r*64+x % 64) (i+1) l
end Go.Proofs.YtongedjlmohogaaGreatDoor
/- A character's form,byte by byte. -/
namespace Go.Proofs.YtongedjlmohogaaGreatDoor
end Go.Proofs.YtongedjlmohogaaGreatDoor
/- What the methods of utf8's state do with it. -/
namespace Go.Proofs.YtongedjlmohogaaGreatDoor
open Go.RowKit
def Only (b:Nat) (w w':World):Prop:=Below b w w'∧w'.heap.size=w.heap.size∧∀ c,c≠b→w'.heap[c]? = w.heap[c]?
theorem Only.refl (b:Nat) (w:World):Only b w w:=⟨Below.refl _ _,rfl,fun _ _=>rfl⟩
theorem Only.trans {b:Nat} {w w1 w2:World} (h:Only b w w1) (k:Only b w1 w2):Only b w w2:=⟨h.1.trans k.1,k.2.1.trans h.2.1,fun c hc=>(k.2.2 c hc).trans (h.2.2 c hc)⟩
theorem Only.set {b:Nat} {w w':World} (h:Only b w w') (i:Nat) (v:Value):Only b w (w'.setCell ⟨b,i,none⟩ v) :=
 ⟨h.1.setCell (p:=⟨b,i,none⟩) (Nat.le_refl _) _,by simp [h.2.1],fun c hc=>(Below.heap_setCell w' ⟨b,i,none⟩ v c hc).trans (h.2.2 c hc)⟩
theorem Only.drew {b:Nat} {w w':World} (h:Only b w w'):Only b w w'.drew:=⟨h.1.drew,h.2.1,h.2.2⟩
theorem Only.below {b k:Nat} {w w':World} (h:Only b w w') (hk:k≤b):Below k w w':=h.1.mono hk
theorem Only.at {b c:Nat} {w w':World} (h:Only b w w') {cs:Array Value} {t:TypeId} (ha:At w c cs t) (hc:c≠b):At w' c cs t:=(h.2.2 c hc).trans ha
def stC (s:St5):Array Value:=#[.int .i64 (s.good:Int),.bool s.wrong,.int .i64 (s.q.left:Int),.int .u8 (s.q.lo:Int),.int .u8 (s.q.hi:Int)]
set_option maxRecDepth 10000 in
theorem second_calls (x:Nat) (w:World):Calls Tryz.prog 164 #[.int .u8 (x:Int)] w fun e w'=>e = .returned (.tuple #[.int .u8 (secLo x:Int),.int .u8 (secHi x:Int)])∧w'=w:=by
 by_cases h1:x=224
 ·subst h1
  go_enter Tryz.func164,Tryz.ntmps164
  go_wp2
  exact bodyPost_ret (v:=.tuple #[.int .u8 160,.int .u8 191]) (by simp [results,Tryz.results164,go_sem];try decide) rfl ⟨rfl,rfl⟩
 by_cases h2:x=237
 ·subst h2
  go_enter Tryz.func164,Tryz.ntmps164
  go_wp2
  exact bodyPost_ret (v:=.tuple #[.int .u8 128,.int .u8 159]) (by simp [results,Tryz.results164,go_sem];try decide) rfl ⟨rfl,rfl⟩
 by_cases h3:x=240
 ·subst h3
  go_enter Tryz.func164,Tryz.ntmps164
  go_wp2
  exact bodyPost_ret (v:=.tuple #[.int .u8 144,.int .u8 191]) (by simp [results,Tryz.results164,go_sem];try decide) rfl ⟨rfl,rfl⟩
 by_cases h4:x=244
 ·subst h4
  go_enter Tryz.func164,Tryz.ntmps164
  go_wp2
  exact bodyPost_ret (v:=.tuple #[.int .u8 128,.int .u8 143]) (by simp [results,Tryz.results164,go_sem];try decide) rfl ⟨rfl,rfl⟩
 have e1:secLo x=128:=by unfold secLo;rw [if_neg h1,if_neg h3]
 have e2:secHi x=191:=by unfold secHi;rw [if_neg h2,if_neg h4]
 rw [e1,e2]
 have i1:¬ ((x:Int)=224):=by omega
 have i2:¬ ((x:Int)=237):=by omega
 have i3:¬ ((x:Int)=240):=by omega
 have i4:¬ ((x:Int)=244):=by omega
 clear e1 e2
 go_enter Tryz.func164,Tryz.ntmps164
 go_wp2
 exact bodyPost_ret (v:=.tuple #[.int .u8 128,.int .u8 191]) (by simp [results,Tryz.results164,go_sem];try decide) rfl ⟨rfl,rfl⟩
set_option maxRecDepth 10000 in
set_option maxHeartbeats 1000000 in
theorem begin_calls (b:Nat) (t:TypeId) (s:St5) (x:Nat) (w:World) (hA:At w b (stC s) t) (hl:s.q.left=0) :
  Calls Tryz.prog 152 #[.pointer (some ⟨b,0,none⟩),.int .u8 (x:Int)] w fun e w'=>e = .returned (.bool (begQ s.q x).isSome)∧Only b w w'∧At w' b (stC ⟨s.good,s.wrong,(begQ s.q x).getD s.q⟩) t:=by
 have hA':=hid hA
 have c2:w.cell? ⟨b,2,none⟩=some (.int .i64 0):=by rw [hA.cell];simp [stC,hl]
 have c3:w.cell? ⟨b,3,none⟩=some (.int .u8 (s.q.lo:Int)):=by rw [hA.cell];simp [stC]
 have c4:w.cell? ⟨b,4,none⟩=some (.int .u8 (s.q.hi:Int)):=by rw [hA.cell];simp [stC]
 have f2:=hA.frozen 2
 have f3:=hA.frozen 3
 have f4:=hA.frozen 4
 clear hA
 by_cases h1:244<x
 ·have e:begQ s.q x=none:=by unfold begQ;rw [if_pos h1]
  have i1:(244:Int)<(x:Int):=by omega
  rw [e]
  clear e
  go_enter Tryz.func152,Tryz.ntmps152
  go_wp2
  go_ret
  exact ⟨rfl,Only.refl _ _,hA'.out⟩
 have i1:¬ (244:Int)<(x:Int):=by omega
 by_cases h2:240≤x
 ·have e:begQ s.q x=some ⟨3,secLo x,secHi x⟩:=by unfold begQ;rw [if_neg h1,if_pos h2]
  have i2:(240:Int)≤(x:Int):=by omega
  rw [e]
  clear e
  go_enter Tryz.func152,Tryz.ntmps152
  go_wp2_with (first | (refine (second_calls x _).mono ?_;rintro e w1 ⟨rfl,hw1⟩;rw [hw1];clear hw1))
  go_ret
  exact ⟨rfl,((((((Only.refl _ _).set _ _).set _ _).set _ _).set _ _).set _ _),by simpa [stC] using (((((hA'.out.set 2 (.int .i64 1)).set 2 (.int .i64 2)).set 2 (.int .i64 3)).set 3 (.int .u8 (secLo x:Int))).set 4 (.int .u8 (secHi x:Int)))⟩
 have i2:¬ (240:Int)≤(x:Int):=by omega
 by_cases h3:224≤x
 ·have e:begQ s.q x=some ⟨2,secLo x,secHi x⟩:=by unfold begQ;rw [if_neg h1,if_neg h2,if_pos h3]
  have i3:(224:Int)≤(x:Int):=by omega
  rw [e]
  clear e
  go_enter Tryz.func152,Tryz.ntmps152
  go_wp2_with (first | (refine (second_calls x _).mono ?_;rintro e w1 ⟨rfl,hw1⟩;rw [hw1];clear hw1))
  go_ret
  exact ⟨rfl,(((((Only.refl _ _).set _ _).set _ _).set _ _).set _ _),by simpa [stC] using ((((hA'.out.set 2 (.int .i64 1)).set 2 (.int .i64 2)).set 3 (.int .u8 (secLo x:Int))).set 4 (.int .u8 (secHi x:Int)))⟩
 have i3:¬ (224:Int)≤(x:Int):=by omega
 by_cases h4:194≤x
 ·have e:begQ s.q x=some ⟨1,secLo x,secHi x⟩:=by unfold begQ;rw [if_neg h1,if_neg h2,if_neg h3,if_pos h4]
  have i4:(194:Int)≤(x:Int):=by omega
  rw [e]
  clear e
  go_enter Tryz.func152,Tryz.ntmps152
  go_wp2_with (first | (refine (second_calls x _).mono ?_;rintro e w1 ⟨rfl,hw1⟩;rw [hw1];clear hw1))
  go_ret
  exact ⟨rfl,((((Only.refl _ _).set _ _).set _ _).set _ _),by simpa [stC] using (((hA'.out.set 2 (.int .i64 1)).set 3 (.int .u8 (secLo x:Int))).set 4 (.int .u8 (secHi x:Int)))⟩
 have i4:¬ (194:Int)≤(x:Int):=by omega
 by_cases h5:128≤x
 ·have e:begQ s.q x=none:=by unfold begQ;rw [if_neg h1,if_neg h2,if_neg h3,if_neg h4,if_pos h5]
  have i5:(128:Int)≤(x:Int):=by omega
  rw [e]
  clear e
  go_enter Tryz.func152,Tryz.ntmps152
  go_wp2
  go_ret
  exact ⟨rfl,Only.refl _ _,hA'.out⟩
 have i5:¬ (128:Int)≤(x:Int):=by omega
 have e:begQ s.q x=some s.q:=by unfold begQ;rw [if_neg h1,if_neg h2,if_neg h3,if_neg h4,if_neg h5]
 rw [e]
 clear e
 go_enter Tryz.func152,Tryz.ntmps152
 go_wp2
 go_ret
 exact ⟨rfl,Only.refl _ _,hA'.out⟩
def fitQ (s:St5) (x:Nat):St5:=⟨s.good,s.wrong,(stp s.q x).getD s.q⟩
set_option maxRecDepth 10000 in
set_option maxHeartbeats 1000000 in
theorem fits_calls (b:Nat) (t:TypeId) (s:St5) (x:Nat) (w:World) (hA:At w b (stC s) t) (hL:s.q.left≤3) :
  Calls Tryz.prog 134 #[.pointer (some ⟨b,0,none⟩),.int .u8 (x:Int)] w fun e w'=>e = .returned (.bool (stp s.q x).isSome)∧Only b w w'∧At w' b (stC (fitQ s x)) t:=by
 have hA':=hid hA
 have f2:=hA.frozen 2
 have f3:=hA.frozen 3
 have f4:=hA.frozen 4
 by_cases h0:s.q.left=0
 ·have c2:w.cell? ⟨b,2,none⟩=some (.int .i64 0):=by rw [hA.cell];simp [stC,h0]
  have hb:=hid (begin_calls b t s x w hA h0)
  have e:stp s.q x=begQ s.q x:=by unfold stp;rw [if_pos h0]
  unfold fitQ
  rw [e]
  clear e hA h0
  go_enter Tryz.func134,Tryz.ntmps134
  go_wp2_with fail
  refine Calls.mono hb.out ?_
  rintro e w1 ⟨rfl,h1,h2⟩
  have h1':=hid h1
  have h2':=hid h2
  clear h1 h2 hb
  go_wp2
  go_ret
  exact ⟨rfl,h1'.out,h2'.out⟩
 ·have c2:w.cell? ⟨b,2,none⟩=some (.int .i64 (s.q.left:Int)):=by rw [hA.cell];simp [stC]
  have c3:w.cell? ⟨b,3,none⟩=some (.int .u8 (s.q.lo:Int)):=by rw [hA.cell];simp [stC]
  have c4:w.cell? ⟨b,4,none⟩=some (.int .u8 (s.q.hi:Int)):=by rw [hA.cell];simp [stC]
  have i0:¬ ((s.q.left:Int)=0):=by omega
  have iL:(s.q.left:Int)≤3:=by omega
  have i1:(1:Int)≤(s.q.left:Int):=by omega
  clear hA
  by_cases h1:x<s.q.lo
  ·have e:stp s.q x=none:=by unfold stp;rw [if_neg h0,if_pos (.inl h1)]
   have i2:(x:Int)<(s.q.lo:Int):=by omega
   unfold fitQ
   rw [e]
   clear e h0 hL
   go_enter Tryz.func134,Tryz.ntmps134
   go_wp2
   go_ret
   exact ⟨rfl,Only.refl _ _,hA'.out⟩
  by_cases h2:s.q.hi<x
  ·have e:stp s.q x=none:=by unfold stp;rw [if_neg h0,if_pos (.inr h2)]
   have i2:¬ (x:Int)<(s.q.lo:Int):=by omega
   have i3:(s.q.hi:Int)<(x:Int):=by omega
   unfold fitQ
   rw [e]
   clear e h0 hL h1
   go_enter Tryz.func134,Tryz.ntmps134
   go_wp2
   go_ret
   exact ⟨rfl,Only.refl _ _,hA'.out⟩
  ·have e:stp s.q x=some ⟨s.q.left-1,128,191⟩:=by unfold stp;rw [if_neg h0,if_neg (fun h=>by omega)]
   have i2:¬ (x:Int)<(s.q.lo:Int):=by omega
   have i3:¬ (s.q.hi:Int)<(x:Int):=by omega
   have i4:=hid (show (s.q.left:Int)-1=((s.q.left-1:Nat):Int) by omega)
   unfold fitQ
   rw [e]
   clear e h0 hL h1 h2
   go_enter Tryz.func134,Tryz.ntmps134
   go_wp2
   go_ret
   refine ⟨rfl,(((Only.refl _ _).set _ _).set _ _).set _ _,?_⟩
   have h:=((hA'.out.set 2 (.int .i64 ((s.q.left:Int)-1))).set 3 (.int .u8 128)).set 4 (.int .u8 191)
   rw [i4.out] at h ⊢
   simpa [stC] using h
set_option maxRecDepth 10000 in
set_option maxHeartbeats 1000000 in
theorem take_calls (b:Nat) (t:TypeId) (s:St5) (x:Nat) (w:World) (hA:At w b (stC s) t) (hL:s.q.left≤3) (hg:s.good<9223372036854775807) :
  Calls Tryz.prog 115 #[.pointer (some ⟨b,0,none⟩),.int .u8 (x:Int)] w fun e w'=>e = .returned (.bool (!(tk s x).wrong))∧Only b w w'∧At w' b (stC (tk s x)) t:=by
 have hA':=hid hA
 have f0:=hA.frozen 0
 have f1:=hA.frozen 1
 cases hw:s.wrong with
 | true =>
  have c1:w.cell? ⟨b,1,none⟩=some (.bool true):=by rw [hA.cell];simp [stC,hw]
  rw [tk_wrong hw,hw]
  clear hA hL hg
  go_enter Tryz.func115,Tryz.ntmps115
  go_wp2
  go_ret
  refine ⟨rfl,(Only.refl _ _).set _ _,?_⟩
  simpa [stC,hw] using hA'.out.set 1 (.bool true)
 | false =>
  have c1:w.cell? ⟨b,1,none⟩=some (.bool false):=by rw [hA.cell];simp [stC,hw]
  have hf:=hid (fits_calls b t s x w hA hL)
  have hw':=hid hw
  clear hA hL hw
  go_enter Tryz.func115,Tryz.ntmps115
  go_wp2_with fail
  refine Calls.mono hf.out ?_
  rintro e w1 ⟨rfl,h1,h2⟩
  have h1':=hid h1
  have h2':=hid h2
  have d0:w1.cell? ⟨b,0,none⟩=some (.int .i64 (s.good:Int)):=by rw [h2.cell];simp [stC,fitQ]
  have d1:w1.cell? ⟨b,1,none⟩=some (.bool false):=by rw [h2.cell];simp [stC,fitQ,hw'.out]
  have g0:=h2.frozen 0
  have g1:=h2.frozen 1
  have hgi:(s.good:Int)<9223372036854775807:=by omega
  clear h1 h2 hf
  cases hs:stp s.q x with
  | none =>
   have e2:=hid (tk_none hw'.out hs)
   have hs':=hid hs
   clear hs
   simp only [Option.isSome_none]
   go_wp2
   go_ret
   rw [e2.out]
   refine ⟨rfl,h1'.out.set _ _,?_⟩
   have h:=h2'.out.set 1 (.bool true)
   simpa [stC,fitQ,hs'.out] using h
  | some q =>
   have e2:=hid (tk_some hw'.out hs)
   have hs':=hid hs
   clear hs
   simp only [Option.isSome_some]
   go_wp2
   go_ret
   rw [e2.out]
   refine ⟨rfl,h1'.out.set _ _,?_⟩
   have h:=h2'.out.set 0 (.int .i64 ((s.good:Int)+1))
   simpa [stC,fitQ,hs'.out,hw'.out] using h
end Go.Proofs.YtongedjlmohogaaGreatDoor
/- Rows of bytes,and what string(..) makes of them. -/
namespace Go.Proofs.YtongedjlmohogaaGreatDoor
open Go.RowKit
theorem infoU8:(Tryz.prog.info? 5).map (fun i=>(i.zero,i.size,i.bytes))=some (some (.int .u8 0),1,1):=by kernel_rfl
end Go.Proofs.YtongedjlmohogaaGreatDoor
/- What utf8.Bad,and a Scan's New,Feed and End answer. -/
namespace Go.Proofs.YtongedjlmohogaaGreatDoor
open Go.RowKit
set_option maxRecDepth 10000 in
set_option maxHeartbeats 1000000 in
theorem read_calls (b:Nat) (t:TypeId) (s:St5) (z:ByteArray) (w:World) (hA:At w b (stC s) t) (hL:s.q.left≤3) (hg:s.good+z.size<9223372036854775807) :
  Calls Tryz.prog 97 #[.pointer (some ⟨b,0,none⟩),.string z] w fun e w'=>e = .returned (.bool (!(runS s (byts z)).wrong))∧Only b w w'∧At w' b (stC (runS s (byts z))) t:=by
 have hA':=hid hA
 have hzz:z.size<9223372036854775807:=by omega
 clear hA
 go_enter Tryz.func97,Tryz.ntmps97
 go_wp2
 go_loopw [8] (fun ii wr=>∃ i:Nat,i≤z.size∧ii = .int .i64 (i:Int)∧Only b w wr∧At wr b (stC (runS s ((byts z).take i))) t) (fun ii _=>z.size-(intOf ii).toNat)
 case atStart=>exact ⟨0,Nat.zero_le _,rfl,Only.refl _ _,hA'.out⟩
 case round =>
  obtain ⟨i,hi,rfl,hO,hB⟩:=hrel
  have hO':=hid hO
  have hB':=hid hB
  clear hO
  by_cases hlt:i<z.size
  ·have hti:=hid (take_calls b t (runS s ((byts z).take i)) (byt z i) wr hB (runS_left hL _) (by have:=runS_good s ((byts z).take i);rw [List.length_take] at this;omega))
   rw [← runS_snoc,← byts_take z i hlt] at hti
   have hlti:(i:Int)<(z.size:Int):=by omega
   clear hB
   go_wp2_with fail
   rw [byt_at]
   refine Calls.mono hti.out ?_
   rintro e w1 ⟨rfl,h1,h2⟩
   have h1':=hid (hO'.out.trans h1)
   have h2':=hid h2
   clear h1 h2 hti
   cases hw:(runS s ((byts z).take (i+1))).wrong with
   | true =>
    have hw':=hid hw
    clear hw
    simp only [Bool.not_true]
    go_wp2
    go_ret
    have e1:runS s (byts z)=runS s ((byts z).take (i+1)):=by
     conv=>lhs;rw [← List.take_append_drop (i+1) (byts z),runS_append]
     exact runS_wrong hw'.out _
    rw [e1,hw'.out]
    exact ⟨rfl,h1'.out,h2'.out⟩
   | false =>
    clear hw
    simp only [Bool.not_false]
    go_wp2
    go_roundw
    case rel=>exact ⟨i+1,hlt,by simp,h1'.out,h2'.out⟩
    case measure=>simp [intOf];omega
  ·obtain rfl:i=z.size:=by omega
   rw [byts_whole] at hB hB'
   have c1:wr.cell? ⟨b,1,none⟩=some (.bool (runS s (byts z)).wrong):=by rw [hB.cell];simp [stC]
   clear hB hlt
   go_wp2
   go_ret
   exact ⟨rfl,hO'.out,hB'.out⟩
set_option maxRecDepth 10000 in
theorem bad_calls (b:Nat) (t:TypeId) (s:St5) (w:World) (hA:At w b (stC s) t) :
  Calls Tryz.prog 98 #[.pointer (some ⟨b,0,none⟩)] w fun e w'=>e = .returned (.int .i64 (badI s))∧w'=w:=by
 have c0:w.cell? ⟨b,0,none⟩=some (.int .i64 (s.good:Int)):=by rw [hA.cell];simp [stC]
 have c2:w.cell? ⟨b,2,none⟩=some (.int .i64 (s.q.left:Int)):=by rw [hA.cell];simp [stC]
 unfold badI
 cases hw:s.wrong with
 | true =>
  have c1:w.cell? ⟨b,1,none⟩=some (.bool true):=by rw [hA.cell];simp [stC,hw]
  rw [if_pos (.inl rfl)]
  clear hA hw
  go_enter Tryz.func98,Tryz.ntmps98
  go_wp2
  go_ret
  exact ⟨rfl,rfl⟩
 | false =>
  have c1:w.cell? ⟨b,1,none⟩=some (.bool false):=by rw [hA.cell];simp [stC,hw]
  by_cases h:0<s.q.left
  ·rw [if_pos (.inr h)]
   have hi:(0:Int)<(s.q.left:Int):=by omega
   clear hA hw
   go_enter Tryz.func98,Tryz.ntmps98
   go_wp2
   go_ret
   exact ⟨rfl,rfl⟩
  ·rw [if_neg (fun k=>by rcases k with k | k;cases k;exact h k)]
   have hi:¬ (0:Int)<(s.q.left:Int):=by omega
   clear hA hw
   go_enter Tryz.func98,Tryz.ntmps98
   go_wp2
   go_ret
   exact ⟨rfl,rfl⟩
set_option maxRecDepth 10000 in
theorem badF_calls (z:ByteArray) (hz:z.size<9223372036854775807) (w:World) :
  Calls Tryz.prog 80 #[.string z] w fun e w'=>e = .returned (.int .i64 (badOf z))∧Below w.heap.size w w':=by
 have hA0:At (w.alloc (.cells (stC s5) 124)) w.heap.size (stC s5) 124:=At.new _ _ _
 have hb0:Below w.heap.size w (w.alloc (.cells (stC s5) 124)):=(Below.refl _ _).alloc (Nat.le_refl _) _
 have hr:=hid (read_calls w.heap.size 124 s5 z _ hA0 (by decide) (by show 0+z.size<_;omega))
 have hb0':=hid hb0
 clear hA0 hb0 hz
 go_enter Tryz.func80,Tryz.ntmps80
 go_wp2_with fail
 refine Calls.mono hr.out ?_
 rintro e w1 ⟨rfl,h1,h2⟩
 have hb:=hid (bad_calls w.heap.size 124 _ w1 h2)
 have h1':=hid (hb0'.out.trans (h1.below (Nat.le_refl _)))
 clear hr h1 h2
 go_wp2_with fail
 refine Calls.mono hb.out ?_
 rintro e w2 ⟨rfl,rfl⟩
 clear hb
 go_wp2
 go_ret
 exact ⟨rfl,h1'.out⟩
end Go.Proofs.YtongedjlmohogaaGreatDoor
