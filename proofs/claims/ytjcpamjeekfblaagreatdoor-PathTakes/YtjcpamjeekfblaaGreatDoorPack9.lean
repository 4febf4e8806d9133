/-
  Texts of mine that others lean on, one behind the other.
-/
import Derived.Test.YtjcpamjeekfblaaGreatDoorPack8
import Derived.Test.YtjcpamjeekfblaaGreatDoorPack7
import Derived.Deep.DeepCutAuto
import Derived.Deep.RegionHeld
import Derived.Test.YtjcpamjeekfblaaGreatDoorPack5
import Derived.Test.YtjcpamjeekfblaaGreatDoorPack2
import Derived.Test.YtjcpamjeekfblaaGreatDoorPack1
namespace Go.Proofs.YtjcpamjeekfblaaGreatDoor
open Go.RowKit Go.Shelf
def IntsAt (w:World) (ao:Option Addr) (L:List Nat):Prop:=∀ j p,L[j]? = some p→∃ g,ao=some ⟨g,0,none⟩∧g<w.heap.size∧w.cell? ⟨g,j,none⟩=some (.int .i64 ((p:Nat):Int))
theorem IntsAt.kept {m:Nat} {w w':World} {ao:Option Addr} {L:List Nat} (h:IntsAt w ao L) (hm:w.heap.size≤m) (hb:Below m w w'):IntsAt w' ao L:=fun j p hj=>by
 obtain ⟨g,h1,h2,h3⟩:=h j p hj
 exact ⟨g,h1,Nat.lt_of_lt_of_le h2 hb.size,(hb.cell (p:=⟨g,j,none⟩) (by show g<m;omega)).trans h3⟩
end Go.Proofs.YtjcpamjeekfblaaGreatDoor

namespace Go.Proofs.YtjcpamjeekfblaaGreatDoor
open Go.RowKit Go.Shelf
attribute [local go_sem] Oper.semAt_some
end Go.Proofs.YtjcpamjeekfblaaGreatDoor

/- LevMath,LvWalk,LvRows. -/
/-
  Of no program: how deep the places of a text lie;where a bracket is closed.
-/
namespace Go.Proofs.YtjcpamjeekfblaaGreatDoor
def opB (x:Nat):Bool:=x == 123 || x == 91
def clB (x:Nat):Bool:=x == 125 || x == 93
def brO (s:ByteArray) (i:Nat):Bool:=outS s i && opB (byteAt s i)
def brC (s:ByteArray) (i:Nat):Bool:=outS s i && clB (byteAt s i)
def stepD (o c:Bool) (d:Nat):Nat:=if o then d+1 else if c then d-1 else d
def depS (s:ByteArray):Nat→Nat
  | 0=>0
  | i+1=>stepD (brO s i) (brC s i) (depS s i)
theorem depS_succ (s:ByteArray) (i:Nat):depS s (i+1)=stepD (brO s i) (brC s i) (depS s i):=rfl
/-! At a place at which something begins the byte itself tells. -/
/-! The places at which something begins,one after another. -/
/-! The depth hangs on nothing behind the place. -/
/-! Where a bracket is closed. -/
def clsP (s:ByteArray) (a p:Nat):Bool:=decide (a<p) && (brC s p && decide (depS s p=depS s a+1))
def IsCls (s:ByteArray) (a:Int) (c:Int):Prop :=
  (∃ i:Nat,a=i∧brO s i=true∧((∃ p:Nat,c=p∧p<s.size∧clsP s i p=true∧∀ q,q<p→clsP s i q=false)∨(c = -1∧∀ q,q<s.size→clsP s i q=false)))∨(c = -1∧∀ i:Nat,a=i→brO s i=false)
theorem IsCls.uniq {s:ByteArray} {a c d:Int} (h:IsCls s a c) (h':IsCls s a d):c=d:=by
  rcases h with ⟨i,rfl,ho,h⟩ | ⟨rfl,h⟩ <;> rcases h' with ⟨j,e,ho',h'⟩ | ⟨rfl,h'⟩
  · have e':j=i:=by omega
    subst e'
    rcases h with ⟨p,rfl,h1,h2,hz⟩ | ⟨rfl,h1⟩ <;> rcases h' with ⟨q,rfl,h4,h5,hy⟩ | ⟨rfl,h4⟩
    · rcases Nat.lt_trichotomy p q with h | h | h
      · have:=hy p h;rw [h2] at this;cases this
      · rw [h]
      · have:=hz q h;rw [h5] at this;cases this
    · have:=h4 p h1;rw [h2] at this;cases this
    · have:=h1 q h4;rw [h5] at this;cases this
    · rfl
  · have:=h' i rfl;rw [ho] at this;cases this
  · have:=h j e;rw [ho'] at this;cases this
  · rfl
end Go.Proofs.YtjcpamjeekfblaaGreatDoor
/-
  What levels.walk does with a function that is handed to it.
-/
namespace Go.Proofs.YtjcpamjeekfblaaGreatDoor
open Go.RowKit Go.Shelf
end Go.Proofs.YtjcpamjeekfblaaGreatDoor
/-
  What levels.rows and levels.set do: rows of bits,one behind another.
-/
namespace Go.Proofs.YtjcpamjeekfblaaGreatDoor
open Go.RowKit Go.Shelf
def But (g:Nat) (w w':World):Prop:=Below 0 w w'∧∀ b,b<w.heap.size→b≠g→w'.heap[b]? = w.heap[b]?
theorem But.at {g:Nat} {w w':World} (h:But g w w') {b:Nat} {cs:Array Value} {t:TypeId} (ha:At w b cs t) (hb:b≠g):At w' b cs t:=(h.2 b ha.lt hb).trans ha
theorem But.cell {g:Nat} {w w':World} (h:But g w w') {p:Addr} (hp:p.block<w.heap.size) (hb:p.block≠g):w'.cell? p=w.cell? p:=by
  unfold World.cell?
  rw [h.2 _ hp hb]
theorem But.below {g n:Nat} {w w' w0:World} (h:But g w w') (h0:Below n w0 w) (hn:n≤w.heap.size) (hg:n≤g):Below n w0 w':=by
  refine ⟨h.1.os.trans h0.os,h.1.tape.trans h0.tape,h.1.output.trans h0.output,Nat.le_trans h0.size h.1.size,fun b hb=>?_⟩
  refine Eq.trans ?_ (h0.block b hb)
  by_cases hbw:b<w.heap.size
  · exact h.2 b hbw (by omega)
  · exact absurd (Nat.lt_of_lt_of_le hb hn) hbw
end Go.Proofs.YtjcpamjeekfblaaGreatDoor
/- LvBuild,LvBuild2. -/
/-
  What levels.Build answers.
-/
namespace Go.Proofs.YtjcpamjeekfblaaGreatDoor
open Go.RowKit Go.Shelf
/-! Rows of a list: kept,and one of them turned. -/
def putR (Y:Nat→Nat) (i j:Nat):Nat:=if j=i / 64 then Y (i / 64) ||| 2 ^ (i % 64) else Y j
section
variable {w w':World} {A m n g:Nat} {F:Nat→Nat→Nat}
end
def B1 (s:ByteArray) (m i d A B:Nat) (F G:Nat→Nat→Nat) (w w':World):Prop :=
  (∃ k, d = k + 1 ∧ k < m ∧ byteAt s i = 58 ∧ At w' (A + 1 + k) (rowCells (need s.size) (putR (F k) i)) 127 ∧ But (A + 1 + k) w w') ∨
       (∃ k,d=k+1∧k<m∧byteAt s i=44∧At w' (B+1+k) (rowCells (need s.size) (putR (G k) i)) 127∧But (B+1+k) w w') ∨
       (((d=0∨m<d)∨(byteAt s i≠58∧byteAt s i≠44))∧w'=w)
end Go.Proofs.YtjcpamjeekfblaaGreatDoor
/-
  What levels.Build answers,whole.
-/
namespace Go.Proofs.YtjcpamjeekfblaaGreatDoor
open Go.RowKit Go.Shelf
section
variable {w W w1:World} {s:ByteArray} {m bl A B hw:Nat}
end
end Go.Proofs.YtjcpamjeekfblaaGreatDoor
/- LvDepth,LvWithin. -/
/-
  What levels.Depth and levels.Close answer.
-/
namespace Go.Proofs.YtjcpamjeekfblaaGreatDoor
open Go.RowKit Go.Shelf
end Go.Proofs.YtjcpamjeekfblaaGreatDoor
/-
  What levels.upTo,levels.within,levels.Colons and levels.Commas answer.
-/
namespace Go.Proofs.YtjcpamjeekfblaaGreatDoor
open Go.RowKit Go.Shelf
def UpTo (N k:Nat) (t:Int) (N' k':Nat):Prop:=((N:Int)≤t∧N'=N∧k'=k)∨(t<(N:Int)∧k'=need t.toNat∧N'=min (64*k') N)
theorem UpTo.le {N k N' k':Nat} {t:Int} (h:UpTo N k t N' k') (hk:k=need N):N'≤N∧k'≤k:=by
  unfold need at hk
  rcases h with ⟨_,h1,h2⟩ | ⟨h0,h1,h2⟩
  · omega
  · unfold need at h1;omega
theorem UpTo.formed {N k N' k':Nat} {t:Int} {X:Nat→Nat} (h:UpTo N k t N' k') (hf:formed (N:Int) k X):formed (N':Int) k' X:=by
  obtain ⟨f1,f2,f3⟩:=hf
  rw [Int.toNat_natCast] at f2 f3
  rcases h with ⟨_,rfl,rfl⟩ | ⟨h0,h1,h2⟩
  · exact ⟨f1,by rw [Int.toNat_natCast];exact f2,by rw [Int.toNat_natCast];exact f3⟩
  · unfold need at f2 h1
    refine ⟨by omega,by rw [Int.toNat_natCast];unfold need;omega,fun i h3 h4=>?_⟩
    rw [Int.toNat_natCast] at h3
    exact f3 i (by omega) (by omega)
end Go.Proofs.YtjcpamjeekfblaaGreatDoor

/- The machine: what each byte does to texts,backslashes and brackets. -/
namespace Go.Proofs.YtjcpamjeekfblaaGreatDoor
def TabN (a c b n k:Nat):Prop :=
  (b=7 ↔ (c=92∧a≠7)) ∧
  ((b=6∨b=7∨b=8) ↔ (((a=6∨a=7∨a=8)∧¬ (c=34∧a≠7))∨(¬ (a=6∨a=7∨a=8)∧c=34))) ∧
  (¬ (a=6∨a=7∨a=8)→(c=91∨c=123)→k=n+1) ∧
  (¬ (a=6∨a=7∨a=8)→(c=93∨c=125)→k+1=n) ∧
  ((a=6∨a=7∨a=8)∨¬ (c=91∨c=123∨c=93∨c=125)→k=n)
def TabV (m:Mc) (c:Nat) (m':Mc):Prop:=TabN m.st c m'.st m.op.length m'.op.length
theorem dropLast_len {m:Mc} (h:topN m≠0):m.op.dropLast.length+1=m.op.length:=by
  have:=List.length_pos_iff.mpr (op_ne h)
  rw [List.length_dropLast];omega
theorem value_tab {m m':Mc} {c:Nat} (hs:m.st=0∨m.st=1) (h:valueM m c=some m'):TabV m c m':=by
  unfold valueM at h
  simp only [digN,decide_eq_true_eq] at h
  repeat' split at h
  all_goals first
    | (cases h;done)
    | (injection h with h;subst h
       unfold TabV;try simp only [List.length_append,List.length_singleton]
       unfold TabN;refine ⟨?_,?_,?_,?_,?_⟩ <;> omega)
theorem after_tab {m m':Mc} {c:Nat} (hs:m.st=5∨10≤m.st) (h:afterM m c=some m'):TabV m c m':=by
  unfold afterM at h
  simp only [blankN,decide_eq_true_eq] at h
  repeat' split at h
  all_goals first
    | (cases h;done)
    | (injection h with h;subst h
       unfold TabV;try simp only
       unfold TabN;refine ⟨?_,?_,?_,?_,?_⟩ <;> omega)
    | (rename_i h4
       have hz:topN m≠0:=by omega
       have:=dropLast_len hz
       injection h with h;subst h
       unfold TabV;try simp only
       unfold TabN;refine ⟨?_,?_,?_,?_,?_⟩ <;> omega)
theorem char_tab {m m':Mc} {c:Nat} (hs:m.st=6) (hb:0<m.lf→128≤m.lo) (h:charM m c=some m'):TabV m c m':=by
  unfold charM at h
  repeat' split at h
  all_goals first
    | (cases h;done)
    | (injection h with h;subst h
       unfold TabV;try simp only
       unfold TabN;refine ⟨?_,?_,?_,?_,?_⟩ <;> omega)
theorem esc_tab {m m':Mc} {c:Nat} (hs:m.st=7∨m.st=8) (h:escM m c=some m'):TabV m c m':=by
  unfold escM at h
  simp only [hexN,decide_eq_true_eq] at h
  by_cases e:m.st=8
  · rw [if_pos e] at h
    split at h
    · injection h with h;subst h
      unfold TabV;try simp only
      split <;> (unfold TabN;refine ⟨?_,?_,?_,?_,?_⟩ <;> omega)
    · cases h
  · rw [if_neg e] at h
    repeat' split at h
    all_goals first
      | (cases h;done)
      | (injection h with h;subst h
         unfold TabV;try simp only
         unfold TabN;refine ⟨?_,?_,?_,?_,?_⟩ <;> omega)
theorem num_tab {m m':Mc} {c:Nat} (hs:10≤m.st) (h:numM m c=some m'):TabV m c m':=by
  unfold numM at h
  simp only [digN,decide_eq_true_eq] at h
  repeat' split at h
  all_goals first
    | (cases h;done)
    | (exact after_tab (Or.inr hs) h)
    | (injection h with h;subst h
       unfold TabV;try simp only
       unfold TabN;refine ⟨?_,?_,?_,?_,?_⟩ <;> omega)
    | (injection h with h;subst h
       unfold TabV;try simp only
       unfold TabN;refine ⟨?_,?_,?_,?_,?_⟩ <;> omega)
theorem step_tab {m m':Mc} {c:Nat} (f:Fit m) (hb:m.st=6→0<m.lf→128≤m.lo) (h:stepM m c=some m'):TabV m c m':=by
  unfold stepM at h
  by_cases h1:10≤m.st
  · rw [if_pos h1] at h;exact num_tab h1 h
  rw [if_neg h1] at h
  by_cases h2:m.st=6
  · rw [if_pos h2] at h;exact char_tab h2 (hb h2) h
  rw [if_neg h2] at h
  by_cases h3:m.st=7∨m.st=8
  · rw [if_pos h3] at h;exact esc_tab h3 h
  rw [if_neg h3] at h
  by_cases h4:m.st=9
  · rw [if_pos h4] at h
    cases hw:m.wd with
    | nil=>rw [hw] at h;cases h
    | cons x r =>
      rw [hw] at h
      have hx:=f.wd x (by rw [hw];simp)
      simp only at h
      by_cases h5:x=c
      · rw [if_pos h5] at h
        injection h with h;subst h
        unfold TabV;try simp only
        split <;> (unfold TabN;refine ⟨?_,?_,?_,?_,?_⟩ <;> omega)
      · rw [if_neg h5] at h;cases h
  rw [if_neg h4] at h
  by_cases h5:blankN c=true
  · rw [if_pos h5] at h;injection h with h;subst h
    simp only [blankN,decide_eq_true_eq] at h5
    unfold TabV;try simp only
    unfold TabN;refine ⟨?_,?_,?_,?_,?_⟩ <;> omega
  rw [if_neg h5] at h
  by_cases h6:m.st=5
  · rw [if_pos h6] at h;exact after_tab (Or.inl h6) h
  rw [if_neg h6] at h
  by_cases h7:m.st=4
  · rw [if_pos h7] at h
    by_cases h8:c=58
    · rw [if_pos h8] at h;injection h with h;subst h
      unfold TabV;try simp only
      unfold TabN;refine ⟨?_,?_,?_,?_,?_⟩ <;> omega
    · rw [if_neg h8] at h;cases h
  rw [if_neg h7] at h
  by_cases h8:m.st=0
  · rw [if_pos h8] at h;exact value_tab (Or.inl h8) h
  rw [if_neg h8] at h
  by_cases h9:(m.st=1∧c=93)∨(m.st=2∧c=125)
  · rw [if_pos h9] at h;injection h with h;subst h
    have hz:topN m≠0:=by
      rcases h9 with h9 | h9
      · have:=f.s1 h9.1;omega
      · have:=f.s2 (Or.inl h9.1);omega
    have:=dropLast_len hz
    unfold TabV;try simp only
    unfold TabN;refine ⟨?_,?_,?_,?_,?_⟩ <;> omega
  rw [if_neg h9] at h
  by_cases h10:m.st=1
  · rw [if_pos h10] at h;exact value_tab (Or.inr h10) h
  rw [if_neg h10] at h
  by_cases h11:c=34
  · rw [if_pos h11] at h;injection h with h;subst h
    unfold TabV;try simp only
    unfold TabN;refine ⟨?_,?_,?_,?_,?_⟩ <;> omega
  · rw [if_neg h11] at h;cases h
def LoM (m:Mc):Prop:=m.st=6→0<m.lf→128≤m.lo
theorem lo0:LoM mc0:=by intro h;simp [mc0] at h
theorem lowB_le (c:Nat):128≤lowB c:=by
  unfold lowB
  repeat' split
  all_goals omega
theorem value_lf {m m':Mc} {c:Nat} (h:valueM m c=some m'):m'.lf=m.lf:=by
  unfold valueM at h
  repeat' split at h
  all_goals first
    | (cases h;done)
    | (injection h with h;subst h;rfl)
theorem after_lf {m m':Mc} {c:Nat} (h:afterM m c=some m'):m'.lf=m.lf:=by
  unfold afterM at h
  repeat' split at h
  all_goals first
    | (cases h;done)
    | (injection h with h;subst h;rfl)
theorem num_lf {m m':Mc} {c:Nat} (h:numM m c=some m'):m'.lf=m.lf:=by
  unfold numM at h
  repeat' split at h
  all_goals first
    | (cases h;done)
    | (exact after_lf h)
    | (injection h with h;subst h;rfl)
theorem step_lf {m m':Mc} {c:Nat} (h2:¬ m.st=6) (h3:¬ (m.st=7∨m.st=8)) (h:stepM m c=some m'):m'.lf=m.lf:=by
  unfold stepM at h
  by_cases h1:10≤m.st
  · rw [if_pos h1] at h;exact num_lf h
  rw [if_neg h1,if_neg h2,if_neg h3] at h
  by_cases h4:m.st=9
  · rw [if_pos h4] at h
    cases hw:m.wd with
    | nil=>rw [hw] at h;cases h
    | cons x r =>
      rw [hw] at h
      simp only at h
      by_cases h5:x=c
      · rw [if_pos h5] at h;injection h with h;subst h;rfl
      · rw [if_neg h5] at h;cases h
  rw [if_neg h4] at h
  by_cases h5:blankN c=true
  · rw [if_pos h5] at h;injection h with h;subst h;rfl
  rw [if_neg h5] at h
  by_cases h6:m.st=5
  · rw [if_pos h6] at h;exact after_lf h
  rw [if_neg h6] at h
  by_cases h7:m.st=4
  · rw [if_pos h7] at h
    by_cases h8:c=58
    · rw [if_pos h8] at h;injection h with h;subst h;rfl
    · rw [if_neg h8] at h;cases h
  rw [if_neg h7] at h
  by_cases h8:m.st=0
  · rw [if_pos h8] at h;exact value_lf h
  rw [if_neg h8] at h
  by_cases h9:(m.st=1∧c=93)∨(m.st=2∧c=125)
  · rw [if_pos h9] at h;injection h with h;subst h;rfl
  rw [if_neg h9] at h
  by_cases h10:m.st=1
  · rw [if_pos h10] at h;exact value_lf h
  rw [if_neg h10] at h
  by_cases h11:c=34
  · rw [if_pos h11] at h;injection h with h;subst h;rfl
  · rw [if_neg h11] at h;cases h
theorem step_lo {m m':Mc} {c:Nat} (f:Fit m) (g:Fit2 m) (h:stepM m c=some m'):LoM m':=by
  have f':=step_fit f h
  by_cases h2:m.st=6
  · unfold stepM at h
    rw [if_neg (by omega),if_pos h2] at h
    have:=lowB_le c
    unfold charM at h
    repeat' split at h
    all_goals first
      | (cases h;done)
      | (injection h with h;subst h
         intro _ _
         simp only
         omega)
  · -- a text begins,or goes on,with nothing that has to come
    intro h6 hl
    exfalso
    have h8:=g.l8
    by_cases h3:m.st=7∨m.st=8
    · unfold stepM at h
      rw [if_neg (by omega),if_neg h2,if_pos h3] at h
      have h7:m.st=7→m.lf=0:=fun h=>f.lf (by omega) (by omega)
      unfold escM at h
      by_cases e:m.st=8
      · rw [if_pos e] at h
        split at h
        · injection h with h;subst h
          simp only at h6 hl
          split at h6 <;> omega
        · cases h
      · rw [if_neg e] at h
        have:=h7 (by omega)
        repeat' split at h
        all_goals first
          | (cases h;done)
          | (injection h with h;subst h
             simp only at h6 hl
             omega)
    · have h0:m.lf=0:=f.lf (by omega) (by omega)
      have:m'.lf=m.lf:=step_lf h2 h3 h
      omega
end Go.Proofs.YtjcpamjeekfblaaGreatDoor
/- The machine and the text's own marks: where it is within a text,where a byte is escaped,how many brackets are open. -/
namespace Go.Proofs.YtjcpamjeekfblaaGreatDoor
theorem byt_byteAt (s:ByteArray) (i:Nat):byt s i=byteAt s i:=by
  unfold byt byteAt
  rw [List.getD_eq_getElem?_getD,Array.getElem?_toList]
theorem take_snoc (m:Mc) (l:List Nat) (x:Nat):takeM m (l++[x])=(takeM m l).bind (fun k=>stepM k x):=by
  rw [takeM_app]
  cases takeM m l with
  | none=>rfl
  | some k =>
    show takeM k [x]=stepM k x
    simp only [takeM]
    cases stepM k x <;> rfl
theorem take_one {m k : Mc} {l : List Nat} {i x : Nat} (h : takeM m (l.take (i + 1)) = some k) (hx : l[i]? = some x) :
    ∃ q,takeM m (l.take i)=some q∧stepM q x=some k:=by
  have hi:i<l.length:=(List.getElem?_eq_some_iff.mp hx).1
  have he:l[i]=x:=(List.getElem?_eq_some_iff.mp hx).2
  rw [List.take_succ_eq_append_getElem hi,he,take_snoc] at h
  cases hq:takeM m (l.take i) with
  | none=>rw [hq] at h;cases h
  | some q=>rw [hq] at h;exact ⟨q,rfl,h⟩
theorem take_lo {m m':Mc} {l:List Nat} (f:Fit m) (g:Fit2 m) (h0:LoM m) (h:takeM m l=some m'):LoM m':=by
  induction l generalizing m with
  | nil=>simp only [takeM] at h;injection h with h;subst h;exact h0
  | cons x l ih =>
    simp only [takeM] at h
    cases hs:stepM m x with
    | none=>rw [hs] at h;cases h
    | some k=>rw [hs] at h;exact ih (step_fit f hs) (step_fit2 g f hs) (step_lo f g hs) h
structure IsDep (s:ByteArray) (D:Nat→Nat):Prop where
  zero:D 0=0
  up:∀ i,i<s.size→outS s i=true→(byteAt s i=91∨byteAt s i=123)→D (i+1)=D i+1
  down:∀ i,i<s.size→outS s i=true→(byteAt s i=93∨byteAt s i=125)→D (i+1)=D i-1
  same:∀ i,i<s.size→(outS s i=false∨¬ (byteAt s i=91∨byteAt s i=123∨byteAt s i=93∨byteAt s i=125))→D (i+1)=D i
theorem take_marks {s : ByteArray} {D : Nat → Nat} (hD : IsDep s D) (i : Nat) (hi : i ≤ s.size) {m : Mc} (h : takeM mc0 ((byts s).take i) = some m) :
    escS s i=decide (m.st=7)∧oddG (markS s) i=decide (m.st=6∨m.st=7∨m.st=8)∧D i=m.op.length:=by
  induction i generalizing m with
  | zero =>
    simp only [List.take_zero,takeM] at h;injection h with h;subst h
    exact ⟨rfl,rfl,hD.zero⟩
  | succ i ih =>
    have hx:(byts s)[i]? = some (byteAt s i):=by rw [byts_get s i (by omega),byt_byteAt]
    obtain ⟨q,hq,hs⟩:=take_one h hx
    obtain ⟨i1,i2,i3⟩:=ih (by omega) hq
    have f:=take_fit fit0 hq
    have g:=take_fit2 fit20 fit0 hq
    obtain ⟨t1,t2,t3,t4,t5⟩:=step_tab f (take_lo fit0 fit20 lo0 hq) hs
    have e1:escS s (i+1)=decide (m.st=7):=by
      show (slash s i && !escS s i)=_
      rw [i1]
      show (decide (byteAt s i=92) && !decide (q.st=7))=_
      rw [Bool.eq_iff_iff]
      simp only [Bool.and_eq_true,Bool.not_eq_true',decide_eq_true_eq,decide_eq_false_iff_not]
      exact t1.symm
    have hm:markS s i=decide (byteAt s i=34∧q.st≠7):=by
      show (decide (byteAt s i=34) && !escS s i)=_
      rw [i1,Bool.eq_iff_iff]
      simp only [Bool.and_eq_true,Bool.not_eq_true',decide_eq_true_eq,decide_eq_false_iff_not,ne_eq]
    have e2:oddG (markS s) (i+1)=decide (m.st=6∨m.st=7∨m.st=8):=by
      rw [oddG_succ,i2,hm,Bool.eq_iff_iff,decide_eq_true_eq,t2]
      by_cases a:q.st=6∨q.st=7∨q.st=8
      · by_cases b:byteAt s i=34∧q.st≠7
        · rw [decide_eq_true a,decide_eq_true b];simp;omega
        · rw [decide_eq_true a,decide_eq_false b];simp only [Bool.xor_false,true_iff];exact Or.inl ⟨a,b⟩
      · by_cases b:byteAt s i=34∧q.st≠7
        · rw [decide_eq_false a,decide_eq_true b];simp only [Bool.false_xor,true_iff];exact Or.inr ⟨a,b.1⟩
        · rw [decide_eq_false a,decide_eq_false b];simp only [Bool.xor_false,Bool.false_eq_true,false_iff];omega
    refine ⟨e1,e2,?_⟩
    have ho:outS s i=decide (¬ (byteAt s i=34∧q.st≠7)∧¬ (m.st=6∨m.st=7∨m.st=8)):=by
      unfold outS inS
      rw [decide_eq_true (by omega:i<s.size),e2,hm,Bool.true_and,Bool.eq_iff_iff]
      simp only [Bool.and_eq_true,Bool.not_eq_true',decide_eq_true_eq,decide_eq_false_iff_not]
    by_cases a:q.st=6∨q.st=7∨q.st=8
    · have hb:=t5 (Or.inl a)
      rw [hb,← i3]
      apply hD.same i (by omega)
      by_cases b:byteAt s i=34
      · right;omega
      · left
        rw [ho,decide_eq_false_iff_not]
        have:m.st=6∨m.st=7∨m.st=8:=t2.mpr (Or.inl ⟨a,fun e=>b e.1⟩)
        exact fun e=>e.2 this
    · by_cases b1:byteAt s i=91∨byteAt s i=123
      · have hb:=t3 a b1
        have:¬ (m.st=6∨m.st=7∨m.st=8):=by rw [t2];omega
        rw [hD.up i (by omega) (by rw [ho,decide_eq_true_eq];exact ⟨by omega,this⟩) b1,i3,hb]
      · by_cases b2:byteAt s i=93∨byteAt s i=125
        · have hb:=t4 a b2
          have:¬ (m.st=6∨m.st=7∨m.st=8):=by rw [t2];omega
          rw [hD.down i (by omega) (by rw [ho,decide_eq_true_eq];exact ⟨by omega,this⟩) b2,i3];omega
        · rw [hD.same i (by omega) (Or.inr (by omega)),i3]
          exact (t5 (Or.inr (by omega))).symm
end Go.Proofs.YtjcpamjeekfblaaGreatDoor
/- As many brackets as are open at most: by the machine,and by the text's own marks. -/
namespace Go.Proofs.YtjcpamjeekfblaaGreatDoor
def maxD (D:Nat→Nat):Nat→Nat
  | 0=>D 0
  | n+1=>max (maxD D n) (D (n+1))
theorem maxD_ge (D:Nat→Nat) {i n:Nat} (h:i≤n):D i≤maxD D n:=by
  induction n with
  | zero=>rw [Nat.le_zero.mp h];exact Nat.le_refl _
  | succ n ih =>
    simp only [maxD]
    rcases Nat.lt_or_ge n i with h1 | h1
    · rw [show i=n+1 by omega];omega
    · have:=ih h1;omega
theorem maxD_le (D:Nat→Nat) {n k:Nat} (h:∀ i,i≤n→D i≤k):maxD D n≤k:=by
  induction n with
  | zero=>exact h 0 (Nat.le_refl _)
  | succ n ih =>
    simp only [maxD]
    have h1:=ih (fun i hi=>h i (by omega))
    have h2:=h (n+1) (Nat.le_refl _)
    omega
end Go.Proofs.YtjcpamjeekfblaaGreatDoor
/- What a verdict is,where a value begins and ends;each text has its verdict,each place of a document its answer. -/
namespace Go.Proofs.YtjcpamjeekfblaaGreatDoor
open Go.RowKit Go.Shelf
theorem after_lf4 {m k:Mc} {c:Nat} (h:afterM m c=some k):k.lf=m.lf∧k.op.length≤m.op.length+1:=by
  unfold afterM at h
  repeat' split at h
  all_goals first
    | (cases h;done)
    | (injection h with h;subst h;refine ⟨rfl,?_⟩;simp only [List.length_dropLast];omega)
    | (injection h with h;subst h;exact ⟨rfl,Nat.le_succ _⟩)
theorem value_lf4 {m k:Mc} {c:Nat} (h:valueM m c=some k):k.lf=m.lf∧k.op.length≤m.op.length+1:=by
  unfold valueM at h
  repeat' split at h
  all_goals first
    | (cases h;done)
    | (injection h with h;subst h;refine ⟨rfl,?_⟩;simp only [List.length_append,List.length_singleton];omega)
    | (injection h with h;subst h;exact ⟨rfl,Nat.le_succ _⟩)
theorem char_lf {m k:Mc} {c:Nat} (h:charM m c=some k) (hl:m.lf≤4):k.lf≤4:=by
  unfold charM at h
  repeat' split at h
  all_goals first
    | (cases h;done)
    | (injection h with h;subst h;simp only;omega)
theorem esc_lf {m k:Mc} {c:Nat} (h:escM m c=some k) (hl:m.lf≤4):k.lf≤4:=by
  unfold escM at h
  repeat' split at h
  all_goals first
    | (cases h;done)
    | (injection h with h;subst h;simp only;omega)
theorem num_lf4 {m k:Mc} {c:Nat} (h:numM m c=some k) (hl:m.lf≤4):k.lf≤4∧k.op.length≤m.op.length+1:=by
  unfold numM at h
  repeat' split at h
  all_goals first
    | (cases h;done)
    | (injection h with h;subst h;exact ⟨hl,Nat.le_succ _⟩)
    | (obtain ⟨h1,h2⟩:=after_lf4 h;exact ⟨by omega,h2⟩)
theorem step_lf4 {m k:Mc} {c:Nat} (h:stepM m c=some k) (hl:m.lf≤4):k.lf≤4∧k.op.length≤m.op.length+1:=by
  unfold stepM at h
  by_cases k1:10≤m.st
  · rw [if_pos k1] at h
    exact num_lf4 h hl
  rw [if_neg k1] at h
  by_cases k2:m.st=6
  · rw [if_pos k2] at h
    exact ⟨char_lf h hl,by rw [(char_keeps h).1];omega⟩
  rw [if_neg k2] at h
  by_cases k3:m.st=7∨m.st=8
  · rw [if_pos k3] at h
    exact ⟨esc_lf h hl,by rw [(esc_keeps h).1];omega⟩
  rw [if_neg k3] at h
  by_cases k4:m.st=9
  · rw [if_pos k4] at h
    split at h
    · cases h
    · split at h
      · injection h with h;subst h;exact ⟨hl,Nat.le_succ _⟩
      · cases h
  rw [if_neg k4] at h
  repeat' split at h
  all_goals first
    | (cases h;done)
    | (injection h with h;subst h;refine ⟨hl,?_⟩;simp only [List.length_dropLast];omega)
    | (injection h with h;subst h;exact ⟨hl,Nat.le_succ _⟩)
    | exact ⟨by rw [(value_lf4 h).1];exact hl,(value_lf4 h).2⟩
    | exact ⟨by rw [(after_lf4 h).1];exact hl,(after_lf4 h).2⟩
structure RunOk (n:Nat) (m:Mc):Prop where
  fit:Fit m
  fit2:Fit2 m
  lf:m.lf≤4
  op:m.op.length≤n
theorem RunOk.step {n:Nat} {m k:Mc} {c:Nat} (h:RunOk n m) (hs:stepM m c=some k):RunOk (n+1) k :=
  ⟨step_fit h.fit hs,step_fit2 h.fit2 h.fit hs,(step_lf4 hs h.lf).1,by have:=(step_lf4 hs h.lf).2;have:=h.op;omega⟩
theorem runOk0:RunOk 0 mc0:=⟨fit0,fit20,by decide,by decide⟩
theorem take_ok:∀ (l:List Nat) (n:Nat) (m k:Mc),RunOk n m→takeM m l=some k→RunOk (n+l.length) k:=by
  intro l
  induction l with
  | nil=>intro n m k h e;cases e;exact h
  | cons x l ih =>
    intro n m k h e
    cases hs:stepM m x with
    | none=>simp [takeM,hs] at e
    | some m1 =>
      rw [takeM_cons hs] at e
      have:=ih (n+1) m1 k (h.step hs) e
      rw [List.length_cons]
      rw [show n+(l.length+1)=n+1+l.length by omega]
      exact this
theorem run_at:∀ (l:List Nat) (i:Nat) (m0 m:Mc) (x:Nat),takeM m0 (l.take i)=some m→l[i]? = some x→stepM m x=none→runM m0 l=(i,m):=by
  intro l
  induction l with
  | nil=>intro i m0 m x _ h;simp at h
  | cons y l ih =>
    intro i m0 m x ht hx hs
    cases i with
    | zero =>
      simp at hx
      subst hx
      cases ht
      simp [runM,hs]
    | succ i =>
      rw [List.take_succ_cons] at ht
      cases hy:stepM m0 y with
      | none=>simp [takeM,hy] at ht
      | some m1 =>
        rw [takeM_cons hy] at ht
        have:=ih i m1 m x ht (by simpa using hx) hs
        simp [runM,hy,this]
theorem run_all (l:List Nat) (m0 m:Mc) (h:takeM m0 l=some m):runM m0 l=(l.length,m):=by
  obtain ⟨h1,h2,-⟩:=run_take m0 l
  exact Prod.ext (h1.2 (by rw [h];rfl)) (h2 m h)
theorem take_next {l:List Nat} {i x:Nat} {m0 m k:Mc} (h:takeM m0 (l.take i)=some m) (hx:l[i]? = some x) (hs:stepM m x=some k):takeM m0 (l.take (i+1))=some k:=by
  rw [List.take_add_one,hx,takeM_app,h]
  show takeM m [x]=some k
  rw [takeM_cons hs]
  rfl
theorem run_ok (l:List Nat):RunOk l.length (runM mc0 l).2∧(runM mc0 l).1≤l.length:=by
  have h:=take_ok _ 0 mc0 _ runOk0 (run_parts mc0 l)
  have h2:=(run_take mc0 l).2.2
  refine ⟨⟨h.fit,h.fit2,h.lf,?_⟩,h2⟩
  have:=h.op
  rw [List.length_take] at this
  omega
def IsChk (s:ByteArray) (d:Int) (C A:Nat) (E:Int):Prop :=
  ((d<1∨1024<d)∧C=0∧A=0∧E=2) ∨
  ((1≤d∧d≤1024)∧E=0∧∃ k m,runM mc0 (byts s)=(k,m) ∧
    (((k<s.size∨wholeM m=false)∧C=2∧A=k) ∨
     (k=s.size∧wholeM m=true∧((∃ i,i<s.size∧d<((depS s (i+1):Nat):Int)∧(∀ j,j<i→((depS s (j+1):Nat):Int)≤d)∧C=3∧A=i)∨((∀ j,j<s.size→((depS s (j+1):Nat):Int)≤d)∧C=1∧A=s.size)))))
theorem sizeVer:(Tryz.prog.info? 137).map (·.size)=some 2:=by kernel_rfl
theorem ret_ver {fn : Func} {p u : Tmp} {R : Ending → World → Prop} {a : Act} {w : World} {b : Nat} {x y : Value} (hres : fn.results = #[.cell p 137, .tmp u]) (hp : a.tmps.getD p undef = .pointer (some ⟨b, 0, none⟩))
    (h:At w b #[x,y] 137) (hd:a.defers=[]) (hR:R (.returned (.tuple #[.agg #[x,y],a.tmps.getD u undef])) w):bodyPost Tryz.prog fn R .ret a w:=by
  refine bodyPost_ret (v:=.tuple #[.agg #[x,y],a.tmps.getD u undef]) ?_ hd hR
  have hl:(loadVar 137 ⟨b,0,none⟩).run Tryz.prog w = .ok (.agg #[x,y]) w:=run_loadVar_row (P:=Tryz.prog) w b 137 137 #[x,y] (0,0) _ h Tryz.underlying137 rfl sizeVer
  rw [results_cell_tmp hres,hp]
  simp [asAddr,hl]
theorem At.two_ver {w:World} {b:Nat} {x y x' y':Value} (h:At w b #[x,y] 137):At ((w.setCell ⟨b,0,none⟩ x').setCell ⟨b,1,none⟩ y') b #[x',y'] 137:=by
  have:=(h.set 0 x').set 1 y'
  simpa using this
def ChkP (s:ByteArray) (d:Int) (w:World) (e:Ending) (w':World):Prop:=∃ (C A:Nat) (E:Int),e = .returned (.tuple #[.agg #[.int .i64 (C:Int),.int .i64 (A:Int)],.int .i64 E])∧IsChk s d C A E∧Below w.heap.size w w'
theorem dep_le (s:ByteArray) (i:Nat):depS s i≤i:=by
  induction i with
  | zero=>exact Nat.le_refl _
  | succ i ih =>
    rw [depS_succ]
    unfold stepD
    repeat' split
    all_goals omega
theorem IsChk.uniq {s:ByteArray} {d:Int} {C C' A A':Nat} {E E':Int} (h:IsChk s d C A E) (h':IsChk s d C' A' E'):C=C'∧A=A'∧E=E':=by
  rcases h with ⟨h1,h2,h3,h4⟩ | ⟨h1,h2,k,m,h3,h4⟩ <;> rcases h' with ⟨g1,g2,g3,g4⟩ | ⟨g1,g2,k',m',g3,g4⟩
  · exact ⟨by omega,by omega,by omega⟩
  · exfalso
    obtain ⟨p,q⟩:=g1
    clear g4 g3
    omega
  · exfalso
    obtain ⟨p,q⟩:=h1
    clear h4 h3
    omega
  · rw [h3] at g3
    injection g3 with e1 e2
    subst e1 e2
    refine ⟨?_,?_,by omega⟩ <;>
      (rcases h4 with ⟨a1,a2,a3⟩ | ⟨a1,a2,a3⟩ <;> rcases g4 with ⟨b1,b2,b3⟩ | ⟨b1,b2,b3⟩
       · omega
       · rcases a1 with a1 | a1
         · omega
         · rw [a1] at b2;cases b2
       · rcases b1 with b1 | b1
         · omega
         · rw [b1] at a2;cases a2
       · rcases a3 with ⟨i,c1,c2,c3,c4,c5⟩ | ⟨c1,c2,c3⟩ <;> rcases b3 with ⟨j,d1,d2,d3,d4,d5⟩ | ⟨d1,d2,d3⟩
         · rcases Nat.lt_trichotomy i j with e | e | e
           · have:=d3 i e;omega
           · omega
           · have:=c3 j e;omega
         · have:=d1 i c1;omega
         · have:=c1 j d1;omega
         · omega)
def stopB (x:Nat):Bool:=blankN x || (x == 44 || (x == 93 || x == 125))
def IsSkip (s:ByteArray) (j k:Nat):Prop:=j≤k∧k≤s.size∧(∀ q,j≤q→q<k→blankN (byteAt s q)=true)∧(k=s.size∨blankN (byteAt s k)=false)
theorem skip_ex (s:ByteArray):∀ (n j:Nat),s.size-j≤n→j≤s.size→∃ e,IsSkip s j e:=by
  intro n
  induction n with
  | zero=>intro j h1 h2;exact ⟨j,Nat.le_refl _,h2,fun q _ _=>by omega,.inl (by omega)⟩
  | succ n ih =>
    intro j h1 h2
    by_cases hj:j=s.size
    · exact ⟨j,Nat.le_refl _,h2,fun q _ _=>by omega,.inl hj⟩
    · cases hs:blankN (byteAt s j) with
      | false=>exact ⟨j,Nat.le_refl _,h2,fun q _ _=>by omega,.inr hs⟩
      | true =>
        obtain ⟨e,g1,g2,g3,g4⟩:=ih (j+1) (by omega) (by omega)
        exact ⟨e,by omega,g2,fun q q1 q2=>by
          by_cases e:q=j
          · subst e;exact hs
          · exact g3 q (by omega) q2,g4⟩
theorem isDep (s:ByteArray):IsDep s (depS s):=by
  have hop:∀ x,x=91∨x=123→opB x=true∧clB x=false:=by rintro x (rfl | rfl) <;> decide
  have hcl:∀ x,x=93∨x=125→opB x=false∧clB x=true:=by rintro x (rfl | rfl) <;> decide
  refine ⟨rfl,fun i _ ho hb=>?_,fun i _ ho hb=>?_,fun i _ h=>?_⟩
  · rw [depS_succ]
    unfold brO brC stepD
    rw [ho,(hop _ hb).1]
    rfl
  · rw [depS_succ]
    unfold brO brC stepD
    rw [ho,(hcl _ hb).1,(hcl _ hb).2]
    rfl
  · rw [depS_succ]
    unfold brO brC stepD
    rcases h with h | h
    · rw [h];rfl
    · have h1:opB (byteAt s i)=false:=by unfold opB;simp;omega
      have h2:clB (byteAt s i)=false:=by unfold clB;simp;omega
      rw [h1,h2]
      simp
theorem least_ex {P:Nat→Prop}:∀ n:Nat,(∃ i,i<n∧P i∧∀ j,j<i→¬ P j)∨∀ j,j<n→¬ P j:=by
  intro n
  induction n with
  | zero=>exact .inr (fun j hj=>by omega)
  | succ n ih =>
    rcases ih with ⟨i,h1,h2,h3⟩ | h
    · exact .inl ⟨i,by omega,h2,h3⟩
    · by_cases hn:P n
      · exact .inl ⟨n,by omega,hn,h⟩
      · exact .inr (fun j hj => by
          by_cases e:j=n
          · subst e;exact hn
          · exact h j (by omega))
theorem chk_ex (s:ByteArray) (d:Int):∃ C A E,IsChk s d C A E:=by
  by_cases hd:d<1∨1024<d
  · exact ⟨0,0,2,.inl ⟨hd,rfl,rfl,rfl⟩⟩
  · obtain ⟨k,m,hkm⟩:∃ k m,runM mc0 (byts s)=(k,m):=⟨_,_,rfl⟩
    have hk:k≤s.size:=by have:=(run_ok (byts s)).2;rw [hkm,byts_length] at this;exact this
    have hd':1≤d∧d≤1024:=by omega
    by_cases h1:k<s.size∨wholeM m=false
    · exact ⟨2,k,0,.inr ⟨hd',rfl,k,m,hkm,.inl ⟨h1,rfl,rfl⟩⟩⟩
    · have hw : wholeM m = true := by cases h : wholeM m with
        | true=>rfl
        | false=>exact absurd (.inr h) h1
      have hks:k=s.size:=by
        by_cases h:k<s.size
        · exact absurd (.inl h) h1
        · omega
      rcases least_ex (P:=fun i=>d<((depS s (i+1):Nat):Int)) s.size with ⟨i,g1,g2,g3⟩ | g
      · exact ⟨3,i,0,.inr ⟨hd',rfl,k,m,hkm,.inr ⟨hks,hw,.inl ⟨i,g1,g2,fun j hj=>by have:=g3 j hj;omega,rfl,rfl⟩⟩⟩⟩
      · exact ⟨1,s.size,0,.inr ⟨hd',rfl,k,m,hkm,.inr ⟨hks,hw,.inr ⟨fun j hj=>by have:=g j hj;omega,rfl,rfl⟩⟩⟩⟩
theorem chk_doc {s:ByteArray} {d:Int} {C A:Nat} {E:Int} (h:IsChk s d C A E) (hc:C=1∨C=3):docM (byts s):=by
  rcases h with ⟨_,h2,_⟩ | ⟨_,_,k,m,h3,h4⟩
  · omega
  · rcases h4 with ⟨_,h,_⟩ | ⟨h5,h6,_⟩
    · omega
    · refine ⟨m,?_,h6⟩
      have:=run_parts mc0 (byts s)
      rw [h3] at this
      have e:(byts s).take k=byts s:=by rw [h5,← byts_length,List.take_length]
      rw [← e]
      exact this
end Go.Proofs.YtjcpamjeekfblaaGreatDoor

/- The machine within brackets and the machine alone,step for step,both ways. -/
namespace Go.Proofs.YtjcpamjeekfblaaGreatDoor
end Go.Proofs.YtjcpamjeekfblaaGreatDoor
/- A value within a document,taken by the machine alone. -/
namespace Go.Proofs.YtjcpamjeekfblaaGreatDoor
end Go.Proofs.YtjcpamjeekfblaaGreatDoor
/- The text of each value of a document is a document by itself;what begins in a document is a value,a sign or a name. -/
namespace Go.Proofs.YtjcpamjeekfblaaGreatDoor
open Go.RowKit Go.Shelf
theorem mark_quote {s:ByteArray} {a:Nat} (h:markS s a=true):byteAt s a=34:=by
 unfold markS at h
 rw [Bool.and_eq_true] at h
 have h1:=h.1
 unfold quoB at h1
 exact of_decide_eq_true h1
theorem mark_not {s:ByteArray} {a:Nat} (h:byteAt s a≠34):markS s a=false:=by
 cases hm:markS s a with
 | false=>rfl
 | true=>exact absurd (mark_quote hm) h
theorem sgn_iff (s:ByteArray) (i:Nat):sgnB s i=true ↔ (byteAt s i=123∨byteAt s i=125∨byteAt s i=91∨byteAt s i=93∨byteAt s i=58∨byteAt s i=44):=by
 unfold sgnB
 simp only [Bool.or_eq_true,beq_iff_eq]
 omega
end Go.Proofs.YtjcpamjeekfblaaGreatDoor
/- The text of each value of a document is a document by itself. -/
namespace Go.Proofs.YtjcpamjeekfblaaGreatDoor
open Go.RowKit Go.Shelf
end Go.Proofs.YtjcpamjeekfblaaGreatDoor

/- How far a text can be a document's beginning,place by place: blanks,words,numbers,texts between quotes (mathematics alone). -/
namespace Go.Proofs.YtjcpamjeekfblaaGreatDoor
open Go.RowKit Go.Shelf
theorem get_at (s:ByteArray) (i:Nat) (h:i<s.size):(byts s)[i]? = some (byteAt s i):=by rw [byts_get s i h,byt_byteAt]
theorem byteAt_out (s:ByteArray) (i:Nat) (h:s.size≤i):byteAt s i=0:=by
 unfold byteAt
 have:s.data[i]? = none:=Array.getElem?_eq_none (show s.data.size≤i from h)
 rw [this]
 rfl
theorem byteAt_in {s:ByteArray} {i:Nat} (h:byteAt s i≠0):i<s.size:=by
 rcases Nat.lt_or_ge i s.size with h1 | h1
 ·exact h1
 ·exact absurd (byteAt_out s i h1) h
theorem lk_byteAt (s:ByteArray) (i:Nat):lk s i=byteAt s i:=by
 by_cases h:i<s.size
 ·rw [lk_at s i h]
  unfold byteAt
  have:s.data[i]? = some (s.data[i]'h):=Array.getElem?_eq_getElem h
  rw [this]
  rfl
 ·rw [lk_out s i (by omega),byteAt_out s i (by omega)]
def Tk (s:ByteArray) (i:Nat) (m:Mc):Prop:=i≤s.size∧takeM mc0 ((byts s).take i)=some m
def BadAt (s:ByteArray) (k:Nat):Prop:=k≤s.size∧∃ m,runM mc0 (byts s)=(k,m)∧(k<s.size∨wholeM m=false)
theorem tk0 (s:ByteArray):Tk s 0 mc0:=⟨Nat.zero_le _,rfl⟩
theorem Tk.next {s:ByteArray} {i:Nat} {m k:Mc} (h:Tk s i m) (hi:i<s.size) (hs:stepM m (byteAt s i)=some k):Tk s (i+1) k :=
 ⟨hi,take_next h.2 (get_at s i hi) hs⟩
theorem Tk.bad {s:ByteArray} {i:Nat} {m:Mc} (h:Tk s i m) (hi:i<s.size) (hs:stepM m (byteAt s i)=none):BadAt s i :=
 ⟨h.1,m,run_at _ i mc0 m _ h.2 (get_at s i hi) hs,.inl hi⟩
theorem Tk.all {s:ByteArray} {m:Mc} (h:Tk s s.size m):runM mc0 (byts s)=(s.size,m):=by
 have:=run_all (byts s) mc0 m (by have:=h.2;rwa [byts_whole] at this)
 rwa [byts_length] at this
theorem Tk.fail {s:ByteArray} {i:Nat} {m:Mc} (h:Tk s i m) (hw:wholeM m=false) (hs:stepM m (byteAt s i)=none):BadAt s i:=by
 by_cases hi:i<s.size
 ·exact h.bad hi hs
 ·obtain rfl:i=s.size:=by have:=h.1;omega
  exact ⟨h.1,m,h.all,.inr hw⟩
theorem Tk.fit {s:ByteArray} {i:Nat} {m:Mc} (h:Tk s i m):Fit m:=take_fit fit0 h.2
theorem Tk.fit2 {s:ByteArray} {i:Nat} {m:Mc} (h:Tk s i m):Fit2 m:=take_fit2 fit20 fit0 h.2
theorem Tk.lo {s:ByteArray} {i:Nat} {m:Mc} (h:Tk s i m):LoM m:=take_lo fit0 fit20 lo0 h.2
theorem Tk.uniq {s:ByteArray} {i:Nat} {m k:Mc} (h:Tk s i m) (h':Tk s i k):m=k:=by have:=h.2;rw [h'.2] at this;injection this with e;exact e.symm
theorem Tk.len {s:ByteArray} {i:Nat} {m:Mc} (h:Tk s i m):m.op.length≤i:=by
 have:=(take_ok _ 0 mc0 _ runOk0 h.2).op
 rw [List.length_take] at this
 omega
theorem Tk.dep {s:ByteArray} {i:Nat} {m:Mc} (h:Tk s i m):depS s i=m.op.length:=(take_marks (isDep s) i h.1 h.2).2.2
def Fl (s:ByteArray) (i j L:Nat):Prop:=∀ p,i≤p→p<j→depS s (p+1)≤L
theorem Fl.nil (s:ByteArray) (i L:Nat):Fl s i i L:=fun p a b=>by omega
theorem Fl.trans {s:ByteArray} {i j k L:Nat} (h:Fl s i j L) (h':Fl s j k L):Fl s i k L:=fun p a b=>by
 by_cases e:p<j
 ·exact h p a e
 ·exact h' p (by omega) b
theorem Fl.snoc {s:ByteArray} {i j L:Nat} {k:Mc} (h:Fl s i j L) (t:Tk s (j+1) k) (hk:k.op.length≤L):Fl s i (j+1) L:=fun p a b=>by
 by_cases e:p=j
 ·subst e;rw [t.dep];exact hk
 ·exact h p a (by omega)
theorem Fl.one {s:ByteArray} {i L:Nat} {k:Mc} (t:Tk s (i+1) k) (hk:k.op.length≤L):Fl s i (i+1) L:=(Fl.nil s i L).snoc t hk
theorem Tk.pre {s:ByteArray} {j p:Nat} {k:Mc} (t:Tk s j k) (hp:p≤j):∃ k',Tk s p k':=by
 have h:=t.2
 have e:(byts s).take j=(byts s).take p++((byts s).drop p).take (j-p):=by
  rw [← List.take_add]
  congr 1
  omega
 rw [e,takeM_app] at h
 cases h2:takeM mc0 ((byts s).take p) with
 | none=>rw [h2] at h;cases h
 | some k'=>exact ⟨k',by have:=t.1;omega,h2⟩
def Sq (P:Nat→Prop) (s:ByteArray) (i j:Nat):Prop:=∀ p k,i<p→p≤j→Tk s p k→P k.st
theorem Sq.nil (P:Nat→Prop) (s:ByteArray) (i:Nat):Sq P s i i:=fun p k a b=>by omega
theorem Sq.trans {P:Nat→Prop} {s:ByteArray} {i j k:Nat} (h:Sq P s i j) (h':Sq P s j k):Sq P s i k:=fun p m a b t=>by
 by_cases e:p≤j
 ·exact h p m a e t
 ·exact h' p m (by omega) b t
theorem Sq.snoc {P:Nat→Prop} {s:ByteArray} {i j:Nat} {k:Mc} (h:Sq P s i j) (t:Tk s (j+1) k) (hk:P k.st):Sq P s i (j+1):=fun p m a b t'=>by
 by_cases e:p=j+1
 ·subst e;rw [t'.uniq t];exact hk
 ·exact h p m a (by omega) t'
theorem Sq.one {P:Nat→Prop} {s:ByteArray} {i:Nat} {k:Mc} (t:Tk s (i+1) k) (hk:P k.st):Sq P s i (i+1):=(Sq.nil P s i).snoc t hk
def T6 (x:Nat):Prop:=x=6∨x=7∨x=8
theorem whole_not {m:Mc} (h:m.st≠5) (h1:m.st≠11) (h2:m.st≠12) (h3:m.st≠14) (h4:m.st≠17):wholeM m=false:=by
 unfold wholeM
 rw [decide_eq_false (by omega),Bool.and_false]
theorem whole_open {m:Mc} (h:m.op≠[]):wholeM m=false:=by
 unfold wholeM
 cases e:m.op with
 | nil=>exact absurd e h
 | cons a l=>rfl
def Bh (m:Mc):Prop:=m.st=5∨m.st=11∨m.st=12∨m.st=14∨m.st=17
def Bhd (s:ByteArray) (i:Nat) (m:Mc):Prop:=Bh m∧stepM m (byteAt s i)=afterM m (byteAt s i)
theorem step_blank {m:Mc} {c:Nat} (h:m.st≤5) (hc:blankN c=true):stepM m c=some m:=by
 unfold stepM
 rw [if_neg (by omega),if_neg (by omega),if_neg (by omega),if_neg (by omega),if_pos hc]
theorem step_five {m:Mc} {c:Nat} (h:m.st=5):stepM m c=afterM m c:=by
 by_cases hc:blankN c=true
 ·rw [step_blank (by omega) hc]
  unfold afterM
  rw [if_pos hc]
  cases m
  simp at h
  rw [h]
 ·unfold stepM
  rw [if_neg (by omega),if_neg (by omega),if_neg (by omega),if_neg (by omega),if_neg hc,if_pos h]
theorem bhd_five {s:ByteArray} {i:Nat} {m:Mc} (h:m.st=5):Bhd s i m:=⟨.inl h,step_five h⟩
theorem Tk.skip {s:ByteArray} {j k:Nat} {m:Mc} (h:Tk s j m) (hm:m.st≤5) (hs:IsSkip s j k):Tk s k m∧Fl s j k m.op.length:=by
 obtain ⟨h1,h2,h3,-⟩:=hs
 obtain ⟨n,rfl⟩:∃ n,k=j+n:=⟨k-j,by omega⟩
 clear h1
 induction n with
 | zero=>exact ⟨h,Fl.nil _ _ _⟩
 | succ n ih =>
  have:=ih (by omega) (fun q a b=>h3 q a (by omega))
  have t:=Tk.next this.1 (by omega) (step_blank hm (h3 _ (by omega) (by omega)))
  exact ⟨t,this.2.snoc t (Nat.le_refl _)⟩
theorem Tk.skipB {s:ByteArray} {j k:Nat} {m:Mc} (h:Tk s j m) (hm:Bhd s j m) (hs:IsSkip s j k):∃ m',Tk s k m'∧Bhd s k m'∧m'.op=m.op∧Fl s j k m.op.length:=by
 by_cases he:j=k
 ·subst he
  exact ⟨m,h,hm,rfl,Fl.nil _ _ _⟩
 ·obtain ⟨h1,h2,h3,h4⟩:=hs
  have hb:=h3 j (Nat.le_refl _) (by omega)
  have e:stepM m (byteAt s j)=some { m with st:=5 }:=by
   rw [hm.2]
   unfold afterM
   rw [if_pos hb]
  have t:=h.next (by omega) e
  have t2:=t.skip (k:=k) (Nat.le_refl 5) ⟨by omega,h2,fun q a b=>h3 q (by omega) b,h4⟩
  exact ⟨_,t2.1,bhd_five rfl,rfl,(Fl.one t (Nat.le_refl _)).trans t2.2⟩
def Vw (s:ByteArray) (i:Nat) (m:Mc):Prop:=m.st=0∨(m.st=1∧byteAt s i≠93∧blankN (byteAt s i)=false)
theorem step_value {s:ByteArray} {i:Nat} {m:Mc} (h:Vw s i m) (hb:blankN (byteAt s i)=false):stepM m (byteAt s i)=valueM m (byteAt s i):=by
 unfold stepM
 rcases h with h | ⟨h,h1,-⟩
 ·rw [if_neg (by omega),if_neg (by omega),if_neg (by omega),if_neg (by omega),if_neg (by rw [hb];decide),if_neg (by omega),if_neg (by omega),if_pos h]
 ·rw [if_neg (by omega),if_neg (by omega),if_neg (by omega),if_neg (by omega),if_neg (by rw [hb];decide),if_neg (by omega),if_neg (by omega),if_neg (by omega),if_neg (by omega),if_pos h]
theorem Vw.whole {s:ByteArray} {i:Nat} {m:Mc} (h:Vw s i m):wholeM m=false:=by
 rcases h with h | ⟨h,-⟩ <;> exact whole_not (by omega) (by omega) (by omega) (by omega) (by omega)
theorem Vw.skip {s:ByteArray} {i k:Nat} {m:Mc} (h:Vw s i m) (hs:IsSkip s i k):Vw s k m:=by
 rcases h with h | ⟨h,h1,h2⟩
 ·exact .inl h
 ·obtain ⟨a,b,c,d⟩:=hs
  have:i=k:=by
   rcases Nat.lt_or_ge i k with x | x
   ·rw [c i (Nat.le_refl _) x] at h2;cases h2
   ·omega
  subst this
  exact .inr ⟨h,h1,h2⟩
def Qw (s:ByteArray) (i:Nat) (nm:Bool) (m:Mc):Prop:=wholeM m=false∧stepM m 34=some { m with nm:=nm,st:=6 }∧m.lf=0∧(byteAt s i≠34→stepM m (byteAt s i)=none)
theorem qw_value {s:ByteArray} {i:Nat} {m:Mc} (t:Tk s i m) (h:Vw s i m) (hc:byteAt s i=34):Qw s i false m:=by
 have hb:blankN (byteAt s i)=false:=by rw [hc];decide
 have e:=step_value h hb
 rw [hc] at e
 refine ⟨h.whole,?_,t.fit.lf (by rcases h with h | ⟨h,-⟩ <;> omega) (by rcases h with h | ⟨h,-⟩ <;> omega),fun x=>absurd hc x⟩
 rw [e]
 unfold valueM
 rw [if_neg (by decide),if_neg (by decide),if_pos rfl]
theorem qw_name {s:ByteArray} {i:Nat} {m:Mc} (t:Tk s i m) (h:m.st=3∨(m.st=2∧byteAt s i≠125)) (hb:blankN (byteAt s i)=false):Qw s i true m:=by
 have key:∀ c,blankN c=false→(m.st=3∨(m.st=2∧c≠125))→stepM m c=if c=34 then some { m with nm:=true,st:=6 } else none:=by
  intro c hc h
  unfold stepM
  rw [if_neg (by omega),if_neg (by omega),if_neg (by omega),if_neg (by omega),if_neg (by rw [hc];decide),if_neg (by omega),if_neg (by omega),if_neg (by omega),if_neg (by omega),if_neg (by omega)]
 refine ⟨whole_not (by omega) (by omega) (by omega) (by omega) (by omega),?_,t.fit.lf (by omega) (by omega),fun hc=>?_⟩
 ·rw [key 34 (by decide) (by omega),if_pos rfl]
 ·rw [key _ hb h,if_neg hc]
structure InT (nm:Bool) (op:List Nat) (m:Mc):Prop where
 st:m.st=6
 lf:m.lf=0
 nm:m.nm=nm
 op:m.op=op
theorem Qw.go {s:ByteArray} {i:Nat} {nm:Bool} {m:Mc} (t:Tk s i m) (h:Qw s i nm m) (hc:byteAt s i=34):∃ k,Tk s (i+1) k∧InT nm m.op k:=by
 have e:=h.2.1
 rw [← hc] at e
 exact ⟨_,t.next (byteAt_in (by omega)) e,rfl,h.2.2.1,rfl,rfl⟩
theorem Qw.off {s:ByteArray} {i:Nat} {nm:Bool} {m:Mc} (t:Tk s i m) (h:Qw s i nm m) (hc:byteAt s i≠34):BadAt s i:=t.fail h.1 (h.2.2.2 hc)
theorem step_text {m:Mc} {c:Nat} (h:m.st=6):stepM m c=charM m c:=by unfold stepM;rw [if_neg (by omega),if_pos h]
theorem step_esc {m:Mc} {c:Nat} (h:m.st=7∨m.st=8):stepM m c=escM m c:=by unfold stepM;rw [if_neg (by omega),if_neg (by omega),if_pos h]
theorem InT.whole {nm:Bool} {op:List Nat} {m:Mc} (h:InT nm op m):wholeM m=false:=by
 have:=h.st
 exact whole_not (by omega) (by omega) (by omega) (by omega) (by omega)
theorem InT.done {s:ByteArray} {i:Nat} {nm:Bool} {op:List Nat} {m:Mc} (t:Tk s i m) (h:InT nm op m) (hc:byteAt s i=34):∃ k,Tk s (i+1) k∧k.op=op∧k.st=if nm then 4 else 5:=by
 have e:stepM m (byteAt s i)=some { m with st:=if nm then 4 else 5,lo:=128,hi:=191 }:=by
  rw [step_text h.st,hc]
  unfold charM
  rw [if_neg (by have:=h.lf;omega),h.nm]
  cases nm <;> simp
 exact ⟨_,t.next (byteAt_in (by omega)) e,h.op,rfl⟩
theorem InT.off {s:ByteArray} {i:Nat} {nm:Bool} {op:List Nat} {m:Mc} (t:Tk s i m) (h:InT nm op m) (hc:byteAt s i<32):BadAt s i:=by
 refine t.fail h.whole ?_
 rw [step_text h.st]
 unfold charM
 rw [if_neg (by have:=h.lf;omega),if_neg (by omega),if_neg (by omega),if_neg (by omega),if_neg (by omega),if_neg (by omega),if_neg (by omega),if_neg (by omega)]
structure InE (nm:Bool) (op:List Nat) (m:Mc):Prop where
 st:m.st=7
 lf:m.lf=0
 nm:m.nm=nm
 op:m.op=op
theorem InT.slash {s:ByteArray} {i:Nat} {nm:Bool} {op:List Nat} {m:Mc} (t:Tk s i m) (h:InT nm op m) (hc:byteAt s i=92):∃ k,Tk s (i+1) k∧InE nm op k:=by
 have e:stepM m (byteAt s i)=some { m with st:=7,lo:=128,hi:=191 }:=by
  rw [step_text h.st,hc]
  unfold charM
  rw [if_neg (by have:=h.lf;omega),if_neg (by omega),if_neg (by omega),if_pos rfl]
 exact ⟨_,t.next (byteAt_in (by omega)) e,rfl,h.lf,h.nm,h.op⟩
def escB (c:Nat):Bool:=decide (c=34∨c=92∨c=47∨c=98∨c=102∨c=110∨c=114∨c=116)
theorem InE.go {s:ByteArray} {i:Nat} {nm:Bool} {op:List Nat} {m:Mc} (t:Tk s i m) (h:InE nm op m) (hc:escB (byteAt s i)=true):∃ k,Tk s (i+1) k∧InT nm op k:=by
 have hc':=of_decide_eq_true hc
 have e:stepM m (byteAt s i)=some { m with st:=6 }:=by
  rw [step_esc (.inl h.st)]
  unfold escM
  rw [if_neg (by have:=h.st;omega),if_pos hc']
 exact ⟨_,t.next (byteAt_in (by omega)) e,rfl,h.lf,h.nm,h.op⟩
theorem InE.off {s:ByteArray} {i:Nat} {nm:Bool} {op:List Nat} {m:Mc} (t:Tk s i m) (h:InE nm op m) (hc:escB (byteAt s i)=false) (hu:byteAt s i≠117):BadAt s i:=by
 have hc':=of_decide_eq_false hc
 have:=h.st
 refine t.fail (whole_not (by omega) (by omega) (by omega) (by omega) (by omega)) ?_
 rw [step_esc (.inl h.st)]
 unfold escM
 rw [if_neg (by omega),if_neg hc',if_neg hu]
structure InH (nm:Bool) (op:List Nat) (n:Nat) (m:Mc):Prop where
 st:m.st=if n=0 then 6 else 8
 lf:m.lf=n
 nm:m.nm=nm
 op:m.op=op
theorem InE.hex {s:ByteArray} {i:Nat} {nm:Bool} {op:List Nat} {m:Mc} (t:Tk s i m) (h:InE nm op m) (hc:byteAt s i=117):∃ k,Tk s (i+1) k∧InH nm op 4 k:=by
 have e:stepM m (byteAt s i)=some { m with st:=8,lf:=4 }:=by
  rw [step_esc (.inl h.st),hc]
  unfold escM
  rw [if_neg (by have:=h.st;omega),if_neg (by omega),if_pos rfl]
 exact ⟨_,t.next (byteAt_in (by omega)) e,rfl,rfl,h.nm,h.op⟩
theorem InH.go {s:ByteArray} {i n:Nat} {nm:Bool} {op:List Nat} {m:Mc} (t:Tk s i m) (h:InH nm op (n+1) m) (hc:hexN (byteAt s i)=true):∃ k,Tk s (i+1) k∧InH nm op n k:=by
 have hst:m.st=8:=by have:=h.st;simpa using this
 have e:stepM m (byteAt s i)=some { m with lf:=m.lf-1,st:=if m.lf=1 then 6 else 8 }:=by
  rw [step_esc (.inr hst)]
  unfold escM
  rw [if_pos hst,if_pos hc]
 have hlf:=h.lf
 refine ⟨_,t.next (byteAt_in (fun x=>by rw [x] at hc;revert hc;decide)) e,?_,?_,h.nm,h.op⟩
 ·show (if m.lf=1 then 6 else 8)=_
  rw [hlf]
  by_cases hn:n=0
  ·subst hn;rfl
  ·rw [if_neg (by omega),if_neg hn]
 ·show m.lf-1=n
  omega
theorem InH.off {s:ByteArray} {i n:Nat} {nm:Bool} {op:List Nat} {m:Mc} (t:Tk s i m) (h:InH nm op (n+1) m) (hc:hexN (byteAt s i)=false):BadAt s i:=by
 have hst:m.st=8:=by have:=h.st;simpa using this
 refine t.fail (whole_not (by omega) (by omega) (by omega) (by omega) (by omega)) ?_
 rw [step_esc (.inr hst)]
 unfold escM
 rw [if_pos hst,if_neg (by rw [hc];decide)]
theorem InH.t6 {nm:Bool} {op:List Nat} {n:Nat} {m:Mc} (h:InH nm op n m):T6 m.st:=by
 rw [h.st]
 split
 ·exact .inl rfl
 ·exact .inr (.inr rfl)
theorem InH.done {nm:Bool} {op:List Nat} {m:Mc} (h:InH nm op 0 m):InT nm op m:=⟨h.st,h.lf,h.nm,h.op⟩
def plnB (c:Nat):Bool:=decide (32≤c∧c≠34∧c≠92)
def IsPlain (s:ByteArray) (j n:Nat):Prop:=j+n≤s.size∧(∀ q,q<n→plnB (byteAt s (j+q))=true)∧(j+n=s.size∨plnB (byteAt s (j+n))=false)
theorem plain_stepQ {m:Mc} {q:Q5} {c:Nat} (hst:m.st=6) (hl:q.left=m.lf) (hb:0<m.lf→q.lo=m.lo∧q.hi=m.hi) (hc:plnB c=true) :
  (stp q c=none∧stepM m c=none)∨(∃ q' k,stp q c=some q'∧stepM m c=some k∧k.st=6∧k.nm=m.nm∧k.op=m.op∧q'.left=k.lf∧(0<k.lf→q'.lo=k.lo∧q'.hi=k.hi)):=by
 have hc':=of_decide_eq_true hc
 rw [step_text hst]
 unfold stp charM
 by_cases h0:q.left=0
 ·rw [if_pos h0,if_neg (by omega),if_neg (by omega),if_neg (by omega),if_neg (by omega)]
  unfold begQ
  by_cases c1:c<128
  ·right
   refine ⟨q,{ m with lo:=128,hi:=191 },?_,?_,hst,rfl,rfl,hl,fun h=>?_⟩
   ·rw [if_neg (by omega),if_neg (by omega),if_neg (by omega),if_neg (by omega),if_neg (by omega)]
   ·rw [if_pos (by omega)]
   ·have:0<m.lf:=h
    omega
  rw [if_neg (show ¬ (32≤c∧c<128) by omega)]
  by_cases c2:c<194
  ·left
   refine ⟨?_,?_⟩
   ·rw [if_neg (by omega),if_neg (by omega),if_neg (by omega),if_neg (by omega),if_pos (by omega)]
   ·rw [if_neg (by omega),if_neg (by omega),if_neg (by omega)]
  by_cases c3:c<224
  ·right
   refine ⟨⟨1,secLo c,secHi c⟩,{ m with lf:=1,lo:=128,hi:=191 },?_,?_,hst,rfl,rfl,rfl,fun h=>?_⟩
   ·rw [if_neg (by omega),if_neg (by omega),if_neg (by omega),if_pos (by omega)]
   ·rw [if_pos (by omega)]
   ·show secLo c=128∧secHi c=191
    unfold secLo secHi
    rw [if_neg (by omega),if_neg (by omega),if_neg (by omega),if_neg (by omega)]
    exact ⟨rfl,rfl⟩
  rw [if_neg (show ¬ (194≤c∧c<224) by omega)]
  by_cases c4:c<240
  ·right
   refine ⟨⟨2,secLo c,secHi c⟩,{ m with lf:=2,lo:=lowB c,hi:=highB c },?_,?_,hst,rfl,rfl,rfl,fun h=>⟨rfl,rfl⟩⟩
   ·rw [if_neg (by omega),if_neg (by omega),if_pos (by omega)]
   ·rw [if_pos (by omega)]
  rw [if_neg (show ¬ (224≤c∧c<240) by omega)]
  by_cases c5:c<245
  ·right
   refine ⟨⟨3,secLo c,secHi c⟩,{ m with lf:=3,lo:=lowB c,hi:=highB c },?_,?_,hst,rfl,rfl,rfl,fun h=>⟨rfl,rfl⟩⟩
   ·rw [if_neg (by omega),if_pos (by omega)]
   ·rw [if_pos (by omega)]
  ·left
   refine ⟨?_,?_⟩
   ·rw [if_pos (by omega)]
   ·rw [if_neg (by omega)]
 ·obtain ⟨b1,b2⟩:=hb (by omega)
  rw [if_neg h0,if_pos (show 0<m.lf by omega),b1,b2]
  by_cases h1:c<m.lo∨m.hi<c
  ·left
   rw [if_pos h1,if_pos h1]
   exact ⟨rfl,rfl⟩
  ·right
   rw [if_neg h1,if_neg h1]
   exact ⟨_,_,rfl,rfl,hst,rfl,rfl,by show q.left-1=m.lf-1;omega,fun _=>⟨rfl,rfl⟩⟩
theorem plain_run {s:ByteArray} {i n:Nat} {nm:Bool} {op:List Nat} {m:Mc} (t:Tk s i m) (h:InT nm op m) (hp:IsPlain s i n) (k:Nat) (hk:k≤n) :
  (∃ g q,g<k∧runS s5 (((byts s).drop i).take k)=⟨g,true,q⟩∧BadAt s (i+g)) ∨
  (∃ q m',runS s5 (((byts s).drop i).take k)=⟨k,false,q⟩∧Tk s (i+k) m'∧m'.st=6∧m'.nm=nm∧m'.op=op∧q.left=m'.lf∧(0<m'.lf→q.lo=m'.lo∧q.hi=m'.hi)∧Fl s i (i+k) op.length∧Sq T6 s i (i+k)):=by
 obtain ⟨p1,p2,p3⟩:=hp
 induction k with
 | zero=>exact .inr ⟨_,m,rfl,t,h.st,h.nm,h.op,h.lf.symm,fun x=>by have:=h.lf;omega,Fl.nil _ _ _,Sq.nil _ _ _⟩
 | succ k ih =>
  have hx:((byts s).drop i)[k]? = some (byteAt s (i+k)):=by rw [List.getElem?_drop];exact get_at s (i+k) (by omega)
  have e1:((byts s).drop i).take (k+1)=((byts s).drop i).take k++[byteAt s (i+k)]:=by rw [List.take_add_one,hx];rfl
  rw [e1,runS_snoc]
  rcases ih (by omega) with ⟨g,q,a,b,c⟩ | ⟨q,m',a,b,c1,c2,c3,c4,c5,c6,c7⟩
  ·left
   exact ⟨g,q,by omega,by rw [b];exact tk_wrong rfl _,c⟩
  ·rw [a]
   rcases plain_stepQ c1 c4 c5 (p2 k (by omega)) with ⟨d1,d2⟩ | ⟨q',k',d1,d2,d3,d4,d5,d6,d7⟩
   ·left
    refine ⟨k,q,by omega,tk_none rfl d1,?_⟩
    exact b.bad (by omega) d2
   ·right
    have tt:=b.next (by omega) d2
    exact ⟨q',k',tk_some rfl d1,tt,d3,by rw [d4,c2],by rw [d5,c3],d6,d7,c6.snoc tt (by rw [d5,c3];exact Nat.le_refl _),c7.snoc tt (.inl d3)⟩
theorem plain_bad {s:ByteArray} {i n:Nat} {nm:Bool} {op:List Nat} {m:Mc} (t:Tk s i m) (h:InT nm op m) (hp:IsPlain s i n) {z:ByteArray} (hz:byts z=((byts s).drop i).take n) :
  (∃ g:Nat,g≤n∧badOf z=(g:Int)∧BadAt s (i+g))∨(badOf z = -1∧∃ m',Tk s (i+n) m'∧InT nm op m'∧(Fl s i (i+n) op.length∧Sq T6 s i (i+n))∧(byteAt s (i+n)=34∨byteAt s (i+n)=92∨byteAt s (i+n)<32)):=by
 have hend:byteAt s (i+n)=34∨byteAt s (i+n)=92∨byteAt s (i+n)<32:=by
  rcases hp.2.2 with e | e
  ·right;right
   rw [byteAt_out s _ (by omega)]
   decide
  ·have:=of_decide_eq_false e
   omega
 unfold badOf
 rw [hz]
 rcases plain_run t h hp n (Nat.le_refl _) with ⟨g,q,a,b,c⟩ | ⟨q,m',a,b,c1,c2,c3,c4,c5,c6,c7⟩
 ·left
  refine ⟨g,by omega,?_,c⟩
  rw [b]
  unfold badI
  rw [if_pos (.inl rfl)]
 ·rw [a]
  by_cases h0:m'.lf=0
  ·right
   refine ⟨?_,m',b,⟨c1,h0,c2,c3⟩,⟨c6,c7⟩,hend⟩
   unfold badI
   rw [if_neg]
   rintro (x | x)
   ·cases x
   ·have:0<q.left:=x
    omega
  ·left
   refine ⟨n,Nat.le_refl _,?_,?_⟩
   ·unfold badI
    rw [if_pos (.inr (show 0<q.left by omega))]
   ·refine b.fail (whole_not (by omega) (by omega) (by omega) (by omega) (by omega)) ?_
    rw [step_text c1]
    unfold charM
    have:=b.lo c1 (by omega)
    rw [if_pos (by omega),if_pos (by omega)]
end Go.Proofs.YtjcpamjeekfblaaGreatDoor
/- How far a text can be a document's beginning: words,numbers,brackets,commas;how deep it is (mathematics alone). -/
namespace Go.Proofs.YtjcpamjeekfblaaGreatDoor
open Go.RowKit Go.Shelf
def IsWord (u:List Nat):Prop:=u=[110,117,108,108]∨u=[116,114,117,101]∨u=[102,97,108,115,101]
def InW (u:List Nat) (j:Nat) (m0 m:Mc):Prop:=(j=0∧m=m0)∨(0<j∧m.op=m0.op∧(j<u.length→m.st=9∧m.wd=u.drop j)∧(j=u.length→m.st=5))
theorem word_value {u:List Nat} (hu:IsWord u) (m:Mc):∃ x l,u=x :: l∧x≠0∧l≠[]∧blankN x=false∧x≠93∧valueM m x=some { m with nm:=false,st:=9,wd:=l }:=by
 rcases hu with rfl | rfl | rfl
 ·exact ⟨110,[117,108,108],rfl,by decide,by decide,by decide,by decide,by simp [valueM,digN]⟩
 ·exact ⟨116,[114,117,101],rfl,by decide,by decide,by decide,by decide,by simp [valueM,digN]⟩
 ·exact ⟨102,[97,108,115,101],rfl,by decide,by decide,by decide,by decide,by simp [valueM,digN]⟩
theorem InW.go {s:ByteArray} {i j:Nat} {u:List Nat} {m0 m:Mc} (hu:IsWord u) (hv:Vw s i m0) (h:InW u j m0 m) (t:Tk s (i+j) m) (hj:j<u.length) (hc:byteAt s (i+j)=u.getD j 0):∃ k,Tk s (i+(j+1)) k∧InW u (j+1) m0 k:=by
 rcases h with ⟨rfl,rfl⟩ | ⟨h0,h1,h2,h3⟩
 ·obtain ⟨x,l,e1,e2,e3,e4,e5,e6⟩:=word_value hu m
  rw [e1] at hc
  have hc':byteAt s i=x:=hc
  have st:=step_value hv (by rw [hc'];exact e4)
  rw [hc',e6,← hc'] at st
  refine ⟨_,t.next (byteAt_in (show byteAt s i≠0 by omega)) st,.inr ⟨by omega,rfl,fun _=>⟨rfl,by rw [e1];rfl⟩,fun e=>?_⟩⟩
  rw [e1] at e
  exact absurd (List.eq_nil_of_length_eq_zero (by simpa using e.symm)) e3
 ·obtain ⟨g1,g2⟩:=h2 hj
  have hd:u.drop j=u.getD j 0 :: u.drop (j+1):=by
   rw [List.drop_eq_getElem_cons hj,List.getD_eq_getElem?_getD,List.getElem?_eq_getElem hj];rfl
  have e:stepM m (byteAt s (i+j))=some { m with wd:=u.drop (j+1),st:=if u.drop (j+1)=[] then 5 else 9 }:=by
   unfold stepM
   rw [if_neg (by omega),if_neg (by omega),if_neg (by omega),if_pos g1,g2,hd,hc]
   simp only [if_true]
  have hne:byteAt s (i+j)≠0:=by
   rw [hc]
   rcases hu with rfl | rfl | rfl
   ·have:j=0∨j=1∨j=2∨j=3:=by simp at hj;omega
    rcases this with rfl | rfl | rfl | rfl <;> decide
   ·have:j=0∨j=1∨j=2∨j=3:=by simp at hj;omega
    rcases this with rfl | rfl | rfl | rfl <;> decide
   ·have:j=0∨j=1∨j=2∨j=3∨j=4:=by simp at hj;omega
    rcases this with rfl | rfl | rfl | rfl | rfl <;> decide
  refine ⟨_,t.next (byteAt_in hne) e,.inr ⟨by omega,h1,fun x=>⟨?_,rfl⟩,fun x=>?_⟩⟩
  ·show (if u.drop (j+1)=[] then 5 else 9)=9
   rw [if_neg]
   intro y
   have:=List.drop_eq_nil_iff.mp y
   omega
  ·show (if u.drop (j+1)=[] then 5 else 9)=5
   rw [if_pos (List.drop_eq_nil_iff.mpr (by omega))]
theorem InW.off {s:ByteArray} {i j:Nat} {u:List Nat} {m0 m:Mc} (hj0:0<j) (h:InW u j m0 m) (t:Tk s (i+j) m) (hj:j<u.length) (hc:byteAt s (i+j)≠u.getD j 0):BadAt s (i+j):=by
 rcases h with ⟨rfl,rfl⟩ | ⟨h0,h1,h2,h3⟩
 ·omega
 ·obtain ⟨g1,g2⟩:=h2 hj
  have hd:u.drop j=u.getD j 0 :: u.drop (j+1):=by
   rw [List.drop_eq_getElem_cons hj,List.getD_eq_getElem?_getD,List.getElem?_eq_getElem hj];rfl
  refine t.fail (whole_not (by omega) (by omega) (by omega) (by omega) (by omega)) ?_
  unfold stepM
  rw [if_neg (by omega),if_neg (by omega),if_neg (by omega),if_pos g1,g2,hd]
  simp only
  rw [if_neg (fun e=>hc e.symm)]
theorem InW.done {s:ByteArray} {i:Nat} {u:List Nat} {m0 m:Mc} (hu:IsWord u) (h:InW u u.length m0 m) (t:Tk s (i+u.length) m):m.op=m0.op∧m.st=5:=by
 rcases h with ⟨h,-⟩ | ⟨-,h1,-,h3⟩
 ·rcases hu with rfl | rfl | rfl <;> simp at h
 ·exact ⟨h1,h3 rfl⟩
theorem InW.op {u:List Nat} {j:Nat} {m0 m:Mc} (h:InW u j m0 m):m.op=m0.op:=by
 rcases h with ⟨-,rfl⟩ | ⟨-,h,-⟩
 ·rfl
 ·exact h
def N10 (x:Nat):Prop:=10≤x
def FlN (s:ByteArray) (i j L:Nat):Prop:=Fl s i j L∧Sq N10 s i j
theorem FlN.nil (s:ByteArray) (i L:Nat):FlN s i i L:=⟨Fl.nil _ _ _,Sq.nil _ _ _⟩
theorem FlN.trans {s:ByteArray} {i j k L:Nat} (h:FlN s i j L) (h':FlN s j k L):FlN s i k L:=⟨h.1.trans h'.1,h.2.trans h'.2⟩
theorem FlN.snoc {s:ByteArray} {i j L:Nat} {k:Mc} (h:FlN s i j L) (t:Tk s (j+1) k) (hk:k.op.length≤L) (hn:N10 k.st):FlN s i (j+1) L:=⟨h.1.snoc t hk,h.2.snoc t hn⟩
theorem FlN.one {s:ByteArray} {i L:Nat} {k:Mc} (t:Tk s (i+1) k) (hk:k.op.length≤L) (hn:N10 k.st):FlN s i (i+1) L:=(FlN.nil s i L).snoc t hk hn
theorem Tk.digits {s:ByteArray} {j:Nat} {m:Mc} (t:Tk s j m) (h:m.st=12∨m.st=14∨m.st=17):Tk s (rn s j) m∧FlN s j (rn s j) m.op.length:=by
 obtain ⟨n,hn⟩:∃ n,rn s j=j+n:=⟨rn s j-j,by have:=rn_ge s j;omega⟩
 have hd:∀ q,q<n→digN (byteAt s (j+q))=true:=fun q hq=>by
  have:=rn_dig s j (j+q) (by omega) (by omega)
  rw [lk_byteAt] at this
  exact this
 rw [hn]
 clear hn
 induction n with
 | zero=>exact ⟨t,FlN.nil _ _ _⟩
 | succ n ih =>
  have:=ih (fun q hq=>hd q (by omega))
  have hdn:=hd n (by omega)
  have e:stepM m (byteAt s (j+n))=some m:=by
   unfold stepM numM
   rw [if_pos (by omega),if_neg (by omega),if_neg (by omega),if_neg (by omega),if_pos ⟨h,hdn⟩]
  have tt:=this.1.next (byteAt_in (fun x=>by rw [x] at hdn;revert hdn;decide)) e
  exact ⟨tt,this.2.snoc tt (Nat.le_refl _) (by unfold N10;omega)⟩
theorem dg_dig (s:ByteArray) (i:Nat):dgB (lk s i)=digN (byteAt s i):=by rw [lk_byteAt];rfl
theorem dig_in {s:ByteArray} {i:Nat} (h:digN (byteAt s i)=true):i<s.size:=byteAt_in (fun x=>by rw [x] at h;revert h;decide)
theorem num_first {s:ByteArray} {i:Nat} {m:Mc} (t:Tk s i m) (hv:Vw s i m) (hb:blankN (byteAt s i)=false)
  (hc:byteAt s i≠91∧byteAt s i≠123∧byteAt s i≠34∧byteAt s i≠110∧byteAt s i≠116∧byteAt s i≠102) :
  (dgB (lk s (scA s i))=false∧BadAt s (scA s i)) ∨
  (dgB (lk s (scA s i))=true∧∃ k,Tk s (scB s i) k∧FlN s i (scB s i) m.op.length∧i<scB s i∧k.op=m.op∧(k.st=11∨(k.st=12∧dgB (lk s (scB s i))=false))):=by
 obtain ⟨c1,c2,c3,c4,c5,c6⟩:=hc
 have fin:∀ (a:Nat) (k:Mc),Tk s a k→a=scA s i→i≤a→FlN s i a m.op.length→k.op=m.op→wholeM k=false →
   (∀ x,digN x=true→stepM k x=some { k with nm:=k.nm,st:=if x=48 then 11 else 12 }∨stepM k x=some { k with nm:=false,st:=if x=48 then 11 else 12 })→(digN (byteAt s a)=false→stepM k (byteAt s a)=none) →
   (dgB (lk s (scA s i))=false∧BadAt s (scA s i)) ∨
   (dgB (lk s (scA s i))=true∧∃ k,Tk s (scB s i) k∧FlN s i (scB s i) m.op.length∧i<scB s i∧k.op=m.op∧(k.st=11∨(k.st=12∧dgB (lk s (scB s i))=false))):=by
  intro a k tk ha hle hfl hop hw hyes hno
  rw [← ha]
  by_cases hd:digN (byteAt s a)=true
  ·right
   refine ⟨by rw [dg_dig];exact hd,?_⟩
   obtain ⟨b,hst⟩:∃ b,stepM k (byteAt s a)=some { k with nm:=b,st:=if byteAt s a=48 then 11 else 12 }:=by
    rcases hyes _ hd with h | h
    ·exact ⟨_,h⟩
    ·exact ⟨_,h⟩
   have t1:=tk.next (dig_in hd) hst
   have f1:=hfl.snoc t1 (by show k.op.length≤_;rw [hop];exact Nat.le_refl _) (by unfold N10;dsimp only;first | omega | (split <;> omega))
   unfold scB
   rw [← ha]
   by_cases h48:lk s a=48
   ·rw [if_pos h48]
    rw [lk_byteAt] at h48
    exact ⟨_,t1,f1,by omega,hop,.inl (by show (if byteAt s a=48 then 11 else 12)=11;rw [if_pos h48])⟩
   ·rw [if_neg h48]
    rw [lk_byteAt] at h48
    have e12:(if byteAt s a=48 then 11 else 12)=12:=if_neg h48
    have e:rn s a=rn s (a+1):=by
     refine rn_uniq s a _ (by have:=rn_ge s (a+1);omega) (fun q h1 h2=>?_) (rn_end s (a+1))
     by_cases hq:q=a
     ·subst hq;rw [dg_dig];exact hd
     ·exact rn_dig s (a+1) q (by omega) h2
    obtain ⟨t2,f2⟩:=t1.digits (.inl e12)
    rw [e]
    refine ⟨_,t2,f1.trans (by show FlN s (a+1) _ _;rw [← hop];exact f2),by have:=rn_ge s (a+1);omega,hop,.inr ⟨e12,rn_end s (a+1)⟩⟩
  ·have hd':digN (byteAt s a)=false:=by cases h:digN (byteAt s a) with
    | true=>exact absurd h hd
    | false=>rfl
   left
   exact ⟨by rw [dg_dig];exact hd',tk.fail hw (hno hd')⟩
 by_cases h45:byteAt s i=45
 ·have e:=step_value hv hb
  have e2:valueM m (byteAt s i)=some { m with nm:=false,st:=10 }:=by
   unfold valueM
   rw [if_neg c1,if_neg c2,if_neg c3,if_pos h45]
  rw [e2] at e
  have t1:=t.next (byteAt_in (by omega)) e
  refine fin (i+1) _ t1 ?_ (by omega) (FlN.one t1 (Nat.le_refl _) (by unfold N10;dsimp only;omega)) rfl (whole_not (by simp) (by simp) (by simp) (by simp) (by simp)) (fun x hx=>.inl ?_) (fun hx=>?_)
  ·unfold scA
   rw [lk_byteAt,if_pos h45]
  ·unfold stepM numM
   rw [if_pos (by simp)]
   by_cases h48:x=48
   ·rw [if_pos ⟨rfl,h48⟩,if_pos h48]
   ·rw [if_neg (fun y=>h48 y.2),if_pos ⟨rfl,hx⟩,if_neg h48]
  ·unfold stepM numM
   rw [if_pos (by simp),if_neg (fun y=>by have:=y.2;rw [this] at hx;revert hx;decide),if_neg (fun y=>by rw [y.2] at hx;cases hx),if_pos rfl]
 ·refine fin i m t ?_ (Nat.le_refl _) (FlN.nil _ _ _) rfl hv.whole (fun x hx=>.inr ?_) (fun hx=>?_)
  ·unfold scA
   rw [lk_byteAt,if_neg h45]
  ·have hx':=of_decide_eq_true hx
   have hbx:blankN x=false:=by unfold blankN;rw [decide_eq_false_iff_not];omega
   have:stepM m x=valueM m x:=by
    unfold stepM
    rcases hv with h | ⟨h,h1,-⟩
    ·rw [if_neg (by omega),if_neg (by omega),if_neg (by omega),if_neg (by omega),if_neg (by rw [hbx];decide),if_neg (by omega),if_neg (by omega),if_pos h]
    ·rw [if_neg (by omega),if_neg (by omega),if_neg (by omega),if_neg (by omega),if_neg (by rw [hbx];decide),if_neg (by omega),if_neg (by omega),if_neg (by omega),if_neg (by omega),if_pos h]
   rw [this]
   unfold valueM
   rw [if_neg (by omega),if_neg (by omega),if_neg (by omega),if_neg (by omega)]
   by_cases h48:x=48
   ·rw [if_pos h48,if_pos h48]
   ·rw [if_neg h48,if_pos hx,if_neg h48]
  ·rw [step_value hv hb]
   unfold valueM
   have:byteAt s i≠48:=fun y=>by rw [y] at hx;revert hx;decide
   rw [if_neg c1,if_neg c2,if_neg c3,if_neg h45,if_neg this,if_neg (by rw [hx];decide),if_neg c4,if_neg c5,if_neg c6]
theorem num_bhd {s:ByteArray} {i:Nat} {m:Mc} (hst:m.st=11∨((m.st=12∨m.st=14∨m.st=17)∧dgB (lk s i)=false)) (h46:m.st=11∨m.st=12→lk s i≠46) (he:m.st=11∨m.st=12∨m.st=14→¬ (lk s i=101∨lk s i=69)):Bhd s i m:=by
 rw [lk_byteAt] at h46 he
 refine ⟨by unfold Bh;omega,?_⟩
 unfold stepM numM
 rw [if_pos (by omega),if_neg (by omega),if_neg (by omega),if_neg (by omega)]
 rw [if_neg (fun h=>by
  rcases hst with x | ⟨-,x⟩
  ·omega
  ·rw [dg_dig,h.2] at x;cases x)]
 rw [if_neg (fun h=>h46 h.1 h.2),if_neg (by omega),if_neg (fun h=>he h.1 h.2),if_neg (by omega),if_neg (by omega)]
theorem num_tk {s:ByteArray} {i:Nat} {m:Mc} (t:Tk s i m) (hv:Vw s i m) (hb:blankN (byteAt s i)=false)
  (hc:byteAt s i≠91∧byteAt s i≠123∧byteAt s i≠34∧byteAt s i≠110∧byteAt s i≠116∧byteAt s i≠102) :
  ((scanS s i).1=none∧BadAt s (scanS s i).2) ∨
  ((scanS s i).1≠none∧i<(scanS s i).2∧FlN s i (scanS s i).2 m.op.length∧∃ k,Tk s (scanS s i).2 k∧k.op=m.op∧Bhd s (scanS s i).2 k):=by
 unfold scanS
 rcases num_first t hv hb hc with ⟨h1,h2⟩ | ⟨h1,k,t1,f1,l1,o1,s1⟩
 ·rw [if_pos h1]
  exact .inl ⟨rfl,h2⟩
 rw [if_neg (by rw [h1];decide)]
 -- behind the point
 have hC:(lk s (scB s i)=46∧dgB (lk s (scB s i+1))=false∧BadAt s (scB s i+1)) ∨
   (¬ (lk s (scB s i)=46∧dgB (lk s (scB s i+1))=false)∧∃ k,Tk s (scC s i) k∧FlN s i (scC s i) m.op.length∧i<scC s i∧k.op=m.op∧(k.st=11∨((k.st=12∨k.st=14)∧dgB (lk s (scC s i))=false))∧(k.st=11∨k.st=12→lk s (scC s i)≠46)):=by
  unfold scC
  by_cases h46:lk s (scB s i)=46
  ·have h46':=h46
   rw [lk_byteAt] at h46'
   have e:stepM k (byteAt s (scB s i))=some { k with st:=13 }:=by
    unfold stepM numM
    rw [if_pos (by omega),if_neg (by omega),if_neg (by omega),if_neg (by omega),if_neg (fun h=>by have:=h.2;rw [h46'] at this;revert this;decide),if_pos ⟨by omega,h46'⟩]
   have t2:=t1.next (byteAt_in (by omega)) e
   have f2:=f1.snoc t2 (by show k.op.length≤_;rw [o1];exact Nat.le_refl _) (by unfold N10;dsimp only;first | omega | (split <;> omega))
   by_cases hd:dgB (lk s (scB s i+1))=true
   ·right
    refine ⟨fun x=>(by rw [hd] at x;exact Bool.noConfusion x.2),?_⟩
    rw [if_pos h46]
    rw [dg_dig] at hd
    have e3:stepM { k with st:=13 } (byteAt s (scB s i+1))=some { k with st:=14 }:=by
     unfold stepM numM
     rw [if_pos (by simp),if_neg (by simp),if_neg (by simp),if_neg (by simp),if_neg (by simp),if_neg (by simp),if_pos rfl,if_pos hd]
    have t3:=t2.next (dig_in hd) e3
    have f3:=f2.snoc t3 (by show k.op.length≤_;rw [o1];exact Nat.le_refl _) (by unfold N10;dsimp only;first | omega | (split <;> omega))
    have er:rn s (scB s i+1)=rn s (scB s i+1+1):=by
     refine rn_uniq s _ _ (by have:=rn_ge s (scB s i+1+1);omega) (fun q h1 h2=>?_) (rn_end s _)
     by_cases hq:q=scB s i+1
     ·subst hq;rw [dg_dig];exact hd
     ·exact rn_dig s (scB s i+1+1) q (by omega) h2
    obtain ⟨t4,f4⟩:=t3.digits (.inr (.inl rfl))
    rw [er]
    refine ⟨_,t4,f3.trans (by rw [← o1];exact f4),by have:=rn_ge s (scB s i+1+1);omega,o1,.inr ⟨.inr rfl,rn_end s _⟩,fun x=>?_⟩
    exfalso
    revert x
    show ¬ ((14=11)∨(14=12))
    decide
   ·have hd':dgB (lk s (scB s i+1))=false:=by cases h:dgB (lk s (scB s i+1)) with
     | true=>exact absurd h hd
     | false=>rfl
    left
    refine ⟨h46,hd',t2.fail (whole_not (by simp) (by simp) (by simp) (by simp) (by simp)) ?_⟩
    rw [dg_dig] at hd'
    unfold stepM numM
    rw [if_pos (by simp),if_neg (by simp),if_neg (by simp),if_neg (by simp),if_neg (by simp),if_neg (by simp),if_pos rfl,if_neg (by rw [hd'];decide)]
  ·right
   rw [if_neg h46]
   exact ⟨fun x=>h46 x.1,k,t1,f1,l1,o1,by rcases s1 with x | ⟨x,y⟩;exact .inl x;exact .inr ⟨.inl x,y⟩,fun _=>h46⟩
 rcases hC with ⟨h2,h3,h4⟩ | ⟨h2,k2,t2,f2,l2,o2,s2,n2⟩
 ·rw [if_pos ⟨h2,h3⟩]
  exact .inl ⟨rfl,h4⟩
 rw [if_neg h2]
 clear t1 f1 l1 o1 s1 h1 h2
 by_cases hx:scX s i=true
 ·have hx':byteAt s (scC s i)=101∨byteAt s (scC s i)=69:=by
   have:=of_decide_eq_true hx
   rwa [lk_byteAt] at this
  have e:stepM k2 (byteAt s (scC s i))=some { k2 with st:=15 }:=by
   unfold stepM numM
   rw [if_pos (by omega),if_neg (by omega),if_neg (by omega),if_neg (by omega),if_neg (fun h=>by
    have:=of_decide_eq_true h.2
    omega),if_neg (by omega),if_neg (by omega),if_pos ⟨by omega,hx'⟩]
  have t3:=t2.next (byteAt_in (by omega)) e
  have f3:=f2.snoc t3 (by show k2.op.length≤_;rw [o2];exact Nat.le_refl _) (by unfold N10;dsimp only;first | omega | (split <;> omega))
  -- the sign
  obtain ⟨k4,t4,f4,l4,o4,s4,hF⟩:∃ k4,Tk s (scF s i) k4∧FlN s i (scF s i) m.op.length∧i<scF s i∧k4.op=m.op∧(k4.st=15∨k4.st=16)∧(k4.st=15→¬ (byteAt s (scF s i)=43∨byteAt s (scF s i)=45)):=by
   unfold scF
   by_cases hsg:lk s (scC s i+1)=43∨lk s (scC s i+1)=45
   ·rw [if_pos hsg]
    rw [lk_byteAt] at hsg
    have e4:stepM { k2 with st:=15 } (byteAt s (scC s i+1))=some { k2 with st:=16 }:=by
     unfold stepM numM
     rw [if_pos (by simp),if_neg (by simp),if_neg (by simp),if_neg (by simp),if_neg (by simp),if_neg (by simp),if_neg (by simp),if_neg (by simp),if_pos ⟨rfl,hsg⟩]
    have t5:=t3.next (byteAt_in (by omega)) e4
    exact ⟨_,t5,f3.snoc t5 (by show k2.op.length≤_;rw [o2];exact Nat.le_refl _) (by unfold N10;dsimp only;first | omega | (split <;> omega)),by omega,o2,.inr rfl,fun x=>by simp at x⟩
   ·rw [if_neg hsg]
    rw [lk_byteAt] at hsg
    exact ⟨_,t3,f3,by omega,o2,.inl rfl,fun _=>hsg⟩
  by_cases hd:dgB (lk s (scF s i))=true
  ·rw [if_neg (fun x=>by rw [hd] at x;exact Bool.noConfusion x.2)]
   right
   have hH:scH s i=rn s (scF s i):=by unfold scH;rw [if_pos hx]
   show (some _≠none)∧i<scH s i∧FlN s i (scH s i) m.op.length∧∃ k,Tk s (scH s i) k∧k.op=m.op∧Bhd s (scH s i) k
   rw [hH]
   rw [dg_dig] at hd
   have e5:stepM k4 (byteAt s (scF s i))=some { k4 with st:=17 }:=by
    have hd2:=of_decide_eq_true hd
    unfold stepM numM
    rw [if_pos (by omega),if_neg (by omega),if_neg (by omega),if_neg (by omega),if_neg (by omega),if_neg (by omega),if_neg (by omega),if_neg (by omega),if_neg (by omega),if_pos (by omega),if_pos hd]
   have t5:=t4.next (dig_in hd) e5
   have f5:=f4.snoc t5 (by show k4.op.length≤_;rw [o4];exact Nat.le_refl _) (by unfold N10;dsimp only;first | omega | (split <;> omega))
   have er:rn s (scF s i)=rn s (scF s i+1):=by
    refine rn_uniq s _ _ (by have:=rn_ge s (scF s i+1);omega) (fun q h1 h2=>?_) (rn_end s _)
    by_cases hq:q=scF s i
    ·subst hq;rw [dg_dig];exact hd
    ·exact rn_dig s (scF s i+1) q (by omega) h2
   obtain ⟨t6,f6⟩:=t5.digits (.inr (.inr rfl))
   rw [er]
   refine ⟨by simp,by have:=rn_ge s (scF s i+1);omega,f5.trans (by rw [← o4];exact f6),_,t6,o4,num_bhd (.inr ⟨.inr (.inr rfl),rn_end s _⟩) (fun x=>?_) (fun x=>?_)⟩
   ·simp at x
   ·simp at x
  ·have hd':dgB (lk s (scF s i))=false:=by cases h:dgB (lk s (scF s i)) with
    | true=>exact absurd h hd
    | false=>rfl
   rw [if_pos ⟨hx,hd'⟩]
   left
   refine ⟨rfl,t4.fail (whole_not (by omega) (by omega) (by omega) (by omega) (by omega)) ?_⟩
   rw [dg_dig] at hd'
   unfold stepM numM
   rw [if_pos (by omega),if_neg (by omega),if_neg (by omega),if_neg (by omega),if_neg (by omega),if_neg (by omega),if_neg (by omega),if_neg (by omega),if_neg (fun x=>hF x.1 x.2),if_pos (by omega),if_neg (by rw [hd'];decide)]
 ·have hx':¬ (lk s (scC s i)=101∨lk s (scC s i)=69):=fun h=>hx (decide_eq_true h)
  rw [if_neg (fun x=>hx x.1)]
  right
  have hH:scH s i=scC s i:=by unfold scH;rw [if_neg hx]
  show (some _≠none)∧i<scH s i∧FlN s i (scH s i) m.op.length∧∃ k,Tk s (scH s i) k∧k.op=m.op∧Bhd s (scH s i) k
  rw [hH]
  exact ⟨by simp,l2,f2,k2,t2,o2,num_bhd (by rcases s2 with x | ⟨x,y⟩;exact .inl x;exact .inr ⟨by omega,y⟩) n2 (fun _=>hx')⟩
def Ns (s:ByteArray) (i j:Nat):Prop:=∀ p,i<p→p<j→stopB (byteAt s p)=false
theorem stopB_parts {c:Nat} (h:stopB c=true):digN c=false∧c≠46∧c≠101∧c≠69∧c≠43∧c≠45∧c≠48∧(blankN c=true∨c=44∨c=93∨c=125):=by
 have h':blankN c=true∨c=44∨c=93∨c=125:=by
  unfold stopB at h
  simp only [Bool.or_eq_true,beq_iff_eq] at h
  exact h
 have h2:c=32∨c=9∨c=10∨c=13∨c=44∨c=93∨c=125:=by
  rcases h' with h | h | h | h
  ·have:=of_decide_eq_true h;omega
  ·omega
  ·omega
  ·omega
 refine ⟨?_,by omega,by omega,by omega,by omega,by omega,by omega,h'⟩
 unfold digN
 rw [decide_eq_false_iff_not]
 omega
theorem num_stop {m k:Mc} {c:Nat} (hm:10≤m.st) (hc:stopB c=true) (h:stepM m c=some k):k.st≤5:=by
 obtain ⟨h1,h2,h3,h4,h5,h6,h7,-⟩:=stopB_parts hc
 unfold stepM numM at h
 rw [if_pos hm,if_neg (fun x=>h7 x.2),if_neg (fun x=>by rw [h1] at x;exact Bool.noConfusion x.2)] at h
 by_cases e1:m.st=10
 ·rw [if_pos e1] at h;cases h
 rw [if_neg e1,if_neg (fun x=>by rw [h1] at x;exact Bool.noConfusion x.2),if_neg (fun x=>h2 x.2)] at h
 by_cases e2:m.st=13
 ·rw [if_pos e2,if_neg (by rw [h1];decide)] at h;cases h
 rw [if_neg e2,if_neg (by omega),if_neg (by omega)] at h
 by_cases e3:m.st=15∨m.st=16
 ·rw [if_pos e3,if_neg (by rw [h1];decide)] at h;cases h
 rw [if_neg e3] at h
 unfold afterM at h
 repeat' split at h
 all_goals first
  | (cases h;done)
  | (injection h with h;subst h;simp)
theorem sq_ns {s:ByteArray} {i j:Nat} {k:Mc} (t:Tk s j k) (h:Sq N10 s i j):Ns s i j:=fun p a b=>by
 obtain ⟨k1,t1⟩:=t.pre (show p≤j by omega)
 obtain ⟨k2,t2⟩:=t.pre (show p+1≤j by omega)
 have hps:p<s.size:=by have:=t.1;omega
 cases hc:stopB (byteAt s p) with
 | false=>rfl
 | true =>
  exfalso
  have n1:=h p k1 a (by omega) t1
  have n2:=h (p+1) k2 (by omega) (by omega) t2
  unfold N10 at n1 n2
  cases hs:stepM k1 (byteAt s p) with
  | none =>
   have hb:=t1.bad hps hs
   obtain ⟨-,m,e,-⟩:=hb
   have:=run_take mc0 (byts s)
   have t2':=t2.2
   rw [byts_take s p hps,takeM_app,t1.2,byt_byteAt] at t2'
   have e2:takeM k1 [byteAt s p]=none:=by
    simp only [takeM,hs]
   rw [show ((some k1).bind fun k=>takeM k [byteAt s p])=takeM k1 [byteAt s p] from rfl,e2] at t2'
   cases t2'
  | some k3 =>
   have:=t2.uniq (t1.next hps hs)
   subst this
   have:=num_stop n1 hc hs
   omega
end Go.Proofs.YtjcpamjeekfblaaGreatDoor
/- How far a text can be a document's beginning: brackets,commas,names;how deep it is,and the verdict (mathematics alone). -/
namespace Go.Proofs.YtjcpamjeekfblaaGreatDoor
open Go.RowKit Go.Shelf
theorem skip_not {s:ByteArray} {j k:Nat} (h:IsSkip s j k):blankN (byteAt s k)=false:=by
 rcases h.2.2.2 with e | e
 ·rw [byteAt_out s k (by omega)];decide
 ·exact e
theorem skip_same {s:ByteArray} {j k:Nat} (h:IsSkip s j k) (hb:blankN (byteAt s j)=false):k=j:=by
 rcases Nat.lt_or_ge j k with x | x
 ·rw [h.2.2.1 j (Nat.le_refl _) x] at hb;cases hb
 ·have:=h.1;omega
def DpI (s:ByteArray) (d:Nat) (i:Nat) (dp:Int):Prop :=
 (dp = -1∧∀ j,j<i→depS s (j+1)≤d)∨(∃ p:Nat,dp=(p:Int)∧p<i∧d<depS s (p+1)∧∀ j,j<p→depS s (j+1)≤d)
theorem dpI0 (s:ByteArray) (d:Nat):DpI s d 0 (-1):=.inl ⟨rfl,fun j h=>by omega⟩
theorem DpI.lo {s:ByteArray} {d i:Nat} {dp:Int} (h:DpI s d i dp) (hi:i≤8388608):-1≤dp∧dp≤8388608:=by
 rcases h with ⟨rfl,-⟩ | ⟨p,rfl,h,-⟩ <;> omega
theorem DpI.le {s:ByteArray} {d i:Nat} {m:Mc} (t:Tk s i m) (h:DpI s d i (-1)):m.op.length≤d:=by
 rcases h with ⟨-,h⟩ | ⟨p,h,-⟩
 ·cases i with
  | zero=>have:=t.dep;have:=t.len;omega
  | succ i=>rw [← t.dep];exact h i (by omega)
 ·omega
theorem DpI.flat {s:ByteArray} {d i j:Nat} {m:Mc} {dp:Int} (t:Tk s i m) (h:DpI s d i dp) (hij:i≤j) (hf:Fl s i j m.op.length):DpI s d j dp:=by
 rcases h with ⟨rfl,h⟩ | ⟨p,rfl,h1,h2,h3⟩
 ·refine .inl ⟨rfl,fun q hq=>?_⟩
  by_cases e:q<i
  ·exact h q e
  ·have a:=hf q (by omega) hq
   have b:=DpI.le t (.inl ⟨rfl,h⟩)
   omega
 ·exact .inr ⟨p,rfl,by omega,h2,h3⟩
theorem DpI.up {s:ByteArray} {d i:Nat} {m k:Mc} {dp:Int} (t:Tk s i m) (t':Tk s (i+1) k) (ho:k.op.length=m.op.length+1) (h:DpI s d i dp) :
  DpI s d (i+1) (if m.op.length=d∧dp<0 then (i:Int) else dp):=by
 have hd:=t'.dep
 rcases h with ⟨rfl,h⟩ | ⟨p,rfl,h1,h2,h3⟩
 ·have b:=DpI.le t (.inl ⟨rfl,h⟩)
  by_cases e:m.op.length=d
  ·rw [if_pos ⟨e,by omega⟩]
   exact .inr ⟨i,rfl,by omega,by omega,h⟩
  ·rw [if_neg (fun x=>e x.1)]
   refine .inl ⟨rfl,fun q hq=>?_⟩
   by_cases e2:q<i
   ·exact h q e2
   ·obtain rfl:q=i:=by omega
    omega
 ·rw [if_neg (by omega)]
  exact .inr ⟨p,rfl,by omega,h2,h3⟩
def shutN (l:List Nat):List Nat:=l.map (· + 2)
theorem shutN_app (a b:List Nat):shutN (a++b)=shutN a++shutN b:=by simp [shutN]
theorem open_tk {s:ByteArray} {i:Nat} {m:Mc} (t:Tk s i m) (hv:Vw s i m) (hc:byteAt s i=91∨byteAt s i=123) :
  ∃ k,Tk s (i+1) k∧k.op=m.op++[byteAt s i]∧k.st=if byteAt s i=91 then 1 else 2:=by
 have hb:blankN (byteAt s i)=false:=by unfold blankN;rw [decide_eq_false_iff_not];omega
 have e:=step_value hv hb
 unfold valueM at e
 by_cases h:byteAt s i=91
 ·rw [if_pos h] at e
  exact ⟨_,t.next (byteAt_in (by omega)) e,by rw [h],by rw [if_pos h]⟩
 ·have h':byteAt s i=123:=by omega
  rw [if_neg h,if_pos h'] at e
  exact ⟨_,t.next (byteAt_in (by omega)) e,by rw [h'],by rw [if_neg h]⟩
def Cw (s:ByteArray) (i:Nat) (m:Mc):Prop:=m.st=1∨m.st=2∨Bhd s i m
theorem top_of {m:Mc} (h:m.op≠[]):∃ l a,m.op=l++[a]∧topN m=a:=by
 refine ⟨m.op.dropLast,m.op.getLast h,(List.dropLast_concat_getLast h).symm,?_⟩
 unfold topN
 rw [List.getLastD_eq_getLast?,List.getLast?_eq_some_getLast h]
 rfl
theorem Cw.skip {s:ByteArray} {j k:Nat} {m:Mc} (t:Tk s j m) (h:Cw s j m) (hs:IsSkip s j k):∃ m',Tk s k m'∧Cw s k m'∧m'.op=m.op∧Fl s j k m.op.length∧(m.st=1→m'.st=1)∧(m.st=2→m'.st=2)∧(Bh m→Bhd s k m'):=by
 rcases h with h | h | h
 ·obtain ⟨a,b⟩:=t.skip (by omega) hs
  exact ⟨m,a,.inl h,rfl,b,fun x=>x,fun x=>x,fun x=>by unfold Bh at x;omega⟩
 ·obtain ⟨a,b⟩:=t.skip (by omega) hs
  exact ⟨m,a,.inr (.inl h),rfl,b,fun x=>x,fun x=>x,fun x=>by unfold Bh at x;omega⟩
 ·obtain ⟨m',a,b,c,d⟩:=t.skipB h hs
  exact ⟨m',a,.inr (.inr b),c,d,fun x=>by have:=h.1;unfold Bh at this;omega,fun x=>by have:=h.1;unfold Bh at this;omega,fun _=>b⟩
theorem Cw.shut {s:ByteArray} {i a:Nat} {l:List Nat} {m:Mc} (t:Tk s i m) (h:Cw s i m) (ho:m.op=l++[a]) (hc:byteAt s i=a+2):∃ k,Tk s (i+1) k∧k.op=l∧k.st=5:=by
 have htop:topN m=a:=by unfold topN;rw [ho];simp
 have ha:a=91∨a=123:=t.fit2.op a (by rw [ho];simp)
 have hb:blankN (byteAt s i)=false:=by unfold blankN;rw [decide_eq_false_iff_not];omega
 have hdl:m.op.dropLast=l:=by rw [ho];simp
 have key:stepM m (byteAt s i)=some { m with op:=m.op.dropLast,st:=5 }:=by
  rcases h with h | h | h
  ·have:=t.fit.s1 h
   unfold stepM
   rw [if_neg (by omega),if_neg (by omega),if_neg (by omega),if_neg (by omega),if_neg (by rw [hb];decide),if_neg (by omega),if_neg (by omega),if_neg (by omega),if_pos (.inl ⟨h,by omega⟩)]
  ·have:=t.fit.s2 (.inl h)
   unfold stepM
   rw [if_neg (by omega),if_neg (by omega),if_neg (by omega),if_neg (by omega),if_neg (by rw [hb];decide),if_neg (by omega),if_neg (by omega),if_neg (by omega),if_pos (.inr ⟨h,by omega⟩)]
  ·rw [h.2]
   unfold afterM
   rw [if_neg (by rw [hb];decide),if_neg (by omega),if_neg (by omega),if_pos (by omega)]
 rw [← hdl]
 exact ⟨_,t.next (byteAt_in (by omega)) key,rfl,rfl⟩
theorem comma_tk {s:ByteArray} {i a:Nat} {l:List Nat} {m:Mc} (t:Tk s i m) (h:Bhd s i m) (ho:m.op=l++[a]) (hc:byteAt s i=44):∃ k,Tk s (i+1) k∧k.op=m.op∧k.st=if a=91 then 0 else 3:=by
 have htop:topN m=a:=by unfold topN;rw [ho];simp
 have ha:a=91∨a=123:=t.fit2.op a (by rw [ho];simp)
 have e:=h.2
 unfold afterM at e
 rw [hc,if_neg (by decide)] at e
 by_cases h91:a=91
 ·rw [if_pos ⟨rfl,by omega⟩,← hc] at e
  exact ⟨_,t.next (byteAt_in (by omega)) e,rfl,by rw [if_pos h91]⟩
 ·rw [if_neg (by omega),if_pos ⟨rfl,by omega⟩,← hc] at e
  exact ⟨_,t.next (byteAt_in (by omega)) e,rfl,by rw [if_neg h91]⟩
theorem comma_off {s:ByteArray} {i a:Nat} {l:List Nat} {m:Mc} (t:Tk s i m) (h:Bhd s i m) (ho:m.op=l++[a]) (hb:blankN (byteAt s i)=false) (hs:byteAt s i≠a+2) (hc:byteAt s i≠44):BadAt s i:=by
 have htop:topN m=a:=by unfold topN;rw [ho];simp
 have ha:a=91∨a=123:=t.fit2.op a (by rw [ho];simp)
 refine t.fail (whole_open (by rw [ho];simp)) ?_
 rw [h.2]
 unfold afterM
 rw [if_neg (by rw [hb];decide),if_neg (by omega),if_neg (by omega),if_neg (by omega)]
theorem colon_tk {s:ByteArray} {i:Nat} {m:Mc} (t:Tk s i m) (h:m.st=4) (hc:byteAt s i=58):∃ k,Tk s (i+1) k∧k.op=m.op∧k.st=0:=by
 have e:stepM m (byteAt s i)=some { m with st:=0 }:=by
  unfold stepM
  rw [if_neg (by omega),if_neg (by omega),if_neg (by omega),if_neg (by omega),if_neg (by rw [hc];decide),if_neg (by omega),if_pos h,if_pos hc]
 exact ⟨_,t.next (byteAt_in (by omega)) e,rfl,rfl⟩
theorem colon_off {s:ByteArray} {i:Nat} {m:Mc} (t:Tk s i m) (h:m.st=4) (hb:blankN (byteAt s i)=false) (hc:byteAt s i≠58):BadAt s i:=by
 refine t.fail (whole_not (by omega) (by omega) (by omega) (by omega) (by omega)) ?_
 unfold stepM
 rw [if_neg (by omega),if_neg (by omega),if_neg (by omega),if_neg (by omega),if_neg (by rw [hb];decide),if_neg (by omega),if_pos h,if_neg hc]
theorem end_off {s:ByteArray} {i:Nat} {m:Mc} (t:Tk s i m) (h:Bhd s i m) (ho:m.op=[]) (hb:blankN (byteAt s i)=false) (hi:i<s.size):BadAt s i:=by
 refine t.bad hi ?_
 rw [h.2]
 have htop:topN m=0:=by unfold topN;rw [ho];rfl
 unfold afterM
 rw [if_neg (by rw [hb];decide),if_neg (by omega),if_neg (by omega),if_neg (by omega)]
def IsVer (s:ByteArray) (d:Nat) (C A:Nat):Prop :=
 (C=2∧BadAt s A)∨(docM (byts s)∧((C=3∧A<s.size∧d<depS s (A+1)∧∀ j,j<A→depS s (j+1)≤d)∨(C=1∧A=s.size∧∀ j,j<s.size→depS s (j+1)≤d)))
theorem ver_end {s:ByteArray} {d:Nat} {m:Mc} {dp:Int} (t:Tk s s.size m) (h:Bh m) (ho:m.op=[]) (hd:DpI s d s.size dp):docM (byts s)∧((dp = -1∧IsVer s d 1 s.size)∨(∃ p:Nat,dp=(p:Int)∧IsVer s d 3 p)):=by
 have hdoc:docM (byts s):=⟨m,by have:=t.2;rwa [byts_whole] at this,whole_of ho h⟩
 refine ⟨hdoc,?_⟩
 rcases hd with ⟨rfl,h1⟩ | ⟨p,rfl,h1,h2,h3⟩
 ·exact .inl ⟨rfl,.inr ⟨hdoc,.inr ⟨rfl,rfl,h1⟩⟩⟩
 ·exact .inr ⟨p,rfl,.inr ⟨hdoc,.inl ⟨rfl,h1,h2,h3⟩⟩⟩
theorem doc_run {s:ByteArray} (h:docM (byts s)):∃ m,runM mc0 (byts s)=(s.size,m)∧wholeM m=true:=by
 obtain ⟨m,e,hw⟩:=h
 have:=run_all (byts s) mc0 m e
 rw [byts_length] at this
 exact ⟨m,this,hw⟩
theorem bad_doc {s:ByteArray} {k:Nat} (h:BadAt s k):¬ docM (byts s):=fun hd=>by
 obtain ⟨m,e,hw⟩:=doc_run hd
 obtain ⟨-,m',e',h'⟩:=h
 rw [e] at e'
 injection e' with e1 e2
 subst e1 e2
 rcases h' with h' | h'
 ·omega
 ·rw [hw] at h';cases h'
theorem ver_chk {s:ByteArray} {d C A:Nat} (h1:1≤d) (h2:d≤1024) (h:IsVer s d C A):IsChk s (d:Int) C A 0:=by
 refine .inr ⟨⟨by omega,by omega⟩,rfl,?_⟩
 rcases h with ⟨rfl,hk,m,e,h⟩ | ⟨hd,h⟩
 ·exact ⟨A,m,e,.inl ⟨h,rfl,rfl⟩⟩
 ·obtain ⟨m,e,hw⟩:=doc_run hd
  refine ⟨s.size,m,e,.inr ⟨rfl,hw,?_⟩⟩
  rcases h with ⟨rfl,a,b,c⟩ | ⟨rfl,rfl,c⟩
  ·exact .inl ⟨A,a,by omega,fun j hj=>by have:=c j hj;omega,rfl,rfl⟩
  ·exact .inr ⟨fun j hj=>by have:=c j hj;omega,rfl,rfl⟩
end Go.Proofs.YtjcpamjeekfblaaGreatDoor
