/-
  Texts of mine that others lean on, one behind the other.
-/
import Derived.Test.YtjcpamjeekfblaaGreatDoorPack7
import Derived.Test.YtjcpamjeekfblaaGreatDoorPack9
import Derived.Test.YtjcpamjeekfblaaGreatDoorPack8
import Derived.Deep.DeepCutAuto
import Derived.Deep.RegionHeld
import Derived.Test.YtjcpamjeekfblaaGreatDoorPack6
namespace Go.Proofs.YtjcpamjeekfblaaGreatDoor
open Go.RowKit Go.Shelf
attribute [local go_sem] Oper.semAt_some
theorem RoundIn.inRound {F:Fence} {n:Nat} {P:Program} {l:Nat} {f:FuncId} {tmps:Array Value} {assign body:Code} {w:World} {R:Ending→World→Prop} (l2:Nat) (h:RoundIn F n P l f tmps assign body w R):RoundIn (F.inRound l2) n P l f tmps assign body w R:=h
end Go.Proofs.YtjcpamjeekfblaaGreatDoor

namespace Go.Proofs.YtjcpamjeekfblaaGreatDoor
open Go.RowKit Go.Shelf
def IntsAt (w:World) (ao:Option Addr) (L:List Nat):Prop:=∀ j p,L[j]? = some p→∃ g,ao=some ⟨g,0,none⟩∧g<w.heap.size∧w.cell? ⟨g,j,none⟩=some (.int .i64 ((p:Nat):Int))
theorem IntsAt.kept {m:Nat} {w w':World} {ao:Option Addr} {L:List Nat} (h:IntsAt w ao L) (hm:w.heap.size≤m) (hb:Below m w w'):IntsAt w' ao L:=fun j p hj=>by
 obtain ⟨g,h1,h2,h3⟩:=h j p hj
 exact ⟨g,h1,Nat.lt_of_lt_of_le h2 hb.size,(hb.cell (p:=⟨g,j,none⟩) (by show g<m;omega)).trans h3⟩
end Go.Proofs.YtjcpamjeekfblaaGreatDoor

namespace Go.Proofs.YtjcpamjeekfblaaGreatDoor
open Go.RowKit Go.Shelf
attribute [local go_sem] Oper.semAt_some
end Go.Proofs.YtjcpamjeekfblaaGreatDoor

/- LevMath,LvWalk,LvRows. -/
/-
  Of no program: how deep the places of a text lie;where a bracket is closed.
-/
namespace Go.Proofs.YtjcpamjeekfblaaGreatDoor
def opB (x:Nat):Bool:=x == 123 || x == 91
def clB (x:Nat):Bool:=x == 125 || x == 93
def brO (s:ByteArray) (i:Nat):Bool:=outS s i && opB (byteAt s i)
def brC (s:ByteArray) (i:Nat):Bool:=outS s i && clB (byteAt s i)
def stepD (o c:Bool) (d:Nat):Nat:=if o then d+1 else if c then d-1 else d
def depS (s:ByteArray):Nat→Nat
  | 0=>0
  | i+1=>stepD (brO s i) (brC s i) (depS s i)
theorem depS_succ (s:ByteArray) (i:Nat):depS s (i+1)=stepD (brO s i) (brC s i) (depS s i):=rfl
/-! At a place at which something begins the byte itself tells. -/
/-! The places at which something begins,one after another. -/
/-! The depth hangs on nothing behind the place. -/
/-! Where a bracket is closed. -/
def clsP (s:ByteArray) (a p:Nat):Bool:=decide (a<p) && (brC s p && decide (depS s p=depS s a+1))
def IsCls (s:ByteArray) (a:Int) (c:Int):Prop :=
  (∃ i:Nat,a=i∧brO s i=true∧((∃ p:Nat,c=p∧p<s.size∧clsP s i p=true∧∀ q,q<p→clsP s i q=false)∨(c = -1∧∀ q,q<s.size→clsP s i q=false)))∨(c = -1∧∀ i:Nat,a=i→brO s i=false)
theorem IsCls.uniq {s:ByteArray} {a c d:Int} (h:IsCls s a c) (h':IsCls s a d):c=d:=by
  rcases h with ⟨i,rfl,ho,h⟩ | ⟨rfl,h⟩ <;> rcases h' with ⟨j,e,ho',h'⟩ | ⟨rfl,h'⟩
  · have e':j=i:=by omega
    subst e'
    rcases h with ⟨p,rfl,h1,h2,hz⟩ | ⟨rfl,h1⟩ <;> rcases h' with ⟨q,rfl,h4,h5,hy⟩ | ⟨rfl,h4⟩
    · rcases Nat.lt_trichotomy p q with h | h | h
      · have:=hy p h;rw [h2] at this;cases this
      · rw [h]
      · have:=hz q h;rw [h5] at this;cases this
    · have:=h4 p h1;rw [h2] at this;cases this
    · have:=h1 q h4;rw [h5] at this;cases this
    · rfl
  · have:=h' i rfl;rw [ho] at this;cases this
  · have:=h j e;rw [ho'] at this;cases this
  · rfl
end Go.Proofs.YtjcpamjeekfblaaGreatDoor
/-
  What levels.walk does with a function that is handed to it.
-/
namespace Go.Proofs.YtjcpamjeekfblaaGreatDoor
open Go.RowKit Go.Shelf
end Go.Proofs.YtjcpamjeekfblaaGreatDoor
/-
  What levels.rows and levels.set do: rows of bits,one behind another.
-/
namespace Go.Proofs.YtjcpamjeekfblaaGreatDoor
open Go.RowKit Go.Shelf
def But (g:Nat) (w w':World):Prop:=Below 0 w w'∧∀ b,b<w.heap.size→b≠g→w'.heap[b]? = w.heap[b]?
theorem But.at {g:Nat} {w w':World} (h:But g w w') {b:Nat} {cs:Array Value} {t:TypeId} (ha:At w b cs t) (hb:b≠g):At w' b cs t:=(h.2 b ha.lt hb).trans ha
theorem But.cell {g:Nat} {w w':World} (h:But g w w') {p:Addr} (hp:p.block<w.heap.size) (hb:p.block≠g):w'.cell? p=w.cell? p:=by
  unfold World.cell?
  rw [h.2 _ hp hb]
theorem But.below {g n:Nat} {w w' w0:World} (h:But g w w') (h0:Below n w0 w) (hn:n≤w.heap.size) (hg:n≤g):Below n w0 w':=by
  refine ⟨h.1.os.trans h0.os,h.1.tape.trans h0.tape,h.1.output.trans h0.output,Nat.le_trans h0.size h.1.size,fun b hb=>?_⟩
  refine Eq.trans ?_ (h0.block b hb)
  by_cases hbw:b<w.heap.size
  · exact h.2 b hbw (by omega)
  · exact absurd (Nat.lt_of_lt_of_le hb hn) hbw
end Go.Proofs.YtjcpamjeekfblaaGreatDoor
/- LvBuild,LvBuild2. -/
/-
  What levels.Build answers.
-/
namespace Go.Proofs.YtjcpamjeekfblaaGreatDoor
open Go.RowKit Go.Shelf
/-! Rows of a list: kept,and one of them turned. -/
def putR (Y:Nat→Nat) (i j:Nat):Nat:=if j=i / 64 then Y (i / 64) ||| 2 ^ (i % 64) else Y j
section
variable {w w':World} {A m n g:Nat} {F:Nat→Nat→Nat}
end
def B1 (s:ByteArray) (m i d A B:Nat) (F G:Nat→Nat→Nat) (w w':World):Prop :=
  (∃ k, d = k + 1 ∧ k < m ∧ byteAt s i = 58 ∧ At w' (A + 1 + k) (rowCells (need s.size) (putR (F k) i)) 127 ∧ But (A + 1 + k) w w') ∨
       (∃ k,d=k+1∧k<m∧byteAt s i=44∧At w' (B+1+k) (rowCells (need s.size) (putR (G k) i)) 127∧But (B+1+k) w w') ∨
       (((d=0∨m<d)∨(byteAt s i≠58∧byteAt s i≠44))∧w'=w)
end Go.Proofs.YtjcpamjeekfblaaGreatDoor
/-
  What levels.Build answers,whole.
-/
namespace Go.Proofs.YtjcpamjeekfblaaGreatDoor
open Go.RowKit Go.Shelf
section
variable {w W w1:World} {s:ByteArray} {m bl A B hw:Nat}
end
end Go.Proofs.YtjcpamjeekfblaaGreatDoor
/- LvDepth,LvWithin. -/
/-
  What levels.Depth and levels.Close answer.
-/
namespace Go.Proofs.YtjcpamjeekfblaaGreatDoor
open Go.RowKit Go.Shelf
end Go.Proofs.YtjcpamjeekfblaaGreatDoor
/-
  What levels.upTo,levels.within,levels.Colons and levels.Commas answer.
-/
namespace Go.Proofs.YtjcpamjeekfblaaGreatDoor
open Go.RowKit Go.Shelf
def UpTo (N k:Nat) (t:Int) (N' k':Nat):Prop:=((N:Int)≤t∧N'=N∧k'=k)∨(t<(N:Int)∧k'=need t.toNat∧N'=min (64*k') N)
theorem UpTo.le {N k N' k':Nat} {t:Int} (h:UpTo N k t N' k') (hk:k=need N):N'≤N∧k'≤k:=by
  unfold need at hk
  rcases h with ⟨_,h1,h2⟩ | ⟨h0,h1,h2⟩
  · omega
  · unfold need at h1;omega
theorem UpTo.formed {N k N' k':Nat} {t:Int} {X:Nat→Nat} (h:UpTo N k t N' k') (hf:formed (N:Int) k X):formed (N':Int) k' X:=by
  obtain ⟨f1,f2,f3⟩:=hf
  rw [Int.toNat_natCast] at f2 f3
  rcases h with ⟨_,rfl,rfl⟩ | ⟨h0,h1,h2⟩
  · exact ⟨f1,by rw [Int.toNat_natCast];exact f2,by rw [Int.toNat_natCast];exact f3⟩
  · unfold need at f2 h1
    refine ⟨by omega,by rw [Int.toNat_natCast];unfold need;omega,fun i h3 h4=>?_⟩
    rw [Int.toNat_natCast] at h3
    exact f3 i (by omega) (by omega)
end Go.Proofs.YtjcpamjeekfblaaGreatDoor

/- The machine: what each byte does to texts,backslashes and brackets. -/
namespace Go.Proofs.YtjcpamjeekfblaaGreatDoor
def TabN (a c b n k:Nat):Prop :=
  (b=7 ↔ (c=92∧a≠7)) ∧
  ((b=6∨b=7∨b=8) ↔ (((a=6∨a=7∨a=8)∧¬ (c=34∧a≠7))∨(¬ (a=6∨a=7∨a=8)∧c=34))) ∧
  (¬ (a=6∨a=7∨a=8)→(c=91∨c=123)→k=n+1) ∧
  (¬ (a=6∨a=7∨a=8)→(c=93∨c=125)→k+1=n) ∧
  ((a=6∨a=7∨a=8)∨¬ (c=91∨c=123∨c=93∨c=125)→k=n)
def TabV (m:Mc) (c:Nat) (m':Mc):Prop:=TabN m.st c m'.st m.op.length m'.op.length
theorem dropLast_len {m:Mc} (h:topN m≠0):m.op.dropLast.length+1=m.op.length:=by
  have:=List.length_pos_iff.mpr (op_ne h)
  rw [List.length_dropLast];omega
theorem value_tab {m m':Mc} {c:Nat} (hs:m.st=0∨m.st=1) (h:valueM m c=some m'):TabV m c m':=by
  unfold valueM at h
  simp only [digN,decide_eq_true_eq] at h
  repeat' split at h
  all_goals first
    | (cases h;done)
    | (injection h with h;subst h
       unfold TabV;try simp only [List.length_append,List.length_singleton]
       unfold TabN;refine ⟨?_,?_,?_,?_,?_⟩ <;> omega)
theorem after_tab {m m':Mc} {c:Nat} (hs:m.st=5∨10≤m.st) (h:afterM m c=some m'):TabV m c m':=by
  unfold afterM at h
  simp only [blankN,decide_eq_true_eq] at h
  repeat' split at h
  all_goals first
    | (cases h;done)
    | (injection h with h;subst h
       unfold TabV;try simp only
       unfold TabN;refine ⟨?_,?_,?_,?_,?_⟩ <;> omega)
    | (rename_i h4
       have hz:topN m≠0:=by omega
       have:=dropLast_len hz
       injection h with h;subst h
       unfold TabV;try simp only
       unfold TabN;refine ⟨?_,?_,?_,?_,?_⟩ <;> omega)
theorem char_tab {m m':Mc} {c:Nat} (hs:m.st=6) (hb:0<m.lf→128≤m.lo) (h:charM m c=some m'):TabV m c m':=by
  unfold charM at h
  repeat' split at h
  all_goals first
    | (cases h;done)
    | (injection h with h;subst h
       unfold TabV;try simp only
       unfold TabN;refine ⟨?_,?_,?_,?_,?_⟩ <;> omega)
theorem esc_tab {m m':Mc} {c:Nat} (hs:m.st=7∨m.st=8) (h:escM m c=some m'):TabV m c m':=by
  unfold escM at h
  simp only [hexN,decide_eq_true_eq] at h
  by_cases e:m.st=8
  · rw [if_pos e] at h
    split at h
    · injection h with h;subst h
      unfold TabV;try simp only
      split <;> (unfold TabN;refine ⟨?_,?_,?_,?_,?_⟩ <;> omega)
    · cases h
  · rw [if_neg e] at h
    repeat' split at h
    all_goals first
      | (cases h;done)
      | (injection h with h;subst h
         unfold TabV;try simp only
         unfold TabN;refine ⟨?_,?_,?_,?_,?_⟩ <;> omega)
theorem num_tab {m m':Mc} {c:Nat} (hs:10≤m.st) (h:numM m c=some m'):TabV m c m':=by
  unfold numM at h
  simp only [digN,decide_eq_true_eq] at h
  repeat' split at h
  all_goals first
    | (cases h;done)
    | (exact after_tab (Or.inr hs) h)
    | (injection h with h;subst h
       unfold TabV;try simp only
       unfold TabN;refine ⟨?_,?_,?_,?_,?_⟩ <;> omega)
    | (injection h with h;subst h
       unfold TabV;try simp only
       unfold TabN;refine ⟨?_,?_,?_,?_,?_⟩ <;> omega)
theorem step_tab {m m':Mc} {c:Nat} (f:Fit m) (hb:m.st=6→0<m.lf→128≤m.lo) (h:stepM m c=some m'):TabV m c m':=by
  unfold stepM at h
  by_cases h1:10≤m.st
  · rw [if_pos h1] at h;exact num_tab h1 h
  rw [if_neg h1] at h
  by_cases h2:m.st=6
  · rw [if_pos h2] at h;exact char_tab h2 (hb h2) h
  rw [if_neg h2] at h
  by_cases h3:m.st=7∨m.st=8
  · rw [if_pos h3] at h;exact esc_tab h3 h
  rw [if_neg h3] at h
  by_cases h4:m.st=9
  · rw [if_pos h4] at h
    cases hw:m.wd with
    | nil=>rw [hw] at h;cases h
    | cons x r =>
      rw [hw] at h
      have hx:=f.wd x (by rw [hw];simp)
      simp only at h
      by_cases h5:x=c
      · rw [if_pos h5] at h
        injection h with h;subst h
        unfold TabV;try simp only
        split <;> (unfold TabN;refine ⟨?_,?_,?_,?_,?_⟩ <;> omega)
      · rw [if_neg h5] at h;cases h
  rw [if_neg h4] at h
  by_cases h5:blankN c=true
  · rw [if_pos h5] at h;injection h with h;subst h
    simp only [blankN,decide_eq_true_eq] at h5
    unfold TabV;try simp only
    unfold TabN;refine ⟨?_,?_,?_,?_,?_⟩ <;> omega
  rw [if_neg h5] at h
  by_cases h6:m.st=5
  · rw [if_pos h6] at h;exact after_tab (Or.inl h6) h
  rw [if_neg h6] at h
  by_cases h7:m.st=4
  · rw [if_pos h7] at h
    by_cases h8:c=58
    · rw [if_pos h8] at h;injection h with h;subst h
      unfold TabV;try simp only
      unfold TabN;refine ⟨?_,?_,?_,?_,?_⟩ <;> omega
    · rw [if_neg h8] at h;cases h
  rw [if_neg h7] at h
  by_cases h8:m.st=0
  · rw [if_pos h8] at h;exact value_tab (Or.inl h8) h
  rw [if_neg h8] at h
  by_cases h9:(m.st=1∧c=93)∨(m.st=2∧c=125)
  · rw [if_pos h9] at h;injection h with h;subst h
    have hz:topN m≠0:=by
      rcases h9 with h9 | h9
      · have:=f.s1 h9.1;omega
      · have:=f.s2 (Or.inl h9.1);omega
    have:=dropLast_len hz
    unfold TabV;try simp only
    unfold TabN;refine ⟨?_,?_,?_,?_,?_⟩ <;> omega
  rw [if_neg h9] at h
  by_cases h10:m.st=1
  · rw [if_pos h10] at h;exact value_tab (Or.inr h10) h
  rw [if_neg h10] at h
  by_cases h11:c=34
  · rw [if_pos h11] at h;injection h with h;subst h
    unfold TabV;try simp only
    unfold TabN;refine ⟨?_,?_,?_,?_,?_⟩ <;> omega
  · rw [if_neg h11] at h;cases h
def LoM (m:Mc):Prop:=m.st=6→0<m.lf→128≤m.lo
theorem lo0:LoM mc0:=by intro h;simp [mc0] at h
theorem lowB_le (c:Nat):128≤lowB c:=by
  unfold lowB
  repeat' split
  all_goals omega
theorem value_lf {m m':Mc} {c:Nat} (h:valueM m c=some m'):m'.lf=m.lf:=by
  unfold valueM at h
  repeat' split at h
  all_goals first
    | (cases h;done)
    | (injection h with h;subst h;rfl)
theorem after_lf {m m':Mc} {c:Nat} (h:afterM m c=some m'):m'.lf=m.lf:=by
  unfold afterM at h
  repeat' split at h
  all_goals first
    | (cases h;done)
    | (injection h with h;subst h;rfl)
theorem num_lf {m m':Mc} {c:Nat} (h:numM m c=some m'):m'.lf=m.lf:=by
  unfold numM at h
  repeat' split at h
  all_goals first
    | (cases h;done)
    | (exact after_lf h)
    | (injection h with h;subst h;rfl)
theorem step_lf {m m':Mc} {c:Nat} (h2:¬ m.st=6) (h3:¬ (m.st=7∨m.st=8)) (h:stepM m c=some m'):m'.lf=m.lf:=by
  unfold stepM at h
  by_cases h1:10≤m.st
  · rw [if_pos h1] at h;exact num_lf h
  rw [if_neg h1,if_neg h2,if_neg h3] at h
  by_cases h4:m.st=9
  · rw [if_pos h4] at h
    cases hw:m.wd with
    | nil=>rw [hw] at h;cases h
    | cons x r =>
      rw [hw] at h
      simp only at h
      by_cases h5:x=c
      · rw [if_pos h5] at h;injection h with h;subst h;rfl
      · rw [if_neg h5] at h;cases h
  rw [if_neg h4] at h
  by_cases h5:blankN c=true
  · rw [if_pos h5] at h;injection h with h;subst h;rfl
  rw [if_neg h5] at h
  by_cases h6:m.st=5
  · rw [if_pos h6] at h;exact after_lf h
  rw [if_neg h6] at h
  by_cases h7:m.st=4
  · rw [if_pos h7] at h
    by_cases h8:c=58
    · rw [if_pos h8] at h;injection h with h;subst h;rfl
    · rw [if_neg h8] at h;cases h
  rw [if_neg h7] at h
  by_cases h8:m.st=0
  · rw [if_pos h8] at h;exact value_lf h
  rw [if_neg h8] at h
  by_cases h9:(m.st=1∧c=93)∨(m.st=2∧c=125)
  · rw [if_pos h9] at h;injection h with h;subst h;rfl
  rw [if_neg h9] at h
  by_cases h10:m.st=1
  · rw [if_pos h10] at h;exact value_lf h
  rw [if_neg h10] at h
  by_cases h11:c=34
  · rw [if_pos h11] at h;injection h with h;subst h;rfl
  · rw [if_neg h11] at h;cases h
theorem step_lo {m m':Mc} {c:Nat} (f:Fit m) (g:Fit2 m) (h:stepM m c=some m'):LoM m':=by
  have f':=step_fit f h
  by_cases h2:m.st=6
  · unfold stepM at h
    rw [if_neg (by omega),if_pos h2] at h
    have:=lowB_le c
    unfold charM at h
    repeat' split at h
    all_goals first
      | (cases h;done)
      | (injection h with h;subst h
         intro _ _
         simp only
         omega)
  · -- a text begins,or goes on,with nothing that has to come
    intro h6 hl
    exfalso
    have h8:=g.l8
    by_cases h3:m.st=7∨m.st=8
    · unfold stepM at h
      rw [if_neg (by omega),if_neg h2,if_pos h3] at h
      have h7:m.st=7→m.lf=0:=fun h=>f.lf (by omega) (by omega)
      unfold escM at h
      by_cases e:m.st=8
      · rw [if_pos e] at h
        split at h
        · injection h with h;subst h
          simp only at h6 hl
          split at h6 <;> omega
        · cases h
      · rw [if_neg e] at h
        have:=h7 (by omega)
        repeat' split at h
        all_goals first
          | (cases h;done)
          | (injection h with h;subst h
             simp only at h6 hl
             omega)
    · have h0:m.lf=0:=f.lf (by omega) (by omega)
      have:m'.lf=m.lf:=step_lf h2 h3 h
      omega
end Go.Proofs.YtjcpamjeekfblaaGreatDoor
/- The machine and the text's own marks: where it is within a text,where a byte is escaped,how many brackets are open. -/
namespace Go.Proofs.YtjcpamjeekfblaaGreatDoor
theorem byt_byteAt (s:ByteArray) (i:Nat):byt s i=byteAt s i:=by
  unfold byt byteAt
  rw [List.getD_eq_getElem?_getD,Array.getElem?_toList]
theorem take_snoc (m:Mc) (l:List Nat) (x:Nat):takeM m (l++[x])=(takeM m l).bind (fun k=>stepM k x):=by
  rw [takeM_app]
  cases takeM m l with
  | none=>rfl
  | some k =>
    show takeM k [x]=stepM k x
    simp only [takeM]
    cases stepM k x <;> rfl
theorem take_one {m k : Mc} {l : List Nat} {i x : Nat} (h : takeM m (l.take (i + 1)) = some k) (hx : l[i]? = some x) :
    ∃ q,takeM m (l.take i)=some q∧stepM q x=some k:=by
  have hi:i<l.length:=(List.getElem?_eq_some_iff.mp hx).1
  have he:l[i]=x:=(List.getElem?_eq_some_iff.mp hx).2
  rw [List.take_succ_eq_append_getElem hi,he,take_snoc] at h
  cases hq:takeM m (l.take i) with
  | none=>rw [hq] at h;cases h
  | some q=>rw [hq] at h;exact ⟨q,rfl,h⟩
theorem take_lo {m m':Mc} {l:List Nat} (f:Fit m) (g:Fit2 m) (h0:LoM m) (h:takeM m l=some m'):LoM m':=by
  induction l generalizing m with
  | nil=>simp only [takeM] at h;injection h with h;subst h;exact h0
  | cons x l ih =>
    simp only [takeM] at h
    cases hs:stepM m x with
    | none=>rw [hs] at h;cases h
    | some k=>rw [hs] at h;exact ih (step_fit f hs) (step_fit2 g f hs) (step_lo f g hs) h
structure IsDep (s:ByteArray) (D:Nat→Nat):Prop where
  zero:D 0=0
  up:∀ i,i<s.size→outS s i=true→(byteAt s i=91∨byteAt s i=123)→D (i+1)=D i+1
  down:∀ i,i<s.size→outS s i=true→(byteAt s i=93∨byteAt s i=125)→D (i+1)=D i-1
  same:∀ i,i<s.size→(outS s i=false∨¬ (byteAt s i=91∨byteAt s i=123∨byteAt s i=93∨byteAt s i=125))→D (i+1)=D i
theorem take_marks {s : ByteArray} {D : Nat → Nat} (hD : IsDep s D) (i : Nat) (hi : i ≤ s.size) {m : Mc} (h : takeM mc0 ((byts s).take i) = some m) :
    escS s i=decide (m.st=7)∧oddG (markS s) i=decide (m.st=6∨m.st=7∨m.st=8)∧D i=m.op.length:=by
  induction i generalizing m with
  | zero =>
    simp only [List.take_zero,takeM] at h;injection h with h;subst h
    exact ⟨rfl,rfl,hD.zero⟩
  | succ i ih =>
    have hx:(byts s)[i]? = some (byteAt s i):=by rw [byts_get s i (by omega),byt_byteAt]
    obtain ⟨q,hq,hs⟩:=take_one h hx
    obtain ⟨i1,i2,i3⟩:=ih (by omega) hq
    have f:=take_fit fit0 hq
    have g:=take_fit2 fit20 fit0 hq
    obtain ⟨t1,t2,t3,t4,t5⟩:=step_tab f (take_lo fit0 fit20 lo0 hq) hs
    have e1:escS s (i+1)=decide (m.st=7):=by
      show (slash s i && !escS s i)=_
      rw [i1]
      show (decide (byteAt s i=92) && !decide (q.st=7))=_
      rw [Bool.eq_iff_iff]
      simp only [Bool.and_eq_true,Bool.not_eq_true',decide_eq_true_eq,decide_eq_false_iff_not]
      exact t1.symm
    have hm:markS s i=decide (byteAt s i=34∧q.st≠7):=by
      show (decide (byteAt s i=34) && !escS s i)=_
      rw [i1,Bool.eq_iff_iff]
      simp only [Bool.and_eq_true,Bool.not_eq_true',decide_eq_true_eq,decide_eq_false_iff_not,ne_eq]
    have e2:oddG (markS s) (i+1)=decide (m.st=6∨m.st=7∨m.st=8):=by
      rw [oddG_succ,i2,hm,Bool.eq_iff_iff,decide_eq_true_eq,t2]
      by_cases a:q.st=6∨q.st=7∨q.st=8
      · by_cases b:byteAt s i=34∧q.st≠7
        · rw [decide_eq_true a,decide_eq_true b];simp;omega
        · rw [decide_eq_true a,decide_eq_false b];simp only [Bool.xor_false,true_iff];exact Or.inl ⟨a,b⟩
      · by_cases b:byteAt s i=34∧q.st≠7
        · rw [decide_eq_false a,decide_eq_true b];simp only [Bool.false_xor,true_iff];exact Or.inr ⟨a,b.1⟩
        · rw [decide_eq_false a,decide_eq_false b];simp only [Bool.xor_false,Bool.false_eq_true,false_iff];omega
    refine ⟨e1,e2,?_⟩
    have ho:outS s i=decide (¬ (byteAt s i=34∧q.st≠7)∧¬ (m.st=6∨m.st=7∨m.st=8)):=by
      unfold outS inS
      rw [decide_eq_true (by omega:i<s.size),e2,hm,Bool.true_and,Bool.eq_iff_iff]
      simp only [Bool.and_eq_true,Bool.not_eq_true',decide_eq_true_eq,decide_eq_false_iff_not]
    by_cases a:q.st=6∨q.st=7∨q.st=8
    · have hb:=t5 (Or.inl a)
      rw [hb,← i3]
      apply hD.same i (by omega)
      by_cases b:byteAt s i=34
      · right;omega
      · left
        rw [ho,decide_eq_false_iff_not]
        have:m.st=6∨m.st=7∨m.st=8:=t2.mpr (Or.inl ⟨a,fun e=>b e.1⟩)
        exact fun e=>e.2 this
    · by_cases b1:byteAt s i=91∨byteAt s i=123
      · have hb:=t3 a b1
        have:¬ (m.st=6∨m.st=7∨m.st=8):=by rw [t2];omega
        rw [hD.up i (by omega) (by rw [ho,decide_eq_true_eq];exact ⟨by omega,this⟩) b1,i3,hb]
      · by_cases b2:byteAt s i=93∨byteAt s i=125
        · have hb:=t4 a b2
          have:¬ (m.st=6∨m.st=7∨m.st=8):=by rw [t2];omega
          rw [hD.down i (by omega) (by rw [ho,decide_eq_true_eq];exact ⟨by omega,this⟩) b2,i3];omega
        · rw [hD.same i (by omega) (Or.inr (by omega)),i3]
          exact (t5 (Or.inr (by omega))).symm
end Go.Proofs.YtjcpamjeekfblaaGreatDoor
/- As many brackets as are open at most: by the machine,and by the text's own marks. -/
namespace Go.Proofs.YtjcpamjeekfblaaGreatDoor
def maxD (D:Nat→Nat):Nat→Nat
  | 0=>D 0
  | n+1=>max (maxD D n) (D (n+1))
theorem maxD_ge (D:Nat→Nat) {i n:Nat} (h:i≤n):D i≤maxD D n:=by
  induction n with
  | zero=>rw [Nat.le_zero.mp h];exact Nat.le_refl _
  | succ n ih =>
    simp only [maxD]
    rcases Nat.lt_or_ge n i with h1 | h1
    · rw [show i=n+1 by omega];omega
    · have:=ih h1;omega
theorem maxD_le (D:Nat→Nat) {n k:Nat} (h:∀ i,i≤n→D i≤k):maxD D n≤k:=by
  induction n with
  | zero=>exact h 0 (Nat.le_refl _)
  | succ n ih =>
    simp only [maxD]
    have h1:=ih (fun i hi=>h i (by omega))
    have h2:=h (n+1) (Nat.le_refl _)
    omega
end Go.Proofs.YtjcpamjeekfblaaGreatDoor
/- What a verdict is,where a value begins and ends;each text has its verdict,each place of a document its answer. -/
namespace Go.Proofs.YtjcpamjeekfblaaGreatDoor
open Go.RowKit Go.Shelf
theorem after_lf4 {m k:Mc} {c:Nat} (h:afterM m c=some k):k.lf=m.lf∧k.op.length≤m.op.length+1:=by
  unfold afterM at h
  repeat' split at h
  all_goals first
    | (cases h;done)
    | (injection h with h;subst h;refine ⟨rfl,?_⟩;simp only [List.length_dropLast];omega)
    | (injection h with h;subst h;exact ⟨rfl,Nat.le_succ _⟩)
theorem value_lf4 {m k:Mc} {c:Nat} (h:valueM m c=some k):k.lf=m.lf∧k.op.length≤m.op.length+1:=by
  unfold valueM at h
  repeat' split at h
  all_goals first
    | (cases h;done)
    | (injection h with h;subst h;refine ⟨rfl,?_⟩;simp only [List.length_append,List.length_singleton];omega)
    | (injection h with h;subst h;exact ⟨rfl,Nat.le_succ _⟩)
theorem char_lf {m k:Mc} {c:Nat} (h:charM m c=some k) (hl:m.lf≤4):k.lf≤4:=by
  unfold charM at h
  repeat' split at h
  all_goals first
    | (cases h;done)
    | (injection h with h;subst h;simp only;omega)
theorem esc_lf {m k:Mc} {c:Nat} (h:escM m c=some k) (hl:m.lf≤4):k.lf≤4:=by
  unfold escM at h
  repeat' split at h
  all_goals first
    | (cases h;done)
    | (injection h with h;subst h;simp only;omega)
theorem num_lf4 {m k:Mc} {c:Nat} (h:numM m c=some k) (hl:m.lf≤4):k.lf≤4∧k.op.length≤m.op.length+1:=by
  unfold numM at h
  repeat' split at h
  all_goals first
    | (cases h;done)
    | (injection h with h;subst h;exact ⟨hl,Nat.le_succ _⟩)
    | (obtain ⟨h1,h2⟩:=after_lf4 h;exact ⟨by omega,h2⟩)
theorem step_lf4 {m k:Mc} {c:Nat} (h:stepM m c=some k) (hl:m.lf≤4):k.lf≤4∧k.op.length≤m.op.length+1:=by
  unfold stepM at h
  by_cases k1:10≤m.st
  · rw [if_pos k1] at h
    exact num_lf4 h hl
  rw [if_neg k1] at h
  by_cases k2:m.st=6
  · rw [if_pos k2] at h
    exact ⟨char_lf h hl,by rw [(char_keeps h).1];omega⟩
  rw [if_neg k2] at h
  by_cases k3:m.st=7∨m.st=8
  · rw [if_pos k3] at h
    exact ⟨esc_lf h hl,by rw [(esc_keeps h).1];omega⟩
  rw [if_neg k3] at h
  by_cases k4:m.st=9
  · rw [if_pos k4] at h
    split at h
    · cases h
    · split at h
      · injection h with h;subst h;exact ⟨hl,Nat.le_succ _⟩
      · cases h
  rw [if_neg k4] at h
  repeat' split at h
  all_goals first
    | (cases h;done)
    | (injection h with h;subst h;refine ⟨hl,?_⟩;simp only [List.length_dropLast];omega)
    | (injection h with h;subst h;exact ⟨hl,Nat.le_succ _⟩)
    | exact ⟨by rw [(value_lf4 h).1];exact hl,(value_lf4 h).2⟩
    | exact ⟨by rw [(after_lf4 h).1];exact hl,(after_lf4 h).2⟩
structure RunOk (n:Nat) (m:Mc):Prop where
  fit:Fit m
  fit2:Fit2 m
  lf:m.lf≤4
  op:m.op.length≤n
theorem RunOk.step {n:Nat} {m k:Mc} {c:Nat} (h:RunOk n m) (hs:stepM m c=some k):RunOk (n+1) k :=
  ⟨step_fit h.fit hs,step_fit2 h.fit2 h.fit hs,(step_lf4 hs h.lf).1,by have:=(step_lf4 hs h.lf).2;have:=h.op;omega⟩
theorem runOk0:RunOk 0 mc0:=⟨fit0,fit20,by decide,by decide⟩
theorem take_ok:∀ (l:List Nat) (n:Nat) (m k:Mc),RunOk n m→takeM m l=some k→RunOk (n+l.length) k:=by
  intro l
  induction l with
  | nil=>intro n m k h e;cases e;exact h
  | cons x l ih =>
    intro n m k h e
    cases hs:stepM m x with
    | none=>simp [takeM,hs] at e
    | some m1 =>
      rw [takeM_cons hs] at e
      have:=ih (n+1) m1 k (h.step hs) e
      rw [List.length_cons]
      rw [show n+(l.length+1)=n+1+l.length by omega]
      exact this
theorem run_at:∀ (l:List Nat) (i:Nat) (m0 m:Mc) (x:Nat),takeM m0 (l.take i)=some m→l[i]? = some x→stepM m x=none→runM m0 l=(i,m):=by
  intro l
  induction l with
  | nil=>intro i m0 m x _ h;simp at h
  | cons y l ih =>
    intro i m0 m x ht hx hs
    cases i with
    | zero =>
      simp at hx
      subst hx
      cases ht
      simp [runM,hs]
    | succ i =>
      rw [List.take_succ_cons] at ht
      cases hy:stepM m0 y with
      | none=>simp [takeM,hy] at ht
      | some m1 =>
        rw [takeM_cons hy] at ht
        have:=ih i m1 m x ht (by simpa using hx) hs
        simp [runM,hy,this]
theorem run_all (l:List Nat) (m0 m:Mc) (h:takeM m0 l=some m):runM m0 l=(l.length,m):=by
  obtain ⟨h1,h2,-⟩:=run_take m0 l
  exact Prod.ext (h1.2 (by rw [h];rfl)) (h2 m h)
theorem take_next {l:List Nat} {i x:Nat} {m0 m k:Mc} (h:takeM m0 (l.take i)=some m) (hx:l[i]? = some x) (hs:stepM m x=some k):takeM m0 (l.take (i+1))=some k:=by
  rw [List.take_add_one,hx,takeM_app,h]
  show takeM m [x]=some k
  rw [takeM_cons hs]
  rfl
theorem run_ok (l:List Nat):RunOk l.length (runM mc0 l).2∧(runM mc0 l).1≤l.length:=by
  have h:=take_ok _ 0 mc0 _ runOk0 (run_parts mc0 l)
  have h2:=(run_take mc0 l).2.2
  refine ⟨⟨h.fit,h.fit2,h.lf,?_⟩,h2⟩
  have:=h.op
  rw [List.length_take] at this
  omega
def IsChk (s:ByteArray) (d:Int) (C A:Nat) (E:Int):Prop :=
  ((d<1∨1024<d)∧C=0∧A=0∧E=2) ∨
  ((1≤d∧d≤1024)∧E=0∧∃ k m,runM mc0 (byts s)=(k,m) ∧
    (((k<s.size∨wholeM m=false)∧C=2∧A=k) ∨
     (k=s.size∧wholeM m=true∧((∃ i,i<s.size∧d<((depS s (i+1):Nat):Int)∧(∀ j,j<i→((depS s (j+1):Nat):Int)≤d)∧C=3∧A=i)∨((∀ j,j<s.size→((depS s (j+1):Nat):Int)≤d)∧C=1∧A=s.size)))))
theorem sizeVer:(Tryz.prog.info? 137).map (·.size)=some 2:=by kernel_rfl
theorem ret_ver {fn : Func} {p u : Tmp} {R : Ending → World → Prop} {a : Act} {w : World} {b : Nat} {x y : Value} (hres : fn.results = #[.cell p 137, .tmp u]) (hp : a.tmps.getD p undef = .pointer (some ⟨b, 0, none⟩))
    (h:At w b #[x,y] 137) (hd:a.defers=[]) (hR:R (.returned (.tuple #[.agg #[x,y],a.tmps.getD u undef])) w):bodyPost Tryz.prog fn R .ret a w:=by
  refine bodyPost_ret (v:=.tuple #[.agg #[x,y],a.tmps.getD u undef]) ?_ hd hR
  have hl:(loadVar 137 ⟨b,0,none⟩).run Tryz.prog w = .ok (.agg #[x,y]) w:=run_loadVar_row (P:=Tryz.prog) w b 137 137 #[x,y] (0,0) _ h Tryz.underlying137 rfl sizeVer
  rw [results_cell_tmp hres,hp]
  simp [asAddr,hl]
theorem At.two_ver {w:World} {b:Nat} {x y x' y':Value} (h:At w b #[x,y] 137):At ((w.setCell ⟨b,0,none⟩ x').setCell ⟨b,1,none⟩ y') b #[x',y'] 137:=by
  have:=(h.set 0 x').set 1 y'
  simpa using this
def ChkP (s:ByteArray) (d:Int) (w:World) (e:Ending) (w':World):Prop:=∃ (C A:Nat) (E:Int),e = .returned (.tuple #[.agg #[.int .i64 (C:Int),.int .i64 (A:Int)],.int .i64 E])∧IsChk s d C A E∧Below w.heap.size w w'
theorem dep_le (s:ByteArray) (i:Nat):depS s i≤i:=by
  induction i with
  | zero=>exact Nat.le_refl _
  | succ i ih =>
    rw [depS_succ]
    unfold stepD
    repeat' split
    all_goals omega
theorem IsChk.uniq {s:ByteArray} {d:Int} {C C' A A':Nat} {E E':Int} (h:IsChk s d C A E) (h':IsChk s d C' A' E'):C=C'∧A=A'∧E=E':=by
  rcases h with ⟨h1,h2,h3,h4⟩ | ⟨h1,h2,k,m,h3,h4⟩ <;> rcases h' with ⟨g1,g2,g3,g4⟩ | ⟨g1,g2,k',m',g3,g4⟩
  · exact ⟨by omega,by omega,by omega⟩
  · exfalso
    obtain ⟨p,q⟩:=g1
    clear g4 g3
    omega
  · exfalso
    obtain ⟨p,q⟩:=h1
    clear h4 h3
    omega
  · rw [h3] at g3
    injection g3 with e1 e2
    subst e1 e2
    refine ⟨?_,?_,by omega⟩ <;>
      (rcases h4 with ⟨a1,a2,a3⟩ | ⟨a1,a2,a3⟩ <;> rcases g4 with ⟨b1,b2,b3⟩ | ⟨b1,b2,b3⟩
       · omega
       · rcases a1 with a1 | a1
         · omega
         · rw [a1] at b2;cases b2
       · rcases b1 with b1 | b1
         · omega
         · rw [b1] at a2;cases a2
       · rcases a3 with ⟨i,c1,c2,c3,c4,c5⟩ | ⟨c1,c2,c3⟩ <;> rcases b3 with ⟨j,d1,d2,d3,d4,d5⟩ | ⟨d1,d2,d3⟩
         · rcases Nat.lt_trichotomy i j with e | e | e
           · have:=d3 i e;omega
           · omega
           · have:=c3 j e;omega
         · have:=d1 i c1;omega
         · have:=c1 j d1;omega
         · omega)
def stopB (x:Nat):Bool:=blankN x || (x == 44 || (x == 93 || x == 125))
def IsSkip (s:ByteArray) (j k:Nat):Prop:=j≤k∧k≤s.size∧(∀ q,j≤q→q<k→blankN (byteAt s q)=true)∧(k=s.size∨blankN (byteAt s k)=false)
theorem skip_ex (s:ByteArray):∀ (n j:Nat),s.size-j≤n→j≤s.size→∃ e,IsSkip s j e:=by
  intro n
  induction n with
  | zero=>intro j h1 h2;exact ⟨j,Nat.le_refl _,h2,fun q _ _=>by omega,.inl (by omega)⟩
  | succ n ih =>
    intro j h1 h2
    by_cases hj:j=s.size
    · exact ⟨j,Nat.le_refl _,h2,fun q _ _=>by omega,.inl hj⟩
    · cases hs:blankN (byteAt s j) with
      | false=>exact ⟨j,Nat.le_refl _,h2,fun q _ _=>by omega,.inr hs⟩
      | true =>
        obtain ⟨e,g1,g2,g3,g4⟩:=ih (j+1) (by omega) (by omega)
        exact ⟨e,by omega,g2,fun q q1 q2=>by
          by_cases e:q=j
          · subst e;exact hs
          · exact g3 q (by omega) q2,g4⟩
theorem isDep (s:ByteArray):IsDep s (depS s):=by
  have hop:∀ x,x=91∨x=123→opB x=true∧clB x=false:=by rintro x (rfl | rfl) <;> decide
  have hcl:∀ x,x=93∨x=125→opB x=false∧clB x=true:=by rintro x (rfl | rfl) <;> decide
  refine ⟨rfl,fun i _ ho hb=>?_,fun i _ ho hb=>?_,fun i _ h=>?_⟩
  · rw [depS_succ]
    unfold brO brC stepD
    rw [ho,(hop _ hb).1]
    rfl
  · rw [depS_succ]
    unfold brO brC stepD
    rw [ho,(hcl _ hb).1,(hcl _ hb).2]
    rfl
  · rw [depS_succ]
    unfold brO brC stepD
    rcases h with h | h
    · rw [h];rfl
    · have h1:opB (byteAt s i)=false:=by unfold opB;simp;omega
      have h2:clB (byteAt s i)=false:=by unfold clB;simp;omega
      rw [h1,h2]
      simp
theorem least_ex {P:Nat→Prop}:∀ n:Nat,(∃ i,i<n∧P i∧∀ j,j<i→¬ P j)∨∀ j,j<n→¬ P j:=by
  intro n
  induction n with
  | zero=>exact .inr (fun j hj=>by omega)
  | succ n ih =>
    rcases ih with ⟨i,h1,h2,h3⟩ | h
    · exact .inl ⟨i,by omega,h2,h3⟩
    · by_cases hn:P n
      · exact .inl ⟨n,by omega,hn,h⟩
      · exact .inr (fun j hj => by
          by_cases e:j=n
          · subst e;exact hn
          · exact h j (by omega))
theorem chk_ex (s:ByteArray) (d:Int):∃ C A E,IsChk s d C A E:=by
  by_cases hd:d<1∨1024<d
  · exact ⟨0,0,2,.inl ⟨hd,rfl,rfl,rfl⟩⟩
  · obtain ⟨k,m,hkm⟩:∃ k m,runM mc0 (byts s)=(k,m):=⟨_,_,rfl⟩
    have hk:k≤s.size:=by have:=(run_ok (byts s)).2;rw [hkm,byts_length] at this;exact this
    have hd':1≤d∧d≤1024:=by omega
    by_cases h1:k<s.size∨wholeM m=false
    · exact ⟨2,k,0,.inr ⟨hd',rfl,k,m,hkm,.inl ⟨h1,rfl,rfl⟩⟩⟩
    · have hw : wholeM m = true := by cases h : wholeM m with
        | true=>rfl
        | false=>exact absurd (.inr h) h1
      have hks:k=s.size:=by
        by_cases h:k<s.size
        · exact absurd (.inl h) h1
        · omega
      rcases least_ex (P:=fun i=>d<((depS s (i+1):Nat):Int)) s.size with ⟨i,g1,g2,g3⟩ | g
      · exact ⟨3,i,0,.inr ⟨hd',rfl,k,m,hkm,.inr ⟨hks,hw,.inl ⟨i,g1,g2,fun j hj=>by have:=g3 j hj;omega,rfl,rfl⟩⟩⟩⟩
      · exact ⟨1,s.size,0,.inr ⟨hd',rfl,k,m,hkm,.inr ⟨hks,hw,.inr ⟨fun j hj=>by have:=g j hj;omega,rfl,rfl⟩⟩⟩⟩
theorem chk_doc {s:ByteArray} {d:Int} {C A:Nat} {E:Int} (h:IsChk s d C A E) (hc:C=1∨C=3):docM (byts s):=by
  rcases h with ⟨_,h2,_⟩ | ⟨_,_,k,m,h3,h4⟩
  · omega
  · rcases h4 with ⟨_,h,_⟩ | ⟨h5,h6,_⟩
    · omega
    · refine ⟨m,?_,h6⟩
      have:=run_parts mc0 (byts s)
      rw [h3] at this
      have e:(byts s).take k=byts s:=by rw [h5,← byts_length,List.take_length]
      rw [← e]
      exact this
end Go.Proofs.YtjcpamjeekfblaaGreatDoor

/- The machine within brackets and the machine alone,step for step,both ways. -/
namespace Go.Proofs.YtjcpamjeekfblaaGreatDoor
end Go.Proofs.YtjcpamjeekfblaaGreatDoor
/- A value within a document,taken by the machine alone. -/
namespace Go.Proofs.YtjcpamjeekfblaaGreatDoor
end Go.Proofs.YtjcpamjeekfblaaGreatDoor
/- The text of each value of a document is a document by itself;what begins in a document is a value,a sign or a name. -/
namespace Go.Proofs.YtjcpamjeekfblaaGreatDoor
open Go.RowKit Go.Shelf
theorem mark_quote {s:ByteArray} {a:Nat} (h:markS s a=true):byteAt s a=34:=by
 unfold markS at h
 rw [Bool.and_eq_true] at h
 have h1:=h.1
 unfold quoB at h1
 exact of_decide_eq_true h1
theorem mark_not {s:ByteArray} {a:Nat} (h:byteAt s a≠34):markS s a=false:=by
 cases hm:markS s a with
 | false=>rfl
 | true=>exact absurd (mark_quote hm) h
theorem sgn_iff (s:ByteArray) (i:Nat):sgnB s i=true ↔ (byteAt s i=123∨byteAt s i=125∨byteAt s i=91∨byteAt s i=93∨byteAt s i=58∨byteAt s i=44):=by
 unfold sgnB
 simp only [Bool.or_eq_true,beq_iff_eq]
 omega
end Go.Proofs.YtjcpamjeekfblaaGreatDoor
/- The text of each value of a document is a document by itself. -/
namespace Go.Proofs.YtjcpamjeekfblaaGreatDoor
open Go.RowKit Go.Shelf
end Go.Proofs.YtjcpamjeekfblaaGreatDoor
