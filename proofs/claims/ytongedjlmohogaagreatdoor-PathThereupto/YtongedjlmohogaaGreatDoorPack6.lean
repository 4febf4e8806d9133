/-
  Texts of mine that others lean on, one behind the other.
-/
import Derived.Test.YtongedjlmohogaaGreatDoorPack5
import Derived.Test.YtongedjlmohogaaGreatDoorPack1
import Derived.Lib.ConvBytes
import Derived.Laws.AppendOwn
/- How far a text can be a document's beginning,place by place: blanks,words,numbers,texts between quotes (mathematics alone). -/
namespace Go.Proofs.YtongedjlmohogaaGreatDoor
open Go.RowKit Go.Shelf
theorem get_atV (s:ByteArray) (i:Nat) (h:i<s.size):(byts s)[i]? = some (byteAt s i):=by rw [byts_get s i h,byt_byteAt]
theorem byteAt_out (s:ByteArray) (i:Nat) (h:s.size≤i):byteAt s i=0:=by
 unfold byteAt
 have:s.data[i]? = none:=Array.getElem?_eq_none (show s.data.size≤i from h)
 rw [this]
 rfl
theorem byteAt_in {s:ByteArray} {i:Nat} (h:byteAt s i≠0):i<s.size:=by
 rcases Nat.lt_or_ge i s.size with h1 | h1
 ·exact h1
 ·exact absurd (byteAt_out s i h1) h
theorem lk_byteAt (s:ByteArray) (i:Nat):lk s i=byteAt s i:=by
 by_cases h:i<s.size
 ·rw [lk_at s i h]
  unfold byteAt
  have:s.data[i]? = some (s.data[i]'h):=Array.getElem?_eq_getElem h
  rw [this]
  rfl
 ·rw [lk_out s i (by omega),byteAt_out s i (by omega)]
def Tk (s:ByteArray) (i:Nat) (m:Mc):Prop:=i≤s.size∧takeM mc0 ((byts s).take i)=some m
def BadAt (s:ByteArray) (k:Nat):Prop:=k≤s.size∧∃ m,runM mc0 (byts s)=(k,m)∧(k<s.size∨wholeM m=false)
theorem tk0 (s:ByteArray):Tk s 0 mc0:=⟨Nat.zero_le _,rfl⟩
theorem Tk.next {s:ByteArray} {i:Nat} {m k:Mc} (h:Tk s i m) (hi:i<s.size) (hs:stepM m (byteAt s i)=some k):Tk s (i+1) k :=
 ⟨hi,take_next h.2 (get_atV s i hi) hs⟩
theorem Tk.bad {s:ByteArray} {i:Nat} {m:Mc} (h:Tk s i m) (hi:i<s.size) (hs:stepM m (byteAt s i)=none):BadAt s i :=
 ⟨h.1,m,run_at _ i mc0 m _ h.2 (get_atV s i hi) hs,.inl hi⟩
theorem Tk.all {s:ByteArray} {m:Mc} (h:Tk s s.size m):runM mc0 (byts s)=(s.size,m):=by
 have:=run_all (byts s) mc0 m (by have:=h.2;rwa [byts_whole] at this)
 rwa [byts_length] at this
theorem Tk.fail {s:ByteArray} {i:Nat} {m:Mc} (h:Tk s i m) (hw:wholeM m=false) (hs:stepM m (byteAt s i)=none):BadAt s i:=by
 by_cases hi:i<s.size
 ·exact h.bad hi hs
 ·obtain rfl:i=s.size:=by have:=h.1;omega
  exact ⟨h.1,m,h.all,.inr hw⟩
theorem Tk.fit {s:ByteArray} {i:Nat} {m:Mc} (h:Tk s i m):Fit m:=take_fit fit0 h.2
theorem Tk.fit2 {s:ByteArray} {i:Nat} {m:Mc} (h:Tk s i m):Fit2 m:=take_fit2 fit20 fit0 h.2
theorem Tk.lo {s:ByteArray} {i:Nat} {m:Mc} (h:Tk s i m):LoM m:=take_lo fit0 fit20 lo0 h.2
theorem Tk.uniq {s:ByteArray} {i:Nat} {m k:Mc} (h:Tk s i m) (h':Tk s i k):m=k:=by have:=h.2;rw [h'.2] at this;injection this with e;exact e.symm
theorem Tk.len {s:ByteArray} {i:Nat} {m:Mc} (h:Tk s i m):m.op.length≤i:=by
 have:=(take_ok _ 0 mc0 _ runOk0 h.2).op
 rw [List.length_take] at this
 omega
theorem Tk.dep {s:ByteArray} {i:Nat} {m:Mc} (h:Tk s i m):depS s i=m.op.length:=(take_marks (isDep s) i h.1 h.2).2.2
def Fl (s:ByteArray) (i j L:Nat):Prop:=∀ p,i≤p→p<j→depS s (p+1)≤L
theorem Fl.nil (s:ByteArray) (i L:Nat):Fl s i i L:=fun p a b=>by omega
theorem Fl.trans {s:ByteArray} {i j k L:Nat} (h:Fl s i j L) (h':Fl s j k L):Fl s i k L:=fun p a b=>by
 by_cases e:p<j
 ·exact h p a e
 ·exact h' p (by omega) b
theorem Fl.snoc {s:ByteArray} {i j L:Nat} {k:Mc} (h:Fl s i j L) (t:Tk s (j+1) k) (hk:k.op.length≤L):Fl s i (j+1) L:=fun p a b=>by
 by_cases e:p=j
 ·subst e;rw [t.dep];exact hk
 ·exact h p a (by omega)
theorem Fl.one {s:ByteArray} {i L:Nat} {k:Mc} (t:Tk s (i+1) k) (hk:k.op.length≤L):Fl s i (i+1) L:=(Fl.nil s i L).snoc t hk
theorem Tk.pre {s:ByteArray} {j p:Nat} {k:Mc} (t:Tk s j k) (hp:p≤j):∃ k',Tk s p k':=by
 have h:=t.2
 have e:(byts s).take j=(byts s).take p++((byts s).drop p).take (j-p):=by
  rw [← List.take_add]
  congr 1
  omega
 rw [e,takeM_app] at h
 cases h2:takeM mc0 ((byts s).take p) with
 | none=>rw [h2] at h;cases h
 | some k'=>exact ⟨k',by have:=t.1;omega,h2⟩
def Sq (P:Nat→Prop) (s:ByteArray) (i j:Nat):Prop:=∀ p k,i<p→p≤j→Tk s p k→P k.st
theorem Sq.nil (P:Nat→Prop) (s:ByteArray) (i:Nat):Sq P s i i:=fun p k a b=>by omega
theorem Sq.trans {P:Nat→Prop} {s:ByteArray} {i j k:Nat} (h:Sq P s i j) (h':Sq P s j k):Sq P s i k:=fun p m a b t=>by
 by_cases e:p≤j
 ·exact h p m a e t
 ·exact h' p m (by omega) b t
theorem Sq.snoc {P:Nat→Prop} {s:ByteArray} {i j:Nat} {k:Mc} (h:Sq P s i j) (t:Tk s (j+1) k) (hk:P k.st):Sq P s i (j+1):=fun p m a b t'=>by
 by_cases e:p=j+1
 ·subst e;rw [t'.uniq t];exact hk
 ·exact h p m a (by omega) t'
theorem Sq.one {P:Nat→Prop} {s:ByteArray} {i:Nat} {k:Mc} (t:Tk s (i+1) k) (hk:P k.st):Sq P s i (i+1):=(Sq.nil P s i).snoc t hk
def T6 (x:Nat):Prop:=x=6∨x=7∨x=8
theorem whole_not {m:Mc} (h:m.st≠5) (h1:m.st≠11) (h2:m.st≠12) (h3:m.st≠14) (h4:m.st≠17):wholeM m=false:=by
 unfold wholeM
 rw [decide_eq_false (by omega),Bool.and_false]
theorem whole_open {m:Mc} (h:m.op≠[]):wholeM m=false:=by
 unfold wholeM
 cases e:m.op with
 | nil=>exact absurd e h
 | cons a l=>rfl
def Bh (m:Mc):Prop:=m.st=5∨m.st=11∨m.st=12∨m.st=14∨m.st=17
def Bhd (s:ByteArray) (i:Nat) (m:Mc):Prop:=Bh m∧stepM m (byteAt s i)=afterM m (byteAt s i)
theorem step_blank {m:Mc} {c:Nat} (h:m.st≤5) (hc:blankN c=true):stepM m c=some m:=by
 unfold stepM
 rw [if_neg (by omega),if_neg (by omega),if_neg (by omega),if_neg (by omega),if_pos hc]
theorem step_five {m:Mc} {c:Nat} (h:m.st=5):stepM m c=afterM m c:=by
 by_cases hc:blankN c=true
 ·rw [step_blank (by omega) hc]
  unfold afterM
  rw [if_pos hc]
  cases m
  simp at h
  rw [h]
 ·unfold stepM
  rw [if_neg (by omega),if_neg (by omega),if_neg (by omega),if_neg (by omega),if_neg hc,if_pos h]
theorem bhd_five {s:ByteArray} {i:Nat} {m:Mc} (h:m.st=5):Bhd s i m:=⟨.inl h,step_five h⟩
theorem Tk.skip {s:ByteArray} {j k:Nat} {m:Mc} (h:Tk s j m) (hm:m.st≤5) (hs:IsSkip s j k):Tk s k m∧Fl s j k m.op.length:=by
 obtain ⟨h1,h2,h3,-⟩:=hs
 obtain ⟨n,rfl⟩:∃ n,k=j+n:=⟨k-j,by omega⟩
 clear h1
 induction n with
 | zero=>exact ⟨h,Fl.nil _ _ _⟩
 | succ n ih =>
  have:=ih (by omega) (fun q a b=>h3 q a (by omega))
  have t:=Tk.next this.1 (by omega) (step_blank hm (h3 _ (by omega) (by omega)))
  exact ⟨t,this.2.snoc t (Nat.le_refl _)⟩
theorem Tk.skipB {s:ByteArray} {j k:Nat} {m:Mc} (h:Tk s j m) (hm:Bhd s j m) (hs:IsSkip s j k):∃ m',Tk s k m'∧Bhd s k m'∧m'.op=m.op∧Fl s j k m.op.length:=by
 by_cases he:j=k
 ·subst he
  exact ⟨m,h,hm,rfl,Fl.nil _ _ _⟩
 ·obtain ⟨h1,h2,h3,h4⟩:=hs
  have hb:=h3 j (Nat.le_refl _) (by omega)
  have e:stepM m (byteAt s j)=some { m with st:=5 }:=by
   rw [hm.2]
   unfold afterM
   rw [if_pos hb]
  have t:=h.next (by omega) e
  have t2:=t.skip (k:=k) (Nat.le_refl 5) ⟨by omega,h2,fun q a b=>h3 q (by omega) b,h4⟩
  exact ⟨_,t2.1,bhd_five rfl,rfl,(Fl.one t (Nat.le_refl _)).trans t2.2⟩
def Vw (s:ByteArray) (i:Nat) (m:Mc):Prop:=m.st=0∨(m.st=1∧byteAt s i≠93∧blankN (byteAt s i)=false)
theorem step_value {s:ByteArray} {i:Nat} {m:Mc} (h:Vw s i m) (hb:blankN (byteAt s i)=false):stepM m (byteAt s i)=valueM m (byteAt s i):=by
 unfold stepM
 rcases h with h | ⟨h,h1,-⟩
 ·rw [if_neg (by omega),if_neg (by omega),if_neg (by omega),if_neg (by omega),if_neg (by rw [hb];decide),if_neg (by omega),if_neg (by omega),if_pos h]
 ·rw [if_neg (by omega),if_neg (by omega),if_neg (by omega),if_neg (by omega),if_neg (by rw [hb];decide),if_neg (by omega),if_neg (by omega),if_neg (by omega),if_neg (by omega),if_pos h]
theorem Vw.whole {s:ByteArray} {i:Nat} {m:Mc} (h:Vw s i m):wholeM m=false:=by
 rcases h with h | ⟨h,-⟩ <;> exact whole_not (by omega) (by omega) (by omega) (by omega) (by omega)
theorem Vw.skip {s:ByteArray} {i k:Nat} {m:Mc} (h:Vw s i m) (hs:IsSkip s i k):Vw s k m:=by
 rcases h with h | ⟨h,h1,h2⟩
 ·exact .inl h
 ·obtain ⟨a,b,c,d⟩:=hs
  have:i=k:=by
   rcases Nat.lt_or_ge i k with x | x
   ·rw [c i (Nat.le_refl _) x] at h2;cases h2
   ·omega
  subst this
  exact .inr ⟨h,h1,h2⟩
def Qw (s:ByteArray) (i:Nat) (nm:Bool) (m:Mc):Prop:=wholeM m=false∧stepM m 34=some { m with nm:=nm,st:=6 }∧m.lf=0∧(byteAt s i≠34→stepM m (byteAt s i)=none)
theorem qw_value {s:ByteArray} {i:Nat} {m:Mc} (t:Tk s i m) (h:Vw s i m) (hc:byteAt s i=34):Qw s i false m:=by
 have hb:blankN (byteAt s i)=false:=by rw [hc];decide
 have e:=step_value h hb
 rw [hc] at e
 refine ⟨h.whole,?_,t.fit.lf (by rcases h with h | ⟨h,-⟩ <;> omega) (by rcases h with h | ⟨h,-⟩ <;> omega),fun x=>absurd hc x⟩
 rw [e]
 unfold valueM
 rw [if_neg (by decide),if_neg (by decide),if_pos rfl]
theorem qw_name {s:ByteArray} {i:Nat} {m:Mc} (t:Tk s i m) (h:m.st=3∨(m.st=2∧byteAt s i≠125)) (hb:blankN (byteAt s i)=false):Qw s i true m:=by
 have key:∀ c,blankN c=false→(m.st=3∨(m.st=2∧c≠125))→stepM m c=if c=34 then some { m with nm:=true,st:=6 } else none:=by
  intro c hc h
  unfold stepM
  rw [if_neg (by omega),if_neg (by omega),if_neg (by omega),if_neg (by omega),if_neg (by rw [hc];decide),if_neg (by omega),if_neg (by omega),if_neg (by omega),if_neg (by omega),if_neg (by omega)]
 refine ⟨whole_not (by omega) (by omega) (by omega) (by omega) (by omega),?_,t.fit.lf (by omega) (by omega),fun hc=>?_⟩
 ·rw [key 34 (by decide) (by omega),if_pos rfl]
 ·rw [key _ hb h,if_neg hc]
structure InT (nm:Bool) (op:List Nat) (m:Mc):Prop where
 st:m.st=6
 lf:m.lf=0
 nm:m.nm=nm
 op:m.op=op
theorem Qw.go {s:ByteArray} {i:Nat} {nm:Bool} {m:Mc} (t:Tk s i m) (h:Qw s i nm m) (hc:byteAt s i=34):∃ k,Tk s (i+1) k∧InT nm m.op k:=by
 have e:=h.2.1
 rw [← hc] at e
 exact ⟨_,t.next (byteAt_in (by omega)) e,rfl,h.2.2.1,rfl,rfl⟩
theorem Qw.off {s:ByteArray} {i:Nat} {nm:Bool} {m:Mc} (t:Tk s i m) (h:Qw s i nm m) (hc:byteAt s i≠34):BadAt s i:=t.fail h.1 (h.2.2.2 hc)
theorem step_text {m:Mc} {c:Nat} (h:m.st=6):stepM m c=charM m c:=by unfold stepM;rw [if_neg (by omega),if_pos h]
theorem step_esc {m:Mc} {c:Nat} (h:m.st=7∨m.st=8):stepM m c=escM m c:=by unfold stepM;rw [if_neg (by omega),if_neg (by omega),if_pos h]
theorem InT.whole {nm:Bool} {op:List Nat} {m:Mc} (h:InT nm op m):wholeM m=false:=by
 have:=h.st
 exact whole_not (by omega) (by omega) (by omega) (by omega) (by omega)
theorem InT.done {s:ByteArray} {i:Nat} {nm:Bool} {op:List Nat} {m:Mc} (t:Tk s i m) (h:InT nm op m) (hc:byteAt s i=34):∃ k,Tk s (i+1) k∧k.op=op∧k.st=if nm then 4 else 5:=by
 have e:stepM m (byteAt s i)=some { m with st:=if nm then 4 else 5,lo:=128,hi:=191 }:=by
  rw [step_text h.st,hc]
  unfold charM
  rw [if_neg (by have:=h.lf;omega),h.nm]
  cases nm <;> simp
 exact ⟨_,t.next (byteAt_in (by omega)) e,h.op,rfl⟩
theorem InT.off {s:ByteArray} {i:Nat} {nm:Bool} {op:List Nat} {m:Mc} (t:Tk s i m) (h:InT nm op m) (hc:byteAt s i<32):BadAt s i:=by
 refine t.fail h.whole ?_
 rw [step_text h.st]
 unfold charM
 rw [if_neg (by have:=h.lf;omega),if_neg (by omega),if_neg (by omega),if_neg (by omega),if_neg (by omega),if_neg (by omega),if_neg (by omega),if_neg (by omega)]
structure InE (nm:Bool) (op:List Nat) (m:Mc):Prop where
 st:m.st=7
 lf:m.lf=0
 nm:m.nm=nm
 op:m.op=op
theorem InT.slash {s:ByteArray} {i:Nat} {nm:Bool} {op:List Nat} {m:Mc} (t:Tk s i m) (h:InT nm op m) (hc:byteAt s i=92):∃ k,Tk s (i+1) k∧InE nm op k:=by
 have e:stepM m (byteAt s i)=some { m with st:=7,lo:=128,hi:=191 }:=by
  rw [step_text h.st,hc]
  unfold charM
  rw [if_neg (by have:=h.lf;omega),if_neg (by omega),if_neg (by omega),if_pos rfl]
 exact ⟨_,t.next (byteAt_in (by omega)) e,rfl,h.lf,h.nm,h.op⟩
def escB (c:Nat):Bool:=decide (c=34∨c=92∨c=47∨c=98∨c=102∨c=110∨c=114∨c=116)
theorem InE.go {s:ByteArray} {i:Nat} {nm:Bool} {op:List Nat} {m:Mc} (t:Tk s i m) (h:InE nm op m) (hc:escB (byteAt s i)=true):∃ k,Tk s (i+1) k∧InT nm op k:=by
 have hc':=of_decide_eq_true hc
 have e:stepM m (byteAt s i)=some { m with st:=6 }:=by
  rw [step_esc (.inl h.st)]
  unfold escM
  rw [if_neg (by have:=h.st;omega),if_pos hc']
 exact ⟨_,t.next (byteAt_in (by omega)) e,rfl,h.lf,h.nm,h.op⟩
theorem InE.off {s:ByteArray} {i:Nat} {nm:Bool} {op:List Nat} {m:Mc} (t:Tk s i m) (h:InE nm op m) (hc:escB (byteAt s i)=false) (hu:byteAt s i≠117):BadAt s i:=by
 have hc':=of_decide_eq_false hc
 have:=h.st
 refine t.fail (whole_not (by omega) (by omega) (by omega) (by omega) (by omega)) ?_
 rw [step_esc (.inl h.st)]
 unfold escM
 rw [if_neg (by omega),if_neg hc',if_neg hu]
structure InH (nm:Bool) (op:List Nat) (n:Nat) (m:Mc):Prop where
 st:m.st=if n=0 then 6 else 8
 lf:m.lf=n
 nm:m.nm=nm
 op:m.op=op
theorem InE.hex {s:ByteArray} {i:Nat} {nm:Bool} {op:List Nat} {m:Mc} (t:Tk s i m) (h:InE nm op m) (hc:byteAt s i=117):∃ k,Tk s (i+1) k∧InH nm op 4 k:=by
 have e:stepM m (byteAt s i)=some { m with st:=8,lf:=4 }:=by
  rw [step_esc (.inl h.st),hc]
  unfold escM
  rw [if_neg (by have:=h.st;omega),if_neg (by omega),if_pos rfl]
 exact ⟨_,t.next (byteAt_in (by omega)) e,rfl,rfl,h.nm,h.op⟩
theorem InH.go {s:ByteArray} {i n:Nat} {nm:Bool} {op:List Nat} {m:Mc} (t:Tk s i m) (h:InH nm op (n+1) m) (hc:hexN (byteAt s i)=true):∃ k,Tk s (i+1) k∧InH nm op n k:=by
 have hst:m.st=8:=by have:=h.st;simpa using this
 have e:stepM m (byteAt s i)=some { m with lf:=m.lf-1,st:=if m.lf=1 then 6 else 8 }:=by
  rw [step_esc (.inr hst)]
  unfold escM
  rw [if_pos hst,if_pos hc]
 have hlf:=h.lf
 refine ⟨_,t.next (byteAt_in (fun x=>by rw [x] at hc;revert hc;decide)) e,?_,?_,h.nm,h.op⟩
 ·show (if m.lf=1 then 6 else 8)=_
  rw [hlf]
  by_cases hn:n=0
  ·subst hn;rfl
  ·rw [if_neg (by omega),if_neg hn]
 ·show m.lf-1=n
  omega
theorem InH.off {s:ByteArray} {i n:Nat} {nm:Bool} {op:List Nat} {m:Mc} (t:Tk s i m) (h:InH nm op (n+1) m) (hc:hexN (byteAt s i)=false):BadAt s i:=by
 have hst:m.st=8:=by have:=h.st;simpa using this
 refine t.fail (whole_not (by omega) (by omega) (by omega) (by omega) (by omega)) ?_
 rw [step_esc (.inr hst)]
 unfold escM
 rw [if_pos hst,if_neg (by rw [hc];decide)]
theorem InH.t6 {nm:Bool} {op:List Nat} {n:Nat} {m:Mc} (h:InH nm op n m):T6 m.st:=by
 rw [h.st]
 split
 ·exact .inl rfl
 ·exact .inr (.inr rfl)
theorem InH.done {nm:Bool} {op:List Nat} {m:Mc} (h:InH nm op 0 m):InT nm op m:=⟨h.st,h.lf,h.nm,h.op⟩
def plnB (c:Nat):Bool:=decide (32≤c∧c≠34∧c≠92)
def IsPlain (s:ByteArray) (j n:Nat):Prop:=j+n≤s.size∧(∀ q,q<n→plnB (byteAt s (j+q))=true)∧(j+n=s.size∨plnB (byteAt s (j+n))=false)
theorem plain_stepQ {m:Mc} {q:Q5} {c:Nat} (hst:m.st=6) (hl:q.left=m.lf) (hb:0<m.lf→q.lo=m.lo∧q.hi=m.hi) (hc:plnB c=true) :
  (stp q c=none∧stepM m c=none)∨(∃ q' k,stp q c=some q'∧stepM m c=some k∧k.st=6∧k.nm=m.nm∧k.op=m.op∧q'.left=k.lf∧(0<k.lf→q'.lo=k.lo∧q'.hi=k.hi)):=by
 have hc':=of_decide_eq_true hc
 rw [step_text hst]
 unfold stp charM
 by_cases h0:q.left=0
 ·rw [if_pos h0,if_neg (by omega),if_neg (by omega),if_neg (by omega),if_neg (by omega)]
  unfold begQ
  by_cases c1:c<128
  ·right
   refine ⟨q,{ m with lo:=128,hi:=191 },?_,?_,hst,rfl,rfl,hl,fun h=>?_⟩
   ·rw [if_neg (by omega),if_neg (by omega),if_neg (by omega),if_neg (by omega),if_neg (by omega)]
   ·rw [if_pos (by omega)]
   ·have:0<m.lf:=h
    omega
  rw [if_neg (show ¬ (32≤c∧c<128) by omega)]
  by_cases c2:c<194
  ·left
   refine ⟨?_,?_⟩
   ·rw [if_neg (by omega),if_neg (by omega),if_neg (by omega),if_neg (by omega),if_pos (by omega)]
   ·rw [if_neg (by omega),if_neg (by omega),if_neg (by omega)]
  by_cases c3:c<224
  ·right
   refine ⟨⟨1,secLo c,secHi c⟩,{ m with lf:=1,lo:=128,hi:=191 },?_,?_,hst,rfl,rfl,rfl,fun h=>?_⟩
   ·rw [if_neg (by omega),if_neg (by omega),if_neg (by omega),if_pos (by omega)]
   ·rw [if_pos (by omega)]
   ·show secLo c=128∧secHi c=191
    unfold secLo secHi
    rw [if_neg (by omega),if_neg (by omega),if_neg (by omega),if_neg (by omega)]
    exact ⟨rfl,rfl⟩
  rw [if_neg (show ¬ (194≤c∧c<224) by omega)]
  by_cases c4:c<240
  ·right
   refine ⟨⟨2,secLo c,secHi c⟩,{ m with lf:=2,lo:=lowB c,hi:=highB c },?_,?_,hst,rfl,rfl,rfl,fun h=>⟨rfl,rfl⟩⟩
   ·rw [if_neg (by omega),if_neg (by omega),if_pos (by omega)]
   ·rw [if_pos (by omega)]
  rw [if_neg (show ¬ (224≤c∧c<240) by omega)]
  by_cases c5:c<245
  ·right
   refine ⟨⟨3,secLo c,secHi c⟩,{ m with lf:=3,lo:=lowB c,hi:=highB c },?_,?_,hst,rfl,rfl,rfl,fun h=>⟨rfl,rfl⟩⟩
   ·rw [if_neg (by omega),if_pos (by omega)]
   ·rw [if_pos (by omega)]
  ·left
   refine ⟨?_,?_⟩
   ·rw [if_pos (by omega)]
   ·rw [if_neg (by omega)]
 ·obtain ⟨b1,b2⟩:=hb (by omega)
  rw [if_neg h0,if_pos (show 0<m.lf by omega),b1,b2]
  by_cases h1:c<m.lo∨m.hi<c
  ·left
   rw [if_pos h1,if_pos h1]
   exact ⟨rfl,rfl⟩
  ·right
   rw [if_neg h1,if_neg h1]
   exact ⟨_,_,rfl,rfl,hst,rfl,rfl,by show q.left-1=m.lf-1;omega,fun _=>⟨rfl,rfl⟩⟩
theorem plain_run {s:ByteArray} {i n:Nat} {nm:Bool} {op:List Nat} {m:Mc} (t:Tk s i m) (h:InT nm op m) (hp:IsPlain s i n) (k:Nat) (hk:k≤n) :
  (∃ g q,g<k∧runS s5 (((byts s).drop i).take k)=⟨g,true,q⟩∧BadAt s (i+g)) ∨
  (∃ q m',runS s5 (((byts s).drop i).take k)=⟨k,false,q⟩∧Tk s (i+k) m'∧m'.st=6∧m'.nm=nm∧m'.op=op∧q.left=m'.lf∧(0<m'.lf→q.lo=m'.lo∧q.hi=m'.hi)∧Fl s i (i+k) op.length∧Sq T6 s i (i+k)):=by
 obtain ⟨p1,p2,p3⟩:=hp
 induction k with
 | zero=>exact .inr ⟨_,m,rfl,t,h.st,h.nm,h.op,h.lf.symm,fun x=>by have:=h.lf;omega,Fl.nil _ _ _,Sq.nil _ _ _⟩
 | succ k ih =>
  have hx:((byts s).drop i)[k]? = some (byteAt s (i+k)):=by rw [List.getElem?_drop];exact get_atV s (i+k) (by omega)
  have e1:((byts s).drop i).take (k+1)=((byts s).drop i).take k++[byteAt s (i+k)]:=by rw [List.take_add_one,hx];rfl
  rw [e1,runS_snoc]
  rcases ih (by omega) with ⟨g,q,a,b,c⟩ | ⟨q,m',a,b,c1,c2,c3,c4,c5,c6,c7⟩
  ·left
   exact ⟨g,q,by omega,by rw [b];exact tk_wrong rfl _,c⟩
  ·rw [a]
   rcases plain_stepQ c1 c4 c5 (p2 k (by omega)) with ⟨d1,d2⟩ | ⟨q',k',d1,d2,d3,d4,d5,d6,d7⟩
   ·left
    refine ⟨k,q,by omega,tk_none rfl d1,?_⟩
    exact b.bad (by omega) d2
   ·right
    have tt:=b.next (by omega) d2
    exact ⟨q',k',tk_some rfl d1,tt,d3,by rw [d4,c2],by rw [d5,c3],d6,d7,c6.snoc tt (by rw [d5,c3];exact Nat.le_refl _),c7.snoc tt (.inl d3)⟩
theorem plain_bad {s:ByteArray} {i n:Nat} {nm:Bool} {op:List Nat} {m:Mc} (t:Tk s i m) (h:InT nm op m) (hp:IsPlain s i n) {z:ByteArray} (hz:byts z=((byts s).drop i).take n) :
  (∃ g:Nat,g≤n∧badOf z=(g:Int)∧BadAt s (i+g))∨(badOf z = -1∧∃ m',Tk s (i+n) m'∧InT nm op m'∧(Fl s i (i+n) op.length∧Sq T6 s i (i+n))∧(byteAt s (i+n)=34∨byteAt s (i+n)=92∨byteAt s (i+n)<32)):=by
 have hend:byteAt s (i+n)=34∨byteAt s (i+n)=92∨byteAt s (i+n)<32:=by
  rcases hp.2.2 with e | e
  ·right;right
   rw [byteAt_out s _ (by omega)]
   decide
  ·have:=of_decide_eq_false e
   omega
 unfold badOf
 rw [hz]
 rcases plain_run t h hp n (Nat.le_refl _) with ⟨g,q,a,b,c⟩ | ⟨q,m',a,b,c1,c2,c3,c4,c5,c6,c7⟩
 ·left
  refine ⟨g,by omega,?_,c⟩
  rw [b]
  unfold badI
  rw [if_pos (.inl rfl)]
 ·rw [a]
  by_cases h0:m'.lf=0
  ·right
   refine ⟨?_,m',b,⟨c1,h0,c2,c3⟩,⟨c6,c7⟩,hend⟩
   unfold badI
   rw [if_neg]
   rintro (x | x)
   ·cases x
   ·have:0<q.left:=x
    omega
  ·left
   refine ⟨n,Nat.le_refl _,?_,?_⟩
   ·unfold badI
    rw [if_pos (.inr (show 0<q.left by omega))]
   ·refine b.fail (whole_not (by omega) (by omega) (by omega) (by omega) (by omega)) ?_
    rw [step_text c1]
    unfold charM
    have:=b.lo c1 (by omega)
    rw [if_pos (by omega),if_pos (by omega)]
end Go.Proofs.YtongedjlmohogaaGreatDoor
/- How far a text can be a document's beginning: words,numbers,brackets,commas;how deep it is (mathematics alone). -/
namespace Go.Proofs.YtongedjlmohogaaGreatDoor
open Go.RowKit Go.Shelf
def IsWord (u:List Nat):Prop:=u=[110,117,108,108]∨u=[116,114,117,101]∨u=[102,97,108,115,101]
def InW (u:List Nat) (j:Nat) (m0 m:Mc):Prop:=(j=0∧m=m0)∨(0<j∧m.op=m0.op∧(j<u.length→m.st=9∧m.wd=u.drop j)∧(j=u.length→m.st=5))
theorem word_value {u:List Nat} (hu:IsWord u) (m:Mc):∃ x l,u=x :: l∧x≠0∧l≠[]∧blankN x=false∧x≠93∧valueM m x=some { m with nm:=false,st:=9,wd:=l }:=by
 rcases hu with rfl | rfl | rfl
 ·exact ⟨110,[117,108,108],rfl,by decide,by decide,by decide,by decide,by simp [valueM,digN]⟩
 ·exact ⟨116,[114,117,101],rfl,by decide,by decide,by decide,by decide,by simp [valueM,digN]⟩
 ·exact ⟨102,[97,108,115,101],rfl,by decide,by decide,by decide,by decide,by simp [valueM,digN]⟩
theorem InW.go {s:ByteArray} {i j:Nat} {u:List Nat} {m0 m:Mc} (hu:IsWord u) (hv:Vw s i m0) (h:InW u j m0 m) (t:Tk s (i+j) m) (hj:j<u.length) (hc:byteAt s (i+j)=u.getD j 0):∃ k,Tk s (i+(j+1)) k∧InW u (j+1) m0 k:=by
 rcases h with ⟨rfl,rfl⟩ | ⟨h0,h1,h2,h3⟩
 ·obtain ⟨x,l,e1,e2,e3,e4,e5,e6⟩:=word_value hu m
  rw [e1] at hc
  have hc':byteAt s i=x:=hc
  have st:=step_value hv (by rw [hc'];exact e4)
  rw [hc',e6,← hc'] at st
  refine ⟨_,t.next (byteAt_in (show byteAt s i≠0 by omega)) st,.inr ⟨by omega,rfl,fun _=>⟨rfl,by rw [e1];rfl⟩,fun e=>?_⟩⟩
  rw [e1] at e
  exact absurd (List.eq_nil_of_length_eq_zero (by simpa using e.symm)) e3
 ·obtain ⟨g1,g2⟩:=h2 hj
  have hd:u.drop j=u.getD j 0 :: u.drop (j+1):=by
   rw [List.drop_eq_getElem_cons hj,List.getD_eq_getElem?_getD,List.getElem?_eq_getElem hj];rfl
  have e:stepM m (byteAt s (i+j))=some { m with wd:=u.drop (j+1),st:=if u.drop (j+1)=[] then 5 else 9 }:=by
   unfold stepM
   rw [if_neg (by omega),if_neg (by omega),if_neg (by omega),if_pos g1,g2,hd,hc]
   simp only [if_true]
  have hne:byteAt s (i+j)≠0:=by
   rw [hc]
   rcases hu with rfl | rfl | rfl
   ·have:j=0∨j=1∨j=2∨j=3:=by simp at hj;omega
    rcases this with rfl | rfl | rfl | rfl <;> decide
   ·have:j=0∨j=1∨j=2∨j=3:=by simp at hj;omega
    rcases this with rfl | rfl | rfl | rfl <;> decide
   ·have:j=0∨j=1∨j=2∨j=3∨j=4:=by simp at hj;omega
    rcases this with rfl | rfl | rfl | rfl | rfl <;> decide
  refine ⟨_,t.next (byteAt_in hne) e,.inr ⟨by omega,h1,fun x=>⟨?_,rfl⟩,fun x=>?_⟩⟩
  ·show (if u.drop (j+1)=[] then 5 else 9)=9
   rw [if_neg]
   intro y
   have:=List.drop_eq_nil_iff.mp y
   omega
  ·show (if u.drop (j+1)=[] then 5 else 9)=5
   rw [if_pos (List.drop_eq_nil_iff.mpr (by omega))]
theorem InW.off {s:ByteArray} {i j:Nat} {u:List Nat} {m0 m:Mc} (hj0:0<j) (h:InW u j m0 m) (t:Tk s (i+j) m) (hj:j<u.length) (hc:byteAt s (i+j)≠u.getD j 0):BadAt s (i+j):=by
 rcases h with ⟨rfl,rfl⟩ | ⟨h0,h1,h2,h3⟩
 ·omega
 ·obtain ⟨g1,g2⟩:=h2 hj
  have hd:u.drop j=u.getD j 0 :: u.drop (j+1):=by
   rw [List.drop_eq_getElem_cons hj,List.getD_eq_getElem?_getD,List.getElem?_eq_getElem hj];rfl
  refine t.fail (whole_not (by omega) (by omega) (by omega) (by omega) (by omega)) ?_
  unfold stepM
  rw [if_neg (by omega),if_neg (by omega),if_neg (by omega),if_pos g1,g2,hd]
  simp only
  rw [if_neg (fun e=>hc e.symm)]
theorem InW.done {s:ByteArray} {i:Nat} {u:List Nat} {m0 m:Mc} (hu:IsWord u) (h:InW u u.length m0 m) (t:Tk s (i+u.length) m):m.op=m0.op∧m.st=5:=by
 rcases h with ⟨h,-⟩ | ⟨-,h1,-,h3⟩
 ·rcases hu with rfl | rfl | rfl <;> simp at h
 ·exact ⟨h1,h3 rfl⟩
theorem InW.op {u:List Nat} {j:Nat} {m0 m:Mc} (h:InW u j m0 m):m.op=m0.op:=by
 rcases h with ⟨-,rfl⟩ | ⟨-,h,-⟩
 ·rfl
 ·exact h
def N10 (x:Nat):Prop:=10≤x
def FlN (s:ByteArray) (i j L:Nat):Prop:=Fl s i j L∧Sq N10 s i j
theorem FlN.nil (s:ByteArray) (i L:Nat):FlN s i i L:=⟨Fl.nil _ _ _,Sq.nil _ _ _⟩
theorem FlN.trans {s:ByteArray} {i j k L:Nat} (h:FlN s i j L) (h':FlN s j k L):FlN s i k L:=⟨h.1.trans h'.1,h.2.trans h'.2⟩
theorem FlN.snoc {s:ByteArray} {i j L:Nat} {k:Mc} (h:FlN s i j L) (t:Tk s (j+1) k) (hk:k.op.length≤L) (hn:N10 k.st):FlN s i (j+1) L:=⟨h.1.snoc t hk,h.2.snoc t hn⟩
theorem FlN.one {s:ByteArray} {i L:Nat} {k:Mc} (t:Tk s (i+1) k) (hk:k.op.length≤L) (hn:N10 k.st):FlN s i (i+1) L:=(FlN.nil s i L).snoc t hk hn
theorem Tk.digits {s:ByteArray} {j:Nat} {m:Mc} (t:Tk s j m) (h:m.st=12∨m.st=14∨m.st=17):Tk s (rn s j) m∧FlN s j (rn s j) m.op.length:=by
 obtain ⟨n,hn⟩:∃ n,rn s j=j+n:=⟨rn s j-j,by have:=rn_ge s j;omega⟩
 have hd:∀ q,q<n→digN (byteAt s (j+q))=true:=fun q hq=>by
  have:=rn_dig s j (j+q) (by omega) (by omega)
  rw [lk_byteAt] at this
  exact this
 rw [hn]
 clear hn
 induction n with
 | zero=>exact ⟨t,FlN.nil _ _ _⟩
 | succ n ih =>
  have:=ih (fun q hq=>hd q (by omega))
  have hdn:=hd n (by omega)
  have e:stepM m (byteAt s (j+n))=some m:=by
   unfold stepM numM
   rw [if_pos (by omega),if_neg (by omega),if_neg (by omega),if_neg (by omega),if_pos ⟨h,hdn⟩]
  have tt:=this.1.next (byteAt_in (fun x=>by rw [x] at hdn;revert hdn;decide)) e
  exact ⟨tt,this.2.snoc tt (Nat.le_refl _) (by unfold N10;omega)⟩
theorem dg_dig (s:ByteArray) (i:Nat):dgB (lk s i)=digN (byteAt s i):=by rw [lk_byteAt];rfl
theorem dig_in {s:ByteArray} {i:Nat} (h:digN (byteAt s i)=true):i<s.size:=byteAt_in (fun x=>by rw [x] at h;revert h;decide)
theorem num_first {s:ByteArray} {i:Nat} {m:Mc} (t:Tk s i m) (hv:Vw s i m) (hb:blankN (byteAt s i)=false)
  (hc:byteAt s i≠91∧byteAt s i≠123∧byteAt s i≠34∧byteAt s i≠110∧byteAt s i≠116∧byteAt s i≠102) :
  (dgB (lk s (scA s i))=false∧BadAt s (scA s i)) ∨
  (dgB (lk s (scA s i))=true∧∃ k,Tk s (scB s i) k∧FlN s i (scB s i) m.op.length∧i<scB s i∧k.op=m.op∧(k.st=11∨(k.st=12∧dgB (lk s (scB s i))=false))):=by
 obtain ⟨c1,c2,c3,c4,c5,c6⟩:=hc
 have fin:∀ (a:Nat) (k:Mc),Tk s a k→a=scA s i→i≤a→FlN s i a m.op.length→k.op=m.op→wholeM k=false →
   (∀ x,digN x=true→stepM k x=some { k with nm:=k.nm,st:=if x=48 then 11 else 12 }∨stepM k x=some { k with nm:=false,st:=if x=48 then 11 else 12 })→(digN (byteAt s a)=false→stepM k (byteAt s a)=none) →
   (dgB (lk s (scA s i))=false∧BadAt s (scA s i)) ∨
   (dgB (lk s (scA s i))=true∧∃ k,Tk s (scB s i) k∧FlN s i (scB s i) m.op.length∧i<scB s i∧k.op=m.op∧(k.st=11∨(k.st=12∧dgB (lk s (scB s i))=false))):=by
  intro a k tk ha hle hfl hop hw hyes hno
  rw [← ha]
  by_cases hd:digN (byteAt s a)=true
  ·right
   refine ⟨by rw [dg_dig];exact hd,?_⟩
   obtain ⟨b,hst⟩:∃ b,stepM k (byteAt s a)=some { k with nm:=b,st:=if byteAt s a=48 then 11 else 12 }:=by
    rcases hyes _ hd with h | h
    ·exact ⟨_,h⟩
    ·exact ⟨_,h⟩
   have t1:=tk.next (dig_in hd) hst
   have f1:=hfl.snoc t1 (by show k.op.length≤_;rw [hop];exact Nat.le_refl _) (by unfold N10;dsimp only;first | omega | (split <;> omega))
   unfold scB
   rw [← ha]
   by_cases h48:lk s a=48
   ·rw [if_pos h48]
    rw [lk_byteAt] at h48
    exact ⟨_,t1,f1,by omega,hop,.inl (by show (if byteAt s a=48 then 11 else 12)=11;rw [if_pos h48])⟩
   ·rw [if_neg h48]
    rw [lk_byteAt] at h48
    have e12:(if byteAt s a=48 then 11 else 12)=12:=if_neg h48
    have e:rn s a=rn s (a+1):=by
     refine rn_uniq s a _ (by have:=rn_ge s (a+1);omega) (fun q h1 h2=>?_) (rn_end s (a+1))
     by_cases hq:q=a
     ·subst hq;rw [dg_dig];exact hd
     ·exact rn_dig s (a+1) q (by omega) h2
    obtain ⟨t2,f2⟩:=t1.digits (.inl e12)
    rw [e]
    refine ⟨_,t2,f1.trans (by show FlN s (a+1) _ _;rw [← hop];exact f2),by have:=rn_ge s (a+1);omega,hop,.inr ⟨e12,rn_end s (a+1)⟩⟩
  ·have hd':digN (byteAt s a)=false:=by cases h:digN (byteAt s a) with
    | true=>exact absurd h hd
    | false=>rfl
   left
   exact ⟨by rw [dg_dig];exact hd',tk.fail hw (hno hd')⟩
 by_cases h45:byteAt s i=45
 ·have e:=step_value hv hb
  have e2:valueM m (byteAt s i)=some { m with nm:=false,st:=10 }:=by
   unfold valueM
   rw [if_neg c1,if_neg c2,if_neg c3,if_pos h45]
  rw [e2] at e
  have t1:=t.next (byteAt_in (by omega)) e
  refine fin (i+1) _ t1 ?_ (by omega) (FlN.one t1 (Nat.le_refl _) (by unfold N10;dsimp only;omega)) rfl (whole_not (by simp) (by simp) (by simp) (by simp) (by simp)) (fun x hx=>.inl ?_) (fun hx=>?_)
  ·unfold scA
   rw [lk_byteAt,if_pos h45]
  ·unfold stepM numM
   rw [if_pos (by simp)]
   by_cases h48:x=48
   ·rw [if_pos ⟨rfl,h48⟩,if_pos h48]
   ·rw [if_neg (fun y=>h48 y.2),if_pos ⟨rfl,hx⟩,if_neg h48]
  ·unfold stepM numM
   rw [if_pos (by simp),if_neg (fun y=>by have:=y.2;rw [this] at hx;revert hx;decide),if_neg (fun y=>by rw [y.2] at hx;cases hx),if_pos rfl]
 ·refine fin i m t ?_ (Nat.le_refl _) (FlN.nil _ _ _) rfl hv.whole (fun x hx=>.inr ?_) (fun hx=>?_)
  ·unfold scA
   rw [lk_byteAt,if_neg h45]
  ·have hx':=of_decide_eq_true hx
   have hbx:blankN x=false:=by unfold blankN;rw [decide_eq_false_iff_not];omega
   have:stepM m x=valueM m x:=by
    unfold stepM
    rcases hv with h | ⟨h,h1,-⟩
    ·rw [if_neg (by omega),if_neg (by omega),if_neg (by omega),if_neg (by omega),if_neg (by rw [hbx];decide),if_neg (by omega),if_neg (by omega),if_pos h]
    ·rw [if_neg (by omega),if_neg (by omega),if_neg (by omega),if_neg (by omega),if_neg (by rw [hbx];decide),if_neg (by omega),if_neg (by omega),if_neg (by omega),if_neg (by omega),if_pos h]
   rw [this]
   unfold valueM
   rw [if_neg (by omega),if_neg (by omega),if_neg (by omega),if_neg (by omega)]
   by_cases h48:x=48
   ·rw [if_pos h48,if_pos h48]
   ·rw [if_neg h48,if_pos hx,if_neg h48]
  ·rw [step_value hv hb]
   unfold valueM
   have:byteAt s i≠48:=fun y=>by rw [y] at hx;revert hx;decide
   rw [if_neg c1,if_neg c2,if_neg c3,if_neg h45,if_neg this,if_neg (by rw [hx];decide),if_neg c4,if_neg c5,if_neg c6]
theorem num_bhd {s:ByteArray} {i:Nat} {m:Mc} (hst:m.st=11∨((m.st=12∨m.st=14∨m.st=17)∧dgB (lk s i)=false)) (h46:m.st=11∨m.st=12→lk s i≠46) (he:m.st=11∨m.st=12∨m.st=14→¬ (lk s i=101∨lk s i=69)):Bhd s i m:=by
 rw [lk_byteAt] at h46 he
 refine ⟨by unfold Bh;omega,?_⟩
 unfold stepM numM
 rw [if_pos (by omega),if_neg (by omega),if_neg (by omega),if_neg (by omega)]
 rw [if_neg (fun h=>by
  rcases hst with x | ⟨-,x⟩
  ·omega
  ·rw [dg_dig,h.2] at x;cases x)]
 rw [if_neg (fun h=>h46 h.1 h.2),if_neg (by omega),if_neg (fun h=>he h.1 h.2),if_neg (by omega),if_neg (by omega)]
theorem num_tk {s:ByteArray} {i:Nat} {m:Mc} (t:Tk s i m) (hv:Vw s i m) (hb:blankN (byteAt s i)=false)
  (hc:byteAt s i≠91∧byteAt s i≠123∧byteAt s i≠34∧byteAt s i≠110∧byteAt s i≠116∧byteAt s i≠102) :
  ((scanS s i).1=none∧BadAt s (scanS s i).2) ∨
  ((scanS s i).1≠none∧i<(scanS s i).2∧FlN s i (scanS s i).2 m.op.length∧∃ k,Tk s (scanS s i).2 k∧k.op=m.op∧Bhd s (scanS s i).2 k):=by
 unfold scanS
 rcases num_first t hv hb hc with ⟨h1,h2⟩ | ⟨h1,k,t1,f1,l1,o1,s1⟩
 ·rw [if_pos h1]
  exact .inl ⟨rfl,h2⟩
 rw [if_neg (by rw [h1];decide)]
 -- behind the point
 have hC:(lk s (scB s i)=46∧dgB (lk s (scB s i+1))=false∧BadAt s (scB s i+1)) ∨
   (¬ (lk s (scB s i)=46∧dgB (lk s (scB s i+1))=false)∧∃ k,Tk s (scC s i) k∧FlN s i (scC s i) m.op.length∧i<scC s i∧k.op=m.op∧(k.st=11∨((k.st=12∨k.st=14)∧dgB (lk s (scC s i))=false))∧(k.st=11∨k.st=12→lk s (scC s i)≠46)):=by
  unfold scC
  by_cases h46:lk s (scB s i)=46
  ·have h46':=h46
   rw [lk_byteAt] at h46'
   have e:stepM k (byteAt s (scB s i))=some { k with st:=13 }:=by
    unfold stepM numM
    rw [if_pos (by omega),if_neg (by omega),if_neg (by omega),if_neg (by omega),if_neg (fun h=>by have:=h.2;rw [h46'] at this;revert this;decide),if_pos ⟨by omega,h46'⟩]
   have t2:=t1.next (byteAt_in (by omega)) e
   have f2:=f1.snoc t2 (by show k.op.length≤_;rw [o1];exact Nat.le_refl _) (by unfold N10;dsimp only;first | omega | (split <;> omega))
   by_cases hd:dgB (lk s (scB s i+1))=true
   ·right
    refine ⟨fun x=>(by rw [hd] at x;exact Bool.noConfusion x.2),?_⟩
    rw [if_pos h46]
    rw [dg_dig] at hd
    have e3:stepM { k with st:=13 } (byteAt s (scB s i+1))=some { k with st:=14 }:=by
     unfold stepM numM
     rw [if_pos (by simp),if_neg (by simp),if_neg (by simp),if_neg (by simp),if_neg (by simp),if_neg (by simp),if_pos rfl,if_pos hd]
    have t3:=t2.next (dig_in hd) e3
    have f3:=f2.snoc t3 (by show k.op.length≤_;rw [o1];exact Nat.le_refl _) (by unfold N10;dsimp only;first | omega | (split <;> omega))
    have er:rn s (scB s i+1)=rn s (scB s i+1+1):=by
     refine rn_uniq s _ _ (by have:=rn_ge s (scB s i+1+1);omega) (fun q h1 h2=>?_) (rn_end s _)
     by_cases hq:q=scB s i+1
     ·subst hq;rw [dg_dig];exact hd
     ·exact rn_dig s (scB s i+1+1) q (by omega) h2
    obtain ⟨t4,f4⟩:=t3.digits (.inr (.inl rfl))
    rw [er]
    refine ⟨_,t4,f3.trans (by rw [← o1];exact f4),by have:=rn_ge s (scB s i+1+1);omega,o1,.inr ⟨.inr rfl,rn_end s _⟩,fun x=>?_⟩
    exfalso
    revert x
    show ¬ ((14=11)∨(14=12))
    decide
   ·have hd':dgB (lk s (scB s i+1))=false:=by cases h:dgB (lk s (scB s i+1)) with
     | true=>exact absurd h hd
     | false=>rfl
    left
    refine ⟨h46,hd',t2.fail (whole_not (by simp) (by simp) (by simp) (by simp) (by simp)) ?_⟩
    rw [dg_dig] at hd'
    unfold stepM numM
    rw [if_pos (by simp),if_neg (by simp),if_neg (by simp),if_neg (by simp),if_neg (by simp),if_neg (by simp),if_pos rfl,if_neg (by rw [hd'];decide)]
  ·right
   rw [if_neg h46]
   exact ⟨fun x=>h46 x.1,k,t1,f1,l1,o1,by rcases s1 with x | ⟨x,y⟩;exact .inl x;exact .inr ⟨.inl x,y⟩,fun _=>h46⟩
 rcases hC with ⟨h2,h3,h4⟩ | ⟨h2,k2,t2,f2,l2,o2,s2,n2⟩
 ·rw [if_pos ⟨h2,h3⟩]
  exact .inl ⟨rfl,h4⟩
 rw [if_neg h2]
 clear t1 f1 l1 o1 s1 h1 h2
 by_cases hx:scX s i=true
 ·have hx':byteAt s (scC s i)=101∨byteAt s (scC s i)=69:=by
   have:=of_decide_eq_true hx
   rwa [lk_byteAt] at this
  have e:stepM k2 (byteAt s (scC s i))=some { k2 with st:=15 }:=by
   unfold stepM numM
   rw [if_pos (by omega),if_neg (by omega),if_neg (by omega),if_neg (by omega),if_neg (fun h=>by
    have:=of_decide_eq_true h.2
    omega),if_neg (by omega),if_neg (by omega),if_pos ⟨by omega,hx'⟩]
  have t3:=t2.next (byteAt_in (by omega)) e
  have f3:=f2.snoc t3 (by show k2.op.length≤_;rw [o2];exact Nat.le_refl _) (by unfold N10;dsimp only;first | omega | (split <;> omega))
  -- the sign
  obtain ⟨k4,t4,f4,l4,o4,s4,hF⟩:∃ k4,Tk s (scF s i) k4∧FlN s i (scF s i) m.op.length∧i<scF s i∧k4.op=m.op∧(k4.st=15∨k4.st=16)∧(k4.st=15→¬ (byteAt s (scF s i)=43∨byteAt s (scF s i)=45)):=by
   unfold scF
   by_cases hsg:lk s (scC s i+1)=43∨lk s (scC s i+1)=45
   ·rw [if_pos hsg]
    rw [lk_byteAt] at hsg
    have e4:stepM { k2 with st:=15 } (byteAt s (scC s i+1))=some { k2 with st:=16 }:=by
     unfold stepM numM
     rw [if_pos (by simp),if_neg (by simp),if_neg (by simp),if_neg (by simp),if_neg (by simp),if_neg (by simp),if_neg (by simp),if_neg (by simp),if_pos ⟨rfl,hsg⟩]
    have t5:=t3.next (byteAt_in (by omega)) e4
    exact ⟨_,t5,f3.snoc t5 (by show k2.op.length≤_;rw [o2];exact Nat.le_refl _) (by unfold N10;dsimp only;first | omega | (split <;> omega)),by omega,o2,.inr rfl,fun x=>by simp at x⟩
   ·rw [if_neg hsg]
    rw [lk_byteAt] at hsg
    exact ⟨_,t3,f3,by omega,o2,.inl rfl,fun _=>hsg⟩
  by_cases hd:dgB (lk s (scF s i))=true
  ·rw [if_neg (fun x=>by rw [hd] at x;exact Bool.noConfusion x.2)]
   right
   have hH:scH s i=rn s (scF s i):=by unfold scH;rw [if_pos hx]
   show (some _≠none)∧i<scH s i∧FlN s i (scH s i) m.op.length∧∃ k,Tk s (scH s i) k∧k.op=m.op∧Bhd s (scH s i) k
   rw [hH]
   rw [dg_dig] at hd
   have e5:stepM k4 (byteAt s (scF s i))=some { k4 with st:=17 }:=by
    have hd2:=of_decide_eq_true hd
    unfold stepM numM
    rw [if_pos (by omega),if_neg (by omega),if_neg (by omega),if_neg (by omega),if_neg (by omega),if_neg (by omega),if_neg (by omega),if_neg (by omega),if_neg (by omega),if_pos (by omega),if_pos hd]
   have t5:=t4.next (dig_in hd) e5
   have f5:=f4.snoc t5 (by show k4.op.length≤_;rw [o4];exact Nat.le_refl _) (by unfold N10;dsimp only;first | omega | (split <;> omega))
   have er:rn s (scF s i)=rn s (scF s i+1):=by
    refine rn_uniq s _ _ (by have:=rn_ge s (scF s i+1);omega) (fun q h1 h2=>?_) (rn_end s _)
    by_cases hq:q=scF s i
    ·subst hq;rw [dg_dig];exact hd
    ·exact rn_dig s (scF s i+1) q (by omega) h2
   obtain ⟨t6,f6⟩:=t5.digits (.inr (.inr rfl))
   rw [er]
   refine ⟨by simp,by have:=rn_ge s (scF s i+1);omega,f5.trans (by rw [← o4];exact f6),_,t6,o4,num_bhd (.inr ⟨.inr (.inr rfl),rn_end s _⟩) (fun x=>?_) (fun x=>?_)⟩
   ·simp at x
   ·simp at x
  ·have hd':dgB (lk s (scF s i))=false:=by cases h:dgB (lk s (scF s i)) with
    | true=>exact absurd h hd
    | false=>rfl
   rw [if_pos ⟨hx,hd'⟩]
   left
   refine ⟨rfl,t4.fail (whole_not (by omega) (by omega) (by omega) (by omega) (by omega)) ?_⟩
   rw [dg_dig] at hd'
   unfold stepM numM
   rw [if_pos (by omega),if_neg (by omega),if_neg (by omega),if_neg (by omega),if_neg (by omega),if_neg (by omega),if_neg (by omega),if_neg (by omega),if_neg (fun x=>hF x.1 x.2),if_pos (by omega),if_neg (by rw [hd'];decide)]
 ·have hx':¬ (lk s (scC s i)=101∨lk s (scC s i)=69):=fun h=>hx (decide_eq_true h)
  rw [if_neg (fun x=>hx x.1)]
  right
  have hH:scH s i=scC s i:=by unfold scH;rw [if_neg hx]
  show (some _≠none)∧i<scH s i∧FlN s i (scH s i) m.op.length∧∃ k,Tk s (scH s i) k∧k.op=m.op∧Bhd s (scH s i) k
  rw [hH]
  exact ⟨by simp,l2,f2,k2,t2,o2,num_bhd (by rcases s2 with x | ⟨x,y⟩;exact .inl x;exact .inr ⟨by omega,y⟩) n2 (fun _=>hx')⟩
def Ns (s:ByteArray) (i j:Nat):Prop:=∀ p,i<p→p<j→stopB (byteAt s p)=false
theorem stopB_parts {c:Nat} (h:stopB c=true):digN c=false∧c≠46∧c≠101∧c≠69∧c≠43∧c≠45∧c≠48∧(blankN c=true∨c=44∨c=93∨c=125):=by
 have h':blankN c=true∨c=44∨c=93∨c=125:=by
  unfold stopB at h
  simp only [Bool.or_eq_true,beq_iff_eq] at h
  exact h
 have h2:c=32∨c=9∨c=10∨c=13∨c=44∨c=93∨c=125:=by
  rcases h' with h | h | h | h
  ·have:=of_decide_eq_true h;omega
  ·omega
  ·omega
  ·omega
 refine ⟨?_,by omega,by omega,by omega,by omega,by omega,by omega,h'⟩
 unfold digN
 rw [decide_eq_false_iff_not]
 omega
theorem num_stop {m k:Mc} {c:Nat} (hm:10≤m.st) (hc:stopB c=true) (h:stepM m c=some k):k.st≤5:=by
 obtain ⟨h1,h2,h3,h4,h5,h6,h7,-⟩:=stopB_parts hc
 unfold stepM numM at h
 rw [if_pos hm,if_neg (fun x=>h7 x.2),if_neg (fun x=>by rw [h1] at x;exact Bool.noConfusion x.2)] at h
 by_cases e1:m.st=10
 ·rw [if_pos e1] at h;cases h
 rw [if_neg e1,if_neg (fun x=>by rw [h1] at x;exact Bool.noConfusion x.2),if_neg (fun x=>h2 x.2)] at h
 by_cases e2:m.st=13
 ·rw [if_pos e2,if_neg (by rw [h1];decide)] at h;cases h
 rw [if_neg e2,if_neg (by omega),if_neg (by omega)] at h
 by_cases e3:m.st=15∨m.st=16
 ·rw [if_pos e3,if_neg (by rw [h1];decide)] at h;cases h
 rw [if_neg e3] at h
 unfold afterM at h
 repeat' split at h
 all_goals first
  | (cases h;done)
  | (injection h with h;subst h;simp)
theorem sq_ns {s:ByteArray} {i j:Nat} {k:Mc} (t:Tk s j k) (h:Sq N10 s i j):Ns s i j:=fun p a b=>by
 obtain ⟨k1,t1⟩:=t.pre (show p≤j by omega)
 obtain ⟨k2,t2⟩:=t.pre (show p+1≤j by omega)
 have hps:p<s.size:=by have:=t.1;omega
 cases hc:stopB (byteAt s p) with
 | false=>rfl
 | true =>
  exfalso
  have n1:=h p k1 a (by omega) t1
  have n2:=h (p+1) k2 (by omega) (by omega) t2
  unfold N10 at n1 n2
  cases hs:stepM k1 (byteAt s p) with
  | none =>
   have hb:=t1.bad hps hs
   obtain ⟨-,m,e,-⟩:=hb
   have:=run_take mc0 (byts s)
   have t2':=t2.2
   rw [byts_take s p hps,takeM_app,t1.2,byt_byteAt] at t2'
   have e2:takeM k1 [byteAt s p]=none:=by
    simp only [takeM,hs]
   rw [show ((some k1).bind fun k=>takeM k [byteAt s p])=takeM k1 [byteAt s p] from rfl,e2] at t2'
   cases t2'
  | some k3 =>
   have:=t2.uniq (t1.next hps hs)
   subst this
   have:=num_stop n1 hc hs
   omega
end Go.Proofs.YtongedjlmohogaaGreatDoor
/- How far a text can be a document's beginning: brackets,commas,names;how deep it is,and the verdict (mathematics alone). -/
namespace Go.Proofs.YtongedjlmohogaaGreatDoor
open Go.RowKit Go.Shelf
theorem skip_not {s:ByteArray} {j k:Nat} (h:IsSkip s j k):blankN (byteAt s k)=false:=by
 rcases h.2.2.2 with e | e
 ·rw [byteAt_out s k (by omega)];decide
 ·exact e
theorem skip_same {s:ByteArray} {j k:Nat} (h:IsSkip s j k) (hb:blankN (byteAt s j)=false):k=j:=by
 rcases Nat.lt_or_ge j k with x | x
 ·rw [h.2.2.1 j (Nat.le_refl _) x] at hb;cases hb
 ·have:=h.1;omega
def DpI (s:ByteArray) (d:Nat) (i:Nat) (dp:Int):Prop :=
 (dp = -1∧∀ j,j<i→depS s (j+1)≤d)∨(∃ p:Nat,dp=(p:Int)∧p<i∧d<depS s (p+1)∧∀ j,j<p→depS s (j+1)≤d)
theorem dpI0 (s:ByteArray) (d:Nat):DpI s d 0 (-1):=.inl ⟨rfl,fun j h=>by omega⟩
theorem DpI.lo {s:ByteArray} {d i:Nat} {dp:Int} (h:DpI s d i dp) (hi:i≤8388608):-1≤dp∧dp≤8388608:=by
 rcases h with ⟨rfl,-⟩ | ⟨p,rfl,h,-⟩ <;> omega
theorem DpI.le {s:ByteArray} {d i:Nat} {m:Mc} (t:Tk s i m) (h:DpI s d i (-1)):m.op.length≤d:=by
 rcases h with ⟨-,h⟩ | ⟨p,h,-⟩
 ·cases i with
  | zero=>have:=t.dep;have:=t.len;omega
  | succ i=>rw [← t.dep];exact h i (by omega)
 ·omega
theorem DpI.flat {s:ByteArray} {d i j:Nat} {m:Mc} {dp:Int} (t:Tk s i m) (h:DpI s d i dp) (hij:i≤j) (hf:Fl s i j m.op.length):DpI s d j dp:=by
 rcases h with ⟨rfl,h⟩ | ⟨p,rfl,h1,h2,h3⟩
 ·refine .inl ⟨rfl,fun q hq=>?_⟩
  by_cases e:q<i
  ·exact h q e
  ·have a:=hf q (by omega) hq
   have b:=DpI.le t (.inl ⟨rfl,h⟩)
   omega
 ·exact .inr ⟨p,rfl,by omega,h2,h3⟩
theorem DpI.up {s:ByteArray} {d i:Nat} {m k:Mc} {dp:Int} (t:Tk s i m) (t':Tk s (i+1) k) (ho:k.op.length=m.op.length+1) (h:DpI s d i dp) :
  DpI s d (i+1) (if m.op.length=d∧dp<0 then (i:Int) else dp):=by
 have hd:=t'.dep
 rcases h with ⟨rfl,h⟩ | ⟨p,rfl,h1,h2,h3⟩
 ·have b:=DpI.le t (.inl ⟨rfl,h⟩)
  by_cases e:m.op.length=d
  ·rw [if_pos ⟨e,by omega⟩]
   exact .inr ⟨i,rfl,by omega,by omega,h⟩
  ·rw [if_neg (fun x=>e x.1)]
   refine .inl ⟨rfl,fun q hq=>?_⟩
   by_cases e2:q<i
   ·exact h q e2
   ·obtain rfl:q=i:=by omega
    omega
 ·rw [if_neg (by omega)]
  exact .inr ⟨p,rfl,by omega,h2,h3⟩
def shutN (l:List Nat):List Nat:=l.map (· + 2)
theorem shutN_app (a b:List Nat):shutN (a++b)=shutN a++shutN b:=by simp [shutN]
theorem open_tk {s:ByteArray} {i:Nat} {m:Mc} (t:Tk s i m) (hv:Vw s i m) (hc:byteAt s i=91∨byteAt s i=123) :
  ∃ k,Tk s (i+1) k∧k.op=m.op++[byteAt s i]∧k.st=if byteAt s i=91 then 1 else 2:=by
 have hb:blankN (byteAt s i)=false:=by unfold blankN;rw [decide_eq_false_iff_not];omega
 have e:=step_value hv hb
 unfold valueM at e
 by_cases h:byteAt s i=91
 ·rw [if_pos h] at e
  exact ⟨_,t.next (byteAt_in (by omega)) e,by rw [h],by rw [if_pos h]⟩
 ·have h':byteAt s i=123:=by omega
  rw [if_neg h,if_pos h'] at e
  exact ⟨_,t.next (byteAt_in (by omega)) e,by rw [h'],by rw [if_neg h]⟩
def Cw (s:ByteArray) (i:Nat) (m:Mc):Prop:=m.st=1∨m.st=2∨Bhd s i m
theorem top_of {m:Mc} (h:m.op≠[]):∃ l a,m.op=l++[a]∧topN m=a:=by
 refine ⟨m.op.dropLast,m.op.getLast h,(List.dropLast_concat_getLast h).symm,?_⟩
 unfold topN
 rw [List.getLastD_eq_getLast?,List.getLast?_eq_some_getLast h]
 rfl
theorem Cw.skip {s:ByteArray} {j k:Nat} {m:Mc} (t:Tk s j m) (h:Cw s j m) (hs:IsSkip s j k):∃ m',Tk s k m'∧Cw s k m'∧m'.op=m.op∧Fl s j k m.op.length∧(m.st=1→m'.st=1)∧(m.st=2→m'.st=2)∧(Bh m→Bhd s k m'):=by
 rcases h with h | h | h
 ·obtain ⟨a,b⟩:=t.skip (by omega) hs
  exact ⟨m,a,.inl h,rfl,b,fun x=>x,fun x=>x,fun x=>by unfold Bh at x;omega⟩
 ·obtain ⟨a,b⟩:=t.skip (by omega) hs
  exact ⟨m,a,.inr (.inl h),rfl,b,fun x=>x,fun x=>x,fun x=>by unfold Bh at x;omega⟩
 ·obtain ⟨m',a,b,c,d⟩:=t.skipB h hs
  exact ⟨m',a,.inr (.inr b),c,d,fun x=>by have:=h.1;unfold Bh at this;omega,fun x=>by have:=h.1;unfold Bh at this;omega,fun _=>b⟩
theorem Cw.shut {s:ByteArray} {i a:Nat} {l:List Nat} {m:Mc} (t:Tk s i m) (h:Cw s i m) (ho:m.op=l++[a]) (hc:byteAt s i=a+2):∃ k,Tk s (i+1) k∧k.op=l∧k.st=5:=by
 have htop:topN m=a:=by unfold topN;rw [ho];simp
 have ha:a=91∨a=123:=t.fit2.op a (by rw [ho];simp)
 have hb:blankN (byteAt s i)=false:=by unfold blankN;rw [decide_eq_false_iff_not];omega
 have hdl:m.op.dropLast=l:=by rw [ho];simp
 have key:stepM m (byteAt s i)=some { m with op:=m.op.dropLast,st:=5 }:=by
  rcases h with h | h | h
  ·have:=t.fit.s1 h
   unfold stepM
   rw [if_neg (by omega),if_neg (by omega),if_neg (by omega),if_neg (by omega),if_neg (by rw [hb];decide),if_neg (by omega),if_neg (by omega),if_neg (by omega),if_pos (.inl ⟨h,by omega⟩)]
  ·have:=t.fit.s2 (.inl h)
   unfold stepM
   rw [if_neg (by omega),if_neg (by omega),if_neg (by omega),if_neg (by omega),if_neg (by rw [hb];decide),if_neg (by omega),if_neg (by omega),if_neg (by omega),if_pos (.inr ⟨h,by omega⟩)]
  ·rw [h.2]
   unfold afterM
   rw [if_neg (by rw [hb];decide),if_neg (by omega),if_neg (by omega),if_pos (by omega)]
 rw [← hdl]
 exact ⟨_,t.next (byteAt_in (by omega)) key,rfl,rfl⟩
theorem comma_tk {s:ByteArray} {i a:Nat} {l:List Nat} {m:Mc} (t:Tk s i m) (h:Bhd s i m) (ho:m.op=l++[a]) (hc:byteAt s i=44):∃ k,Tk s (i+1) k∧k.op=m.op∧k.st=if a=91 then 0 else 3:=by
 have htop:topN m=a:=by unfold topN;rw [ho];simp
 have ha:a=91∨a=123:=t.fit2.op a (by rw [ho];simp)
 have e:=h.2
 unfold afterM at e
 rw [hc,if_neg (by decide)] at e
 by_cases h91:a=91
 ·rw [if_pos ⟨rfl,by omega⟩,← hc] at e
  exact ⟨_,t.next (byteAt_in (by omega)) e,rfl,by rw [if_pos h91]⟩
 ·rw [if_neg (by omega),if_pos ⟨rfl,by omega⟩,← hc] at e
  exact ⟨_,t.next (byteAt_in (by omega)) e,rfl,by rw [if_neg h91]⟩
theorem comma_off {s:ByteArray} {i a:Nat} {l:List Nat} {m:Mc} (t:Tk s i m) (h:Bhd s i m) (ho:m.op=l++[a]) (hb:blankN (byteAt s i)=false) (hs:byteAt s i≠a+2) (hc:byteAt s i≠44):BadAt s i:=by
 have htop:topN m=a:=by unfold topN;rw [ho];simp
 have ha:a=91∨a=123:=t.fit2.op a (by rw [ho];simp)
 refine t.fail (whole_open (by rw [ho];simp)) ?_
 rw [h.2]
 unfold afterM
 rw [if_neg (by rw [hb];decide),if_neg (by omega),if_neg (by omega),if_neg (by omega)]
theorem colon_tk {s:ByteArray} {i:Nat} {m:Mc} (t:Tk s i m) (h:m.st=4) (hc:byteAt s i=58):∃ k,Tk s (i+1) k∧k.op=m.op∧k.st=0:=by
 have e:stepM m (byteAt s i)=some { m with st:=0 }:=by
  unfold stepM
  rw [if_neg (by omega),if_neg (by omega),if_neg (by omega),if_neg (by omega),if_neg (by rw [hc];decide),if_neg (by omega),if_pos h,if_pos hc]
 exact ⟨_,t.next (byteAt_in (by omega)) e,rfl,rfl⟩
theorem colon_off {s:ByteArray} {i:Nat} {m:Mc} (t:Tk s i m) (h:m.st=4) (hb:blankN (byteAt s i)=false) (hc:byteAt s i≠58):BadAt s i:=by
 refine t.fail (whole_not (by omega) (by omega) (by omega) (by omega) (by omega)) ?_
 unfold stepM
 rw [if_neg (by omega),if_neg (by omega),if_neg (by omega),if_neg (by omega),if_neg (by rw [hb];decide),if_neg (by omega),if_pos h,if_neg hc]
theorem end_off {s:ByteArray} {i:Nat} {m:Mc} (t:Tk s i m) (h:Bhd s i m) (ho:m.op=[]) (hb:blankN (byteAt s i)=false) (hi:i<s.size):BadAt s i:=by
 refine t.bad hi ?_
 rw [h.2]
 have htop:topN m=0:=by unfold topN;rw [ho];rfl
 unfold afterM
 rw [if_neg (by rw [hb];decide),if_neg (by omega),if_neg (by omega),if_neg (by omega)]
def IsVer (s:ByteArray) (d:Nat) (C A:Nat):Prop :=
 (C=2∧BadAt s A)∨(docM (byts s)∧((C=3∧A<s.size∧d<depS s (A+1)∧∀ j,j<A→depS s (j+1)≤d)∨(C=1∧A=s.size∧∀ j,j<s.size→depS s (j+1)≤d)))
theorem ver_end {s:ByteArray} {d:Nat} {m:Mc} {dp:Int} (t:Tk s s.size m) (h:Bh m) (ho:m.op=[]) (hd:DpI s d s.size dp):docM (byts s)∧((dp = -1∧IsVer s d 1 s.size)∨(∃ p:Nat,dp=(p:Int)∧IsVer s d 3 p)):=by
 have hdoc:docM (byts s):=⟨m,by have:=t.2;rwa [byts_whole] at this,whole_of ho h⟩
 refine ⟨hdoc,?_⟩
 rcases hd with ⟨rfl,h1⟩ | ⟨p,rfl,h1,h2,h3⟩
 ·exact .inl ⟨rfl,.inr ⟨hdoc,.inr ⟨rfl,rfl,h1⟩⟩⟩
 ·exact .inr ⟨p,rfl,.inr ⟨hdoc,.inl ⟨rfl,h1,h2,h3⟩⟩⟩
theorem doc_run {s:ByteArray} (h:docM (byts s)):∃ m,runM mc0 (byts s)=(s.size,m)∧wholeM m=true:=by
 obtain ⟨m,e,hw⟩:=h
 have:=run_all (byts s) mc0 m e
 rw [byts_length] at this
 exact ⟨m,this,hw⟩
theorem bad_doc {s:ByteArray} {k:Nat} (h:BadAt s k):¬ docM (byts s):=fun hd=>by
 obtain ⟨m,e,hw⟩:=doc_run hd
 obtain ⟨-,m',e',h'⟩:=h
 rw [e] at e'
 injection e' with e1 e2
 subst e1 e2
 rcases h' with h' | h'
 ·omega
 ·rw [hw] at h';cases h'
theorem ver_chk {s:ByteArray} {d C A:Nat} (h1:1≤d) (h2:d≤1024) (h:IsVer s d C A):IsChk s (d:Int) C A 0:=by
 refine .inr ⟨⟨by omega,by omega⟩,rfl,?_⟩
 rcases h with ⟨rfl,hk,m,e,h⟩ | ⟨hd,h⟩
 ·exact ⟨A,m,e,.inl ⟨h,rfl,rfl⟩⟩
 ·obtain ⟨m,e,hw⟩:=doc_run hd
  refine ⟨s.size,m,e,.inr ⟨rfl,hw,?_⟩⟩
  rcases h with ⟨rfl,a,b,c⟩ | ⟨rfl,rfl,c⟩
  ·exact .inl ⟨A,a,by omega,fun j hj=>by have:=c j hj;omega,rfl,rfl⟩
  ·exact .inr ⟨fun j hj=>by have:=c j hj;omega,rfl,rfl⟩
end Go.Proofs.YtongedjlmohogaaGreatDoor

namespace Go.Proofs.YtongedjlmohogaaGreatDoor
def hexZ (c:Nat):Int:=if 48≤c∧c≤57 then (c:Int)-48 else if 97≤c∧c≤102 then (c:Int)-87 else if 65≤c∧c≤70 then (c:Int)-55 else -1
theorem hexZ_lt (c:Nat):-1≤hexZ c∧hexZ c<16:=by
  unfold hexZ
  split
  · omega
  · split
    · omega
    · split <;> omega
structure Pc where
  size:Nat
  means:Nat
  four:Bool
def pc0:Pc:=⟨0,0,false⟩
def hexV (b:Nat→Nat):Nat→Nat
  | 0=>0
  | j+1=>hexV b j*16+(hexZ (b (2+j))).toNat
def hexOk (b:Nat→Nat):Nat→Bool
  | 0=>true
  | j+1=>hexOk b j && decide (0≤hexZ (b (2+j)))
theorem hexV_lt (b:Nat→Nat) (j:Nat) (h:j≤4):hexV b j<16 ^ j:=by
  induction j with
  | zero=>simp [hexV]
  | succ j ih =>
    have h1:=ih (by omega)
    have h2:=hexZ_lt (b (2+j))
    rw [hexV,Nat.pow_succ]
    omega
def bAt (s:ByteArray) (i:Nat):Nat:=(s.data[i]?.getD 0).toNat
theorem bAt_at (s:ByteArray) (i:Nat) (h:i<s.size):(s[i]'h).toNat=bAt s i:=by
  unfold bAt
  rw [Array.getElem?_eq_getElem (show i<s.data.size from h)]
  rfl
theorem bAt_lt (s:ByteArray) (i:Nat):bAt s i<256:=(s.data[i]?.getD 0).toNat_lt
theorem hexOk_le (b:Nat→Nat) {i j:Nat} (h:hexOk b j=true) (hi:i≤j):hexOk b i=true:=by
  induction j with
  | zero => obtain rfl : i = 0 := by omega
            exact h
  | succ j ih =>
    by_cases e:i=j+1
    · subst e;exact h
    · exact ih (by rw [hexOk,Bool.and_eq_true] at h;exact h.1) (by omega)
def fourP (b:Nat→Nat) (n:Nat):Pc:=if 6≤n∧hexOk b 4=true then ⟨6,hexV b 4,true⟩ else pc0
def nextP (b:Nat→Nat) (n:Nat):Pc :=
  if b 0<32∨b 0=34 then pc0 else if b 0≠92 then ⟨1,b 0,false⟩ else if n<2 then pc0
  else if b 1=34∨b 1=92∨b 1=47 then ⟨2,b 1,false⟩ else if b 1=98 then ⟨2,8,false⟩ else if b 1=102 then ⟨2,12,false⟩ else if b 1=110 then ⟨2,10,false⟩ else if b 1=114 then ⟨2,13,false⟩ else if b 1=116 then ⟨2,9,false⟩
  else if b 1=117 then fourP b n else pc0
def highP (p:Pc):Bool:=p.four && (decide (55296≤p.means) && decide (p.means≤56319))
def lowP (p:Pc):Bool:=p.four && (decide (56320≤p.means) && decide (p.means≤57343))
theorem fourP_size (b:Nat→Nat) (n:Nat):(fourP b n).size≤n∧(fourP b n).means<65536:=by
  unfold fourP
  split
  · rename_i h
    exact ⟨h.1,by have:=hexV_lt b 4 (by decide);simpa using this⟩
  · exact ⟨Nat.zero_le _,by decide⟩
theorem nextP_size (b:Nat→Nat) (n:Nat) (hn:0<n) (hb:∀ i,b i<256):(nextP b n).size≤n∧(nextP b n).means<65536:=by
  have h4:=fourP_size b n
  have h0:=hb 0
  have h1:=hb 1
  unfold nextP
  repeat' split
  all_goals first
    | exact h4
    | (refine ⟨?_,?_⟩ <;> simp only [pc0] <;> omega)
def charL (n:Nat):List Nat :=
  if n<128 then [n] else if n<2048 then [192+n / 64,128+n % 64] else if n<65536 then [224+n / 4096,128+n / 64 % 64,128+n % 64]
  else [240+n / 262144,128+n / 4096 % 64,128+n / 64 % 64,128+n % 64]
theorem charL_lt {n:Nat} (h:n<1114112):∀ x ∈ charL n,x<256:=by
  unfold charL
  repeat' split
  all_goals
    intro x hx
    simp at hx
  · omega
  · rcases hx with rfl | rfl <;> omega
  · rcases hx with rfl | rfl | rfl <;> omega
  · rcases hx with rfl | rfl | rfl | rfl <;> omega
def lb (l:List Nat) (i:Nat):Nat:=l.getD i 0
theorem bAt_lb (s:ByteArray):bAt s=lb (byts s):=by
  funext i
  unfold bAt lb byts
  rw [List.getD_eq_getElem?_getD,List.getElem?_map,Array.getElem?_toList]
  cases s.data[i]? <;> rfl
theorem lb_drop (l:List Nat) (k:Nat):lb (l.drop k)=fun i=>lb l (k+i):=by
  funext i
  unfold lb
  rw [List.getD_eq_getElem?_getD,List.getD_eq_getElem?_getD,List.getElem?_drop]
def nextL (l:List Nat):Pc:=nextP (lb l) l.length
theorem lb_lt {l:List Nat} (h:∀ x ∈ l,x<256) (i:Nat):lb l i<256:=by
  unfold lb
  rw [List.getD_eq_getElem?_getD]
  cases hi:l[i]? with
  | none=>decide
  | some x=>exact h x (List.mem_of_getElem? hi)
theorem nextL_size {l:List Nat} (hl:l≠[]) (h:∀ x ∈ l,x<256):(nextL l).size≤l.length∧(nextL l).means<65536 :=
  nextP_size (lb l) l.length (List.length_pos_iff.2 hl) (lb_lt h)
theorem nextP_four (b:Nat→Nat) (n:Nat) (h:(nextP b n).four=true):(nextP b n).size=6:=by
  revert h
  unfold nextP
  repeat' split
  all_goals first
    | (intro h;cases h;done)
    | (unfold fourP
       split
       · intro _;rfl
       · intro h;cases h)
theorem nextP_one (b:Nat→Nat) (n:Nat) (hb:∀ i,b i<256) (h:(nextP b n).four=false):(nextP b n).means<256:=by
  have h0:=hb 0
  have h1:=hb 1
  revert h
  unfold nextP
  repeat' split
  all_goals first
    | (intro _;simp only [pc0];omega)
    | (unfold fourP
       split
       · intro h;cases h
       · intro _;decide)
def stepL (l:List Nat):Option (Nat × List Nat) :=
  if (nextL l).size=0 then none
  else if highP (nextL l)=true∧(nextL l).size<l.length∧lowP (nextL (l.drop (nextL l).size))=true then some ((nextL l).size+(nextL (l.drop (nextL l).size)).size,charL (65536+((nextL l).means-55296)*1024+((nextL (l.drop (nextL l).size)).means-56320)))
  else if highP (nextL l)=true∨lowP (nextL l)=true then some ((nextL l).size,charL 65533)
  else if (nextL l).four=true then some ((nextL l).size,charL (nextL l).means) else some ((nextL l).size,[(nextL l).means])
theorem charL_len (n:Nat):1≤(charL n).length∧(charL n).length≤4:=by
  unfold charL
  repeat' split
  all_goals simp
theorem stepL_some {l o:List Nat} {k:Nat} (hl:l≠[]) (h:∀ x ∈ l,x<256) (e:stepL l=some (k,o)):1≤k∧k≤l.length∧o.length≤k∧∀ x ∈ o,x<256:=by
  obtain ⟨h1,h2⟩:=nextL_size hl h
  have hd:∀ x ∈ l.drop (nextL l).size,x<256:=fun x hx=>h x (List.mem_of_mem_drop hx)
  unfold stepL at e
  by_cases h0:(nextL l).size=0
  · rw [if_pos h0] at e;cases e
  · rw [if_neg h0] at e
    by_cases hp:highP (nextL l)=true∧(nextL l).size<l.length∧lowP (nextL (l.drop (nextL l).size))=true
    · rw [if_pos hp] at e
      obtain ⟨p1,p2,p3⟩:=hp
      simp only [Option.some.injEq,Prod.mk.injEq] at e
      obtain ⟨rfl,rfl⟩:=e
      have hne:l.drop (nextL l).size≠[]:=fun e=>by
        have:=congrArg List.length e
        rw [List.length_drop] at this
        simp at this
        omega
      obtain ⟨q1,q2⟩:=nextL_size hne hd
      rw [List.length_drop] at q1
      unfold highP at p1
      unfold lowP at p3
      simp only [Bool.and_eq_true,decide_eq_true_eq] at p1 p3
      have s1:=nextP_four _ _ p1.1
      have s2:=nextP_four _ _ p3.1
      have c:=charL_len (65536+((nextL l).means-55296)*1024+((nextL (l.drop (nextL l).size)).means-56320))
      refine ⟨by omega,by omega,?_,charL_lt (by omega)⟩
      have s3:(nextL l).size=6:=s1
      omega
    · rw [if_neg hp] at e
      by_cases hh:highP (nextL l)=true∨lowP (nextL l)=true
      · rw [if_pos hh] at e
        simp only [Option.some.injEq,Prod.mk.injEq] at e
        obtain ⟨rfl,rfl⟩:=e
        have hf:(nextL l).four=true:=by
          rcases hh with hh | hh
          · unfold highP at hh;rw [Bool.and_eq_true] at hh;exact hh.1
          · unfold lowP at hh;rw [Bool.and_eq_true] at hh;exact hh.1
        have s3:(nextL l).size=6:=nextP_four _ _ hf
        have c:=charL_len 65533
        exact ⟨by omega,h1,by omega,charL_lt (by decide)⟩
      · rw [if_neg hh] at e
        by_cases hf:(nextL l).four=true
        · rw [if_pos hf] at e
          simp only [Option.some.injEq,Prod.mk.injEq] at e
          obtain ⟨rfl,rfl⟩:=e
          have s3:(nextL l).size=6:=nextP_four _ _ hf
          have c:=charL_len (nextL l).means
          exact ⟨by omega,h1,by omega,charL_lt (by omega)⟩
        · rw [if_neg hf] at e
          simp only [Option.some.injEq,Prod.mk.injEq] at e
          obtain ⟨rfl,rfl⟩:=e
          have h3:=nextP_one (lb l) l.length (lb_lt h) (show (nextL l).four=false by simpa using hf)
          exact ⟨by omega,h1,by simp;omega,fun x hx=>by simp at hx;subst hx;exact h3⟩
def unescF:Nat→List Nat→Option (List Nat)
  | _,[]=>some []
  | 0,_ :: _=>none
  | n+1,x :: r=>match stepL (x :: r) with
    | none=>none
    | some (k,o)=>(unescF n ((x :: r).drop k)).map (o ++ ·)
def unescL (l:List Nat):Option (List Nat):=unescF l.length l
theorem unescF_more {l:List Nat} (h:∀ x ∈ l,x<256) {n:Nat} (hn:l.length≤n):unescF n l=unescF l.length l:=by
  induction n using Nat.strongRecOn generalizing l with
  | ind n ih =>
    cases l with
    | nil=>cases n <;> rfl
    | cons x r =>
      cases n with
      | zero=>simp at hn
      | succ n =>
        rw [List.length_cons]
        simp only [unescF]
        cases hs:stepL (x :: r) with
        | none=>rfl
        | some p =>
          obtain ⟨k,o⟩:=p
          have h1:=stepL_some (by simp) h hs
          have hd:∀ y ∈ (x :: r).drop k,y<256:=fun y hy=>h y (List.mem_of_mem_drop hy)
          have hlen:((x :: r).drop k).length≤r.length:=by rw [List.length_drop,List.length_cons];omega
          simp only []
          rw [List.length_cons] at hn
          rw [ih n (by omega) hd (by omega),← ih r.length (by omega) hd hlen]
theorem unescL_nil:unescL []=some []:=rfl
theorem unescL_none {l:List Nat} (hl:l≠[]) (hs:stepL l=none):unescL l=none:=by
  cases l with
  | nil=>exact absurd rfl hl
  | cons x r =>
    unfold unescL
    rw [List.length_cons]
    simp only [unescF]
    rw [hs]
theorem unescL_some {l o:List Nat} {k:Nat} (hl:l≠[]) (h:∀ x ∈ l,x<256) (hs:stepL l=some (k,o)):unescL l=(unescL (l.drop k)).map (o ++ ·):=by
  have h1:=stepL_some hl h hs
  cases l with
  | nil=>exact absurd rfl hl
  | cons x r =>
    have hd:∀ y ∈ (x :: r).drop k,y<256:=fun y hy=>h y (List.mem_of_mem_drop hy)
    unfold unescL
    rw [List.length_cons]
    simp only [unescF]
    rw [hs]
    simp only []
    rw [unescF_more hd (by rw [List.length_drop,List.length_cons];omega)]
theorem byts_lt (s:ByteArray):∀ x ∈ byts s,x<256:=by
  intro x hx
  unfold byts at hx
  simp only [List.mem_map] at hx
  obtain ⟨u,-,rfl⟩:=hx
  exact u.toNat_lt
end Go.Proofs.YtongedjlmohogaaGreatDoor

namespace Go.Proofs.YtongedjlmohogaaGreatDoor
def runQ (q:Q5):List Nat→Option Q5
 | []=>some q
 | x :: l=>match stp q x with
  | none=>none
  | some q'=>runQ q' l
theorem runQ_append (q:Q5) (a b:List Nat):runQ q (a++b)=match runQ q a with
  | none=>none
  | some q'=>runQ q' b:=by
 induction a generalizing q with
 | nil=>rfl
 | cons x a ih =>
  show runQ q (x :: (a++b))=_
  simp only [runQ]
  cases stp q x with
  | none=>rfl
  | some q'=>exact ih q'
theorem runS_runQ (l:List Nat):∀ s:St5,s.wrong=false→(∀ q,runQ s.q l=some q→runS s l=⟨s.good+l.length,false,q⟩)∧(runQ s.q l=none→(runS s l).wrong=true):=by
 induction l with
 | nil =>
  intro s hs
  refine ⟨fun q h=>?_,fun h=>by cases h⟩
  simp only [runQ,Option.some.injEq] at h
  subst h
  rw [runS_nil]
  cases s
  simp at hs
  subst hs
  rfl
 | cons x l ih =>
  intro s hs
  simp only [runQ]
  cases hq:stp s.q x with
  | none =>
   refine ⟨fun q h=>by simp at h,fun _=>?_⟩
   rw [runS_cons,tk_none hs hq,runS_wrong rfl]
  | some q' =>
   obtain ⟨h1,h2⟩:=ih ⟨s.good+1,false,q'⟩ rfl
   refine ⟨fun q h=>?_,fun h=>?_⟩
   ·rw [runS_cons,tk_some hs hq,h1 q h,List.length_cons]
    congr 1
    show s.good+1+l.length=s.good+(l.length+1)
    omega
   ·rw [runS_cons,tk_some hs hq]
    exact h2 h
def q50:Q5:=⟨0,0,0⟩
def okU (l:List Nat):Prop:=∃ q,runQ q50 l=some q∧q.left=0
theorem bad_iff (l:List Nat):badI (runS s5 l) = -1 ↔ okU l:=by
 obtain ⟨h1,h2⟩:=runS_runQ l s5 rfl
 unfold okU
 cases hq:runQ q50 l with
 | none =>
  have h3:=h2 hq
  refine ⟨fun h=>?_,fun ⟨q,h,_⟩=>by cases h⟩
  unfold badI at h
  rw [if_pos (.inl h3)] at h
  omega
 | some q =>
  have h3:=h1 q hq
  rw [h3]
  unfold badI
  refine ⟨fun h=>?_,fun ⟨q',h,h0⟩=>?_⟩
  ·by_cases h0:0<q.left
   ·rw [if_pos (.inr h0)] at h
    omega
   ·exact ⟨q,rfl,by omega⟩
  ·cases h
   rw [if_neg]
   rintro (h | h)
   ·cases h
   ·have h5:0<q.left:=h
    omega
theorem bad_neg (l:List Nat):badI (runS s5 l) = -1∨0≤badI (runS s5 l):=by
 unfold badI
 split
 ·right;omega
 ·left;rfl
def LoOk (q:Q5):Prop:=q.left≠0→128≤q.lo
theorem loOk_q50:LoOk q50:=fun h=>absurd rfl h
theorem stp_ok {q q':Q5} {x:Nat} (h:LoOk q) (hs:stp q x=some q'):LoOk q':=by
 unfold stp at hs
 by_cases h0:q.left=0
 ·rw [if_pos h0] at hs
  unfold begQ at hs
  repeat' split at hs
  all_goals first
   | (cases hs;done)
   | (simp only [Option.some.injEq] at hs;subst hs;first | exact h | (intro _;exact secLo_ge x))
 ·rw [if_neg h0] at hs
  split at hs
  ·cases hs
  ·simp only [Option.some.injEq] at hs
   subst hs
   intro _
   exact Nat.le_refl _
theorem stp_low {q q':Q5} {x:Nat} (h:LoOk q) (hx:x<128) (hs:stp q x=some q'):q.left=0∧q'=q:=by
 unfold stp at hs
 by_cases h0:q.left=0
 ·rw [if_pos h0] at hs
  unfold begQ at hs
  rw [if_neg (by omega),if_neg (by omega),if_neg (by omega),if_neg (by omega),if_neg (by omega)] at hs
  exact ⟨h0,by simpa using hs.symm⟩
 ·rw [if_neg h0,if_pos (.inl (by have:=h h0;omega))] at hs
  cases hs
theorem runQ_ascii {q:Q5} (h0:q.left=0) {l:List Nat} (hl:∀ x ∈ l,x<128):runQ q l=some q:=by
 induction l with
 | nil=>rfl
 | cons x l ih =>
  have hx:=hl x (by simp)
  have hs:stp q x=some q:=by
   unfold stp begQ
   rw [if_pos h0,if_neg (by omega),if_neg (by omega),if_neg (by omega),if_neg (by omega),if_neg (by omega)]
  simp only [runQ,hs]
  exact ih (fun y hy=>hl y (by simp [hy]))
def hexC (d:Nat):Nat:=if d<10 then 48+d else 87+d
def oneL (c:Nat):List Nat :=
 if c=34 then [92,34] else if c=92 then [92,92] else if c=8 then [92,98] else if c=12 then [92,102] else if c=10 then [92,110] else if c=13 then [92,114] else if c=9 then [92,116]
 else if c<32 then [92,117,48,48,hexC (c / 16),hexC (c % 16)] else [c]
theorem oneL_ascii {c:Nat} (h:c<128):∀ x ∈ oneL c,x<128:=by
 unfold oneL
 repeat' split
 all_goals intro x hx;simp at hx
 all_goals first
  | omega
  | (rcases hx with rfl | rfl | rfl | rfl | rfl | rfl <;> first | omega | (unfold hexC;split <;> omega))
theorem oneL_high {c:Nat} (h:128≤c):oneL c=[c]:=by
 unfold oneL
 rw [if_neg (by omega),if_neg (by omega),if_neg (by omega),if_neg (by omega),if_neg (by omega),if_neg (by omega),if_neg (by omega),if_neg (by omega)]
theorem esc_utf8 {q q':Q5} (h:LoOk q) {l:List Nat} (hr:runQ q l=some q'):runQ q (l.flatMap oneL)=some q':=by
 induction l generalizing q with
 | nil=>exact hr
 | cons x l ih =>
  simp only [runQ] at hr
  cases hs:stp q x with
  | none=>rw [hs] at hr;cases hr
  | some q1 =>
   rw [hs] at hr
   rw [List.flatMap_cons,runQ_append]
   by_cases hx:x<128
   ·obtain ⟨h0,rfl⟩:=stp_low h hx hs
    rw [runQ_ascii h0 (oneL_ascii hx)]
    exact ih h hr
   ·rw [oneL_high (by omega)]
    simp only [runQ,hs]
    exact ih (stp_ok h hs) hr
theorem esc_ok {l:List Nat} (h:okU l):okU (l.flatMap oneL):=by
 obtain ⟨q,h1,h2⟩:=h
 exact ⟨q,esc_utf8 loOk_q50 h1,h2⟩
theorem hexZ_C {d:Nat} (h:d<16):hexZ (hexC d)=(d:Int):=by
 unfold hexC hexZ
 split
 ·rw [if_pos (by omega)];omega
 ·rw [if_neg (by omega),if_pos (by omega)];omega
theorem step_one {c:Nat} (hc:c<256) (rest:List Nat):stepL (oneL c++rest)=some ((oneL c).length,[c]):=by
 have key:∀ (a:Nat) (m:Nat),(a=34∨a=92∨a=98∨a=102∨a=110∨a=114∨a=116)→nextL ([92,a]++rest)=⟨2,m,false⟩→stepL ([92,a]++rest)=some (2,[m]):=by
  intro a m _ h
  unfold stepL
  rw [h]
  simp [highP,lowP]
 unfold oneL
 by_cases k34:c=34
 ·subst k34
  rw [if_pos rfl]
  exact key 34 34 (by simp) (by simp [nextL,nextP,lb];intro h;omega)
 rw [if_neg k34]
 by_cases k92:c=92
 ·subst k92
  rw [if_pos rfl]
  exact key 92 92 (by simp) (by simp [nextL,nextP,lb];intro h;omega)
 rw [if_neg k92]
 by_cases k8:c=8
 ·subst k8
  rw [if_pos rfl]
  exact key 98 8 (by simp) (by simp [nextL,nextP,lb];intro h;omega)
 rw [if_neg k8]
 by_cases k12:c=12
 ·subst k12
  rw [if_pos rfl]
  exact key 102 12 (by simp) (by simp [nextL,nextP,lb];intro h;omega)
 rw [if_neg k12]
 by_cases k10:c=10
 ·subst k10
  rw [if_pos rfl]
  exact key 110 10 (by simp) (by simp [nextL,nextP,lb];intro h;omega)
 rw [if_neg k10]
 by_cases k13:c=13
 ·subst k13
  rw [if_pos rfl]
  exact key 114 13 (by simp) (by simp [nextL,nextP,lb];intro h;omega)
 rw [if_neg k13]
 by_cases k9:c=9
 ·subst k9
  rw [if_pos rfl]
  exact key 116 9 (by simp) (by simp [nextL,nextP,lb];intro h;omega)
 rw [if_neg k9]
 by_cases h32:c<32
 ·rw [if_pos h32]
  have e1:c / 16<16:=by omega
  have e2:c % 16<16:=by omega
  have hn:nextL ([92,117,48,48,hexC (c / 16),hexC (c % 16)]++rest)=⟨6,c,true⟩:=by
   have z0:hexZ 48=0:=by decide
   have hok:hexOk (lb ([92,117,48,48,hexC (c / 16),hexC (c % 16)]++rest)) 4=true:=by
    simp [hexOk,lb,hexZ_C e1,hexZ_C e2,z0]
    omega
   have hv:hexV (lb ([92,117,48,48,hexC (c / 16),hexC (c % 16)]++rest)) 4=c:=by
    simp [hexV,lb,hexZ_C e1,hexZ_C e2,z0]
    omega
   have hf:fourP (lb ([92,117,48,48,hexC (c / 16),hexC (c % 16)]++rest)) ([92,117,48,48,hexC (c / 16),hexC (c % 16)]++rest).length=⟨6,c,true⟩:=by
    unfold fourP
    rw [if_pos ⟨by simp,hok⟩,hv]
   have b0:lb ([92,117,48,48,hexC (c / 16),hexC (c % 16)]++rest) 0=92:=rfl
   have b1:lb ([92,117,48,48,hexC (c / 16),hexC (c % 16)]++rest) 1=117:=rfl
   unfold nextL nextP
   rw [b0,b1,if_neg (by decide),if_neg (by simp),if_neg (by simp),if_neg (by decide),if_neg (by decide),if_neg (by decide),if_neg (by decide),if_neg (by decide),if_neg (by decide),if_pos rfl]
   exact hf
  unfold stepL
  rw [hn]
  have hh:highP ⟨6,c,true⟩=false:=by simp [highP];omega
  have hl:lowP ⟨6,c,true⟩=false:=by simp [lowP];omega
  rw [if_neg (by simp),if_neg (by rw [hh];simp),if_neg (by rw [hh,hl];simp),if_pos rfl]
  simp [charL,show c<128 by omega]
 ·rw [if_neg h32]
  have hn:nextL ([c]++rest)=⟨1,c,false⟩:=by
   simp [nextL,nextP,lb,h32,k34,k92]
  unfold stepL
  rw [hn]
  simp [highP,lowP]
theorem unesc_esc {l:List Nat} (h:∀ x ∈ l,x<256):unescL (l.flatMap oneL)=some l:=by
 induction l with
 | nil=>rfl
 | cons x l ih =>
  have hx:=h x (by simp)
  have hl:∀ y ∈ l,y<256:=fun y hy=>h y (by simp [hy])
  have hs:=step_one hx (l.flatMap oneL)
  have hne:oneL x++l.flatMap oneL≠[]:=fun e=>by
   rw [e] at hs
   simp [stepL,nextL,nextP,lb,pc0] at hs
  have hb:∀ y ∈ oneL x++l.flatMap oneL,y<256:=fun y hy=>by
   rcases List.mem_append.1 hy with hy | hy
   ·by_cases hx2:x<128
    ·have:=oneL_ascii hx2 y hy;omega
    ·rw [oneL_high (by omega)] at hy;simp at hy;omega
   ·obtain ⟨z,hz,hy⟩:=List.mem_flatMap.1 hy
    have hz2:=hl z hz
    by_cases hx2:z<128
    ·have:=oneL_ascii hx2 y hy;omega
    ·rw [oneL_high (by omega)] at hy;simp at hy;omega
  rw [List.flatMap_cons,unescL_some hne hb hs,List.drop_left,ih hl]
  simp
end Go.Proofs.YtongedjlmohogaaGreatDoor

namespace Go.Proofs.YtongedjlmohogaaGreatDoor
open Go.RowKit Go.Shelf
theorem secLo_128 (c:Nat):128≤secLo c:=by
 unfold secLo
 split
 ·decide
 ·split <;> decide
theorem stp_lo {q q':Q5} {c:Nat} (h:stp q c=some q') (hlo:0<q.left→128≤q.lo):0<q'.left→128≤q'.lo:=by
 unfold stp at h
 split at h
 ·unfold begQ at h
  repeat' split at h
  all_goals first
   | (cases h;done)
   | (cases h;exact fun _=>secLo_128 c)
   | (cases h;exact hlo)
 ·split at h
  ·cases h
  ·cases h
   intro _
   exact Nat.le_refl _
theorem hexN_C {x:Nat} (h:x<16):hexN (hexC x)=true:=by
 unfold hexN hexC
 apply decide_eq_true
 split <;> omega
theorem stpQ_low {q q':Q5} {c:Nat} (hc:c<128) (h:stp q c=some q') (hlo:0<q.left→128≤q.lo):q.left=0∧q'=q:=by
 unfold stp at h
 split at h
 ·rename_i h0
  refine ⟨h0,?_⟩
  unfold begQ at h
  rw [if_neg (by omega),if_neg (by omega),if_neg (by omega),if_neg (by omega),if_neg (by omega)] at h
  exact (Option.some.inj h).symm
 ·rename_i h0
  have:=hlo (by omega)
  rw [if_pos (by omega)] at h
  cases h
theorem step6_92 {m:Mc} (hst:m.st=6) (hl:m.lf=0):stepM m 92=some { m with st:=7,lo:=128,hi:=191 }:=by
 rw [step_text hst]
 unfold charM
 rw [if_neg (by omega),if_neg (by omega),if_neg (by omega),if_pos rfl]
theorem step7 {m:Mc} {c:Nat} (hst:m.st=7) (hc:c=34∨c=92∨c=47∨c=98∨c=102∨c=110∨c=114∨c=116):stepM m c=some { m with st:=6 }:=by
 unfold stepM
 rw [if_neg (by omega),if_neg (by omega),if_pos (.inl hst)]
 unfold escM
 rw [if_neg (by omega),if_pos hc]
theorem step7u {m:Mc} (hst:m.st=7):stepM m 117=some { m with st:=8,lf:=4 }:=by
 unfold stepM
 rw [if_neg (by omega),if_neg (by omega),if_pos (.inl hst)]
 unfold escM
 rw [if_neg (by omega),if_neg (by omega),if_pos rfl]
theorem step8 {m:Mc} {c:Nat} (hst:m.st=8) (hc:hexN c=true):stepM m c=some { m with lf:=m.lf-1,st:=if m.lf=1 then 6 else 8 }:=by
 unfold stepM
 rw [if_neg (by omega),if_neg (by omega),if_pos (.inr hst)]
 unfold escM
 rw [if_pos hst,if_pos hc]
theorem esc_step {m:Mc} {q q':Q5} {c:Nat} (hst:m.st=6) (hl:q.left=m.lf) (hb:0<m.lf→q.lo=m.lo∧q.hi=m.hi) (hlo:0<q.left→128≤q.lo) (hq:stp q c=some q') :
  ∃ k,takeM m (oneL c)=some k∧k.st=6∧k.nm=m.nm∧k.op=m.op∧q'.left=k.lf∧(0<k.lf→q'.lo=k.lo∧q'.hi=k.hi):=by
 by_cases hp:32≤c∧c≠34∧c≠92
 ·have h1:oneL c=[c]:=by
   unfold oneL
   rw [if_neg hp.2.1,if_neg hp.2.2,if_neg (by omega),if_neg (by omega),if_neg (by omega),if_neg (by omega),if_neg (by omega),if_neg (by omega)]
  rw [h1]
  have hpl:plnB c=true:=by unfold plnB;apply decide_eq_true;omega
  rcases plain_stepQ hst hl hb hpl with ⟨h2,-⟩ | ⟨q'',k,h2,h3,h4⟩
  ·rw [h2] at hq;cases hq
  ·rw [h2] at hq
   obtain rfl:=Option.some.inj hq
   exact ⟨k,by rw [takeM_cons h3];rfl,h4⟩
 ·have hc:c<128:=by omega
  obtain ⟨h0,rfl⟩:=stpQ_low hc hq hlo
  have hl0:m.lf=0:=by omega
  have two:∀ x,(x=34∨x=92∨x=47∨x=98∨x=102∨x=110∨x=114∨x=116)→∃ k,takeM m [92,x]=some k∧k.st=6∧k.nm=m.nm∧k.op=m.op∧q'.left=k.lf∧(0<k.lf→q'.lo=k.lo∧q'.hi=k.hi):=fun x hx=>by
   refine ⟨{ m with st:=6,lo:=128,hi:=191 },(takeM_cons (step6_92 hst hl0)).trans ((takeM_cons (step7 rfl hx)).trans rfl),rfl,rfl,rfl,hl,fun h=>?_⟩
   have h':0<m.lf:=h
   omega
  unfold oneL
  by_cases k1:c=34
  ·rw [if_pos k1];exact two 34 (by omega)
  ·rw [if_neg k1]
   by_cases k2:c=92
   ·rw [if_pos k2];exact two 92 (by omega)
   ·rw [if_neg k2]
    by_cases k3:c=8
    ·rw [if_pos k3];exact two 98 (by omega)
    ·rw [if_neg k3]
     by_cases k4:c=12
     ·rw [if_pos k4];exact two 102 (by omega)
     ·rw [if_neg k4]
      by_cases k5:c=10
      ·rw [if_pos k5];exact two 110 (by omega)
      ·rw [if_neg k5]
       by_cases k6:c=13
       ·rw [if_pos k6];exact two 114 (by omega)
       ·rw [if_neg k6]
        by_cases k7:c=9
        ·rw [if_pos k7];exact two 116 (by omega)
        ·rw [if_neg k7,if_pos (by omega)]
         have e1:=takeM_cons (l:=[117,48,48,hexC (c / 16),hexC (c % 16)]) (step6_92 hst hl0)
         refine ⟨{ m with st:=6,lf:=0,lo:=128,hi:=191 },e1.trans ((takeM_cons (step7u rfl)).trans ((takeM_cons (step8 rfl (by decide))).trans ((takeM_cons (step8 rfl (by decide))).trans ((takeM_cons (step8 rfl (hexN_C (by omega)))).trans ((takeM_cons (step8 rfl (hexN_C (by omega)))).trans rfl))))),rfl,rfl,rfl,?_,fun h=>?_⟩
         ·show q'.left=0
          exact h0
         ·exact absurd (show 0<0 from h) (Nat.lt_irrefl 0)
theorem esc_run:∀ (L:List Nat) (m:Mc) (q:Q5) (g:Nat),m.st=6→q.left=m.lf→(0<m.lf→q.lo=m.lo∧q.hi=m.hi)→(0<q.left→128≤q.lo)→(runS ⟨g,false,q⟩ L).wrong=false →
  ∃ k,takeM m (L.flatMap oneL)=some k∧k.st=6∧k.nm=m.nm∧k.op=m.op∧(runS ⟨g,false,q⟩ L).q.left=k.lf
 | [],m,q,g,hst,hl,hb,hlo,_=>⟨m,rfl,hst,rfl,rfl,hl⟩
 | c :: L,m,q,g,hst,hl,hb,hlo,hw=>by
  rw [runS_cons] at hw ⊢
  cases hq:stp q c with
  | none =>
   exfalso
   have e:tk ⟨g,false,q⟩ c=⟨g,true,q⟩:=by simp [tk,hq]
   rw [e] at hw
   have hk:∀ (l:List Nat) (s:St5),s.wrong=true→(runS s l).wrong=true:=fun l=>by
    induction l with
    | nil=>exact fun s h=>h
    | cons x l ih=>exact fun s h=>by rw [runS_cons];exact ih _ (by simp [tk,h])
   rw [hk L _ rfl] at hw
   cases hw
  | some q' =>
   have e:tk ⟨g,false,q⟩ c=⟨g+1,false,q'⟩:=by simp [tk,hq]
   rw [e] at hw ⊢
   obtain ⟨k,h1,h2,h3,h4,h5,h6⟩:=esc_step hst hl hb hlo hq
   obtain ⟨k',g1,g2,g3,g4,g5⟩:=esc_run L k q' (g+1) h2 h5 h6 (stp_lo hq hlo) hw
   refine ⟨k',?_,g2,g3.trans h3,g4.trans h4,g5⟩
   rw [List.flatMap_cons,takeM_app,h1]
   exact g1
theorem esc_doc {s:ByteArray} (h:badOf s = -1):∃ k,takeM mc0 (34 :: ((byts s).flatMap oneL++[34]))=some k∧k.st=5∧k.op=[]:=by
 have hw:(runS s5 (byts s)).wrong=false∧(runS s5 (byts s)).q.left=0:=by
  unfold badOf badI at h
  split at h
  ·omega
  ·rename_i hn
   constructor
   ·cases hh:(runS s5 (byts s)).wrong with
    | false=>rfl
    | true=>exact absurd (.inl hh) hn
   ·omega
 have h1:stepM mc0 34=some { mc0 with nm:=false,st:=6 }:=rfl
 obtain ⟨k,g1,g2,g3,g4,g5⟩:=esc_run (byts s) { mc0 with nm:=false,st:=6 } ⟨0,0,0⟩ 0 rfl rfl (fun h=>absurd h (by decide)) (fun h=>absurd h (by decide)) hw.1
 have hlf:k.lf=0:=g5.symm.trans hw.2
 have hnm:k.nm=false:=g3
 rw [takeM_cons h1,takeM_app,g1]
 have h2:stepM k 34=some { k with st:=5,lo:=128,hi:=191 }:=by
  rw [step_text g2]
  unfold charM
  rw [if_neg (by omega),if_neg (by rw [hnm];simp),if_pos rfl]
 exact ⟨{ k with st:=5,lo:=128,hi:=191 },(takeM_cons h2).trans rfl,rfl,g4⟩
end Go.Proofs.YtongedjlmohogaaGreatDoor

/- What the reference reckons of the first bytes of a form: the least and the greatest number that they can begin;that goes together with the state. -/
namespace Go.Proofs.YtongedjlmohogaaGreatDoor
end Go.Proofs.YtongedjlmohogaaGreatDoor
/- How a text is gone through,form by form. -/
namespace Go.Proofs.YtongedjlmohogaaGreatDoor
def telOf (s:ByteArray):List (Nat × Nat):=tel s5.q 0 0 0 (byts s)
def WalkAt (s:ByteArray) (p i:Nat) (b:List Nat) (q:Q5) (r:Nat) (pre:List (Nat × Nat)):Prop :=
 p+b.length=i∧i≤s.size∧b=((byts s).drop p).take b.length∧FormAt b q r∧runS s5 ((byts s).take i)=⟨i,false,q⟩∧telOf s=pre++tel q p r i ((byts s).drop i)∧pre.length≤p
theorem WalkAt.start (s:ByteArray):WalkAt s 0 0 [] s5.q 0 []:=⟨rfl,Nat.zero_le _,rfl,rfl,rfl,rfl,Nat.zero_le _⟩
section
variable {s:ByteArray} {p i:Nat} {b:List Nat} {q:Q5} {r:Nat} {pre:List (Nat × Nat)}
theorem WalkAt.bad (h:WalkAt s p i b q r pre) (hi:i<s.size) (hs:stp q (byt s i)=none):badOf s=i∧telOf s=pre:=by
 obtain ⟨h1,h2,h3,h4,h5,h6,h7⟩:=h
 constructor
 ·unfold badOf
  have e:byts s=(byts s).take (i+1)++(byts s).drop (i+1):=(List.take_append_drop _ _).symm
  rw [e,runS_append,byts_take s i hi,runS_snoc,h5,tk_none rfl hs,runS_wrong rfl]
  rfl
 ·rw [h6,byts_drop s i hi,tel,hs]
  exact List.append_nil _
theorem WalkAt.next (h:WalkAt s p i b q r pre) (hi:i<s.size) {q':Q5} (hs:stp q (byt s i)=some q') :
  (q'.left=0→WalkAt s (i+1) (i+1) [] q' (nextR b r (byt s i) q'.left) (pre++[(p,nextR b r (byt s i) q'.left)])) ∧
   (q'.left≠0→WalkAt s p (i+1) (b++[byt s i]) q' (nextR b r (byt s i) q'.left) pre):=by
 obtain ⟨h1,h2,h3,h4,h5,h6,h7⟩:=h
 have hrun:runS s5 ((byts s).take (i+1))=⟨i+1,false,q'⟩:=by rw [byts_take s i hi,runS_snoc,h5,tk_some rfl hs]
 have hr:(if i=p then byt s i &&& (127 >>> q'.left) else r*64+byt s i % 64)=nextR b r (byt s i) q'.left:=by
  unfold nextR
  by_cases e:b=[]
  ·subst e
   rw [if_pos (by simpa using h1.symm),if_pos rfl]
  ·rw [if_neg e,if_neg]
   intro k
   apply e
   apply List.eq_nil_of_length_eq_zero
   omega
 have hb:b++[byt s i]=((byts s).drop p).take (b++[byt s i]).length:=by
  have hd:=byts_drop s i hi
  rw [List.length_append,List.length_cons,List.length_nil,Nat.zero_add,List.take_add_one,← h3,List.getElem?_drop,h1,byts_get s i hi]
  rfl
 rcases form_step h4 (byt_lt s i) hs with ⟨a,_,_⟩ | ⟨a,c⟩
 ·refine ⟨fun _=>⟨rfl,hi,by simp,a,hrun,?_,by simp;omega⟩,fun k=>absurd a k⟩
  rw [h6,byts_drop s i hi,tel,hs]
  simp only [if_pos a]
  rw [hr,List.append_assoc]
  rfl
 ·refine ⟨fun k=>by omega,fun _=>⟨by simp;omega,hi,hb,c,hrun,?_,h7⟩⟩
  rw [h6,byts_drop s i hi,tel,hs]
  simp only [if_neg (show ¬ q'.left=0 by omega)]
  rw [hr]
theorem WalkAt.done (h:WalkAt s p s.size b q r pre):telOf s=pre∧badOf s=(if q.left=0 then -1 else (s.size:Int)):=by
 obtain ⟨h1,h2,h3,h4,h5,h6,h7⟩:=h
 constructor
 ·rw [h6,List.drop_of_length_le (by rw [byts_length];exact Nat.le_refl _),tel]
  exact List.append_nil _
 ·unfold badOf
  rw [byts_whole] at h5
  rw [h5]
  unfold badI
  by_cases e:q.left=0
  ·rw [if_pos e,if_neg]
   intro k
   rcases k with k | k
   ·cases k
   ·have:0<q.left:=k
    omega
  ·rw [if_neg e,if_pos (.inr (by show 0<q.left;omega))]
end
end Go.Proofs.YtongedjlmohogaaGreatDoor

namespace Go.Proofs.YtongedjlmohogaaGreatDoor
open Go.RowKit Go.Shelf
def unS (s:ByteArray):ByteArray × Int:=if 0≤badOf s then (⟨#[]⟩,50) else match unescL (byts s) with
 | none=>(⟨#[]⟩,150)
 | some o=>(mkS o,0)
def strSz:Value→Nat
 | .string r=>r.size
 | _=>0
theorem rowT_kept {w w':World} {B n:Nat} {v:Value} {xs:List Value} (h:w.ownsRow B 5 1 v n xs) (hb:Below w.heap.size w w'):w'.ownsRow B 5 1 v n xs :=
 h.kept (grown_of_below hb) (by cases h:v.ownBlock <;> simp)
def UnR (s r:ByteArray) (o:List Nat):Prop:=unescL (byts s)=(unescL (byts r)).map (o ++ ·)∧(∀ x ∈ o,x<256)∧o.length+r.size≤s.size
theorem UnR.step {s r r':ByteArray} {o o2:List Nat} {k:Nat} (h:UnR s r o) (hr:0<r.size) (hs:stepL (byts r)=some (k,o2)) (hr':byts r'=(byts r).drop k):UnR s r' (o++o2)∧r'.size<r.size:=by
 obtain ⟨h1,h2,h3⟩:=h
 have hne:byts r≠[]:=fun e=>by
  have:=byts_length r
  rw [e] at this
  simp at this
  omega
 obtain ⟨k1,k2,k3,k4⟩:=stepL_some hne (byts_lt r) hs
 have hl:r'.size=r.size-k:=by rw [← byts_length,hr',List.length_drop,byts_length]
 rw [byts_length] at k2
 refine ⟨⟨?_,?_,?_⟩,by omega⟩
 ·rw [h1,unescL_some hne (byts_lt r) hs,hr',Option.map_map]
  congr 1
  funext x
  simp
 ·intro x hx
  rcases List.mem_append.1 hx with hx | hx
  ·exact h2 x hx
  ·exact k4 x hx
 ·rw [List.length_append]
  omega
theorem byts_from (r:ByteArray) (k:Nat):byts (r.extract k r.size)=(byts r).drop k∧(r.extract k r.size).size=r.size-k:=by
 have h:byts (r.extract k r.size)=(byts r).drop k:=by
  rw [byts_extract,List.take_of_length_le (by rw [List.length_drop,byts_length];exact Nat.le_refl _)]
 exact ⟨h,by rw [← byts_length,h,List.length_drop,byts_length]⟩
end Go.Proofs.YtongedjlmohogaaGreatDoor
