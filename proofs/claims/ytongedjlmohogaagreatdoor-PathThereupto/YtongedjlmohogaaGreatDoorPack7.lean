/-
  Texts of mine that others lean on, one behind the other.
-/
import Derived.Test.YtongedjlmohogaaGreatDoorPack6
import Derived.BigQuiet
import Derived.Test.YtongedjlmohogaaGreatDoorPack1
import Derived.Laws.AppendOwn
import Derived.Test.YtongedjlmohogaaGreatDoorRows
import Derived.ChangeSlices
import Derived.SizedLaws
import Derived.Lib.Strings
namespace Go.Proofs.YtongedjlmohogaaGreatDoor
open Go.RowKit Go.Shelf
theorem oneL_lt {c:Nat} (h:c<256):(∀ x ∈ oneL c,x<256)∧1≤(oneL c).length∧(oneL c).length≤6:=by
 unfold oneL
 repeat' split
 all_goals refine ⟨?_,by simp,by simp⟩
 all_goals intro x hx;simp at hx
 all_goals first
  | omega
  | (rcases hx with rfl | rfl | rfl | rfl | rfl | rfl <;> first | omega | (unfold hexC;split <;> omega))
def wrS (s:ByteArray):ByteArray × Int:=if 0≤badOf s then (⟨#[]⟩,50) else (mkS ((byts s).flatMap oneL),0)
def wrI (s:ByteArray) (i:Nat):ByteArray:=mkS (((byts s).take i).flatMap oneL)
theorem wrI_len (s:ByteArray) (i:Nat):(wrI s i).size≤6*i:=by
 unfold wrI
 rw [mkS_size]
 induction i with
 | zero=>simp
 | succ i ih =>
  rw [List.take_add_one,List.flatMap_append,List.length_append]
  cases h:(byts s)[i]? with
  | none=>simp only [Option.toList_none,List.flatMap_nil,List.length_nil];omega
  | some x =>
   have:=(oneL_lt (byts_lt s x (List.mem_of_getElem? h))).2.2
   simp only [Option.toList_some,List.flatMap_cons,List.flatMap_nil,List.append_nil]
   omega
end Go.Proofs.YtongedjlmohogaaGreatDoor

namespace Go.Proofs.YtongedjlmohogaaGreatDoor
open Go.RowKit Go.Shelf
def IsEnd (s:ByteArray) (f:Int) (n E:Int):Prop :=
 ((f<0∨(s.size:Int)<f)∧n=0∧E=2)∨∃ k:Nat,f=(k:Int)∧k≤s.size ∧
  ((∃ i:Nat,i<s.size-k∧bAt s (k+i)=34∧escG (slash (s.extract k s.size)) false i=false∧(∀ j,j<i→¬ (bAt s (k+j)=34∧escG (slash (s.extract k s.size)) false j=false))∧n=((k+i:Nat):Int)∧E=0) ∨
   ((∀ j,j<s.size-k→¬ (bAt s (k+j)=34∧escG (slash (s.extract k s.size)) false j=false))∧n=0∧E=150))
theorem bAt_from (s:ByteArray) (k i:Nat):bAt (s.extract k s.size) i=bAt s (k+i):=by
 rw [bAt_lb,bAt_lb,(byts_from s k).1,lb_drop]
end Go.Proofs.YtongedjlmohogaaGreatDoor

namespace Go.Proofs.YtongedjlmohogaaGreatDoor
theorem hexZ_ascii {d:Nat} (h:0≤hexZ d):d<128∧d≠34∧d≠92:=by
 unfold hexZ at h
 repeat' split at h
 all_goals omega
theorem next_cases {l:List Nat} (hl:l≠[]) (hp:(nextL l).size≠0) :
  (∃ x r,l=x :: r∧32≤x∧x≠34∧x≠92∧nextL l=⟨1,x,false⟩)∨(∃ y r m,l=92 :: y :: r∧y<128∧m<128∧nextL l=⟨2,m,false⟩∧∀ r',nextL (92 :: y :: r')=⟨2,m,false⟩) ∨
   ∃ a b c d r m,l=92 :: 117 :: a :: b :: c :: d :: r∧0≤hexZ a∧0≤hexZ b∧0≤hexZ c∧0≤hexZ d∧m<65536∧nextL l=⟨6,m,true⟩∧∀ r',nextL (92 :: 117 :: a :: b :: c :: d :: r')=⟨6,m,true⟩:=by
 obtain ⟨x,r,rfl⟩:=List.exists_cons_of_ne_nil hl
 have b0:∀ r,lb (x :: r) 0=x:=fun _=>rfl
 by_cases h1:x<32∨x=34
 ·exact absurd (by unfold nextL nextP;rw [b0,if_pos h1];rfl) hp
 by_cases h2:x=92
 ·subst h2
  cases r with
  | nil=>exact absurd (by simp [nextL,nextP,lb,pc0]) hp
  | cons y r =>
   have b1:∀ r,lb (92 :: y :: r) 1=y:=fun _=>rfl
   have hlen:∀ r:List Nat,¬ (92 :: y :: r).length<2:=fun r=>by simp
   have key:∀ r,nextL (92 :: y :: r)=if y=34∨y=92∨y=47 then ⟨2,y,false⟩ else if y=98 then ⟨2,8,false⟩ else if y=102 then ⟨2,12,false⟩ else if y=110 then ⟨2,10,false⟩ else if y=114 then ⟨2,13,false⟩ else if y=116 then ⟨2,9,false⟩ else if y=117 then fourP (lb (92 :: y :: r)) (92 :: y :: r).length else pc0:=fun r=>by
    unfold nextL nextP
    rw [b0,b1,if_neg (by decide),if_neg (by simp),if_neg (hlen r)]
   by_cases k:y=34∨y=92∨y=47
   ·exact .inr (.inl ⟨y,r,y,rfl,by omega,by omega,by rw [key,if_pos k],fun r'=>by rw [key,if_pos k]⟩)
   by_cases k98:y=98
   ·exact .inr (.inl ⟨y,r,8,rfl,by omega,by omega,by rw [key,if_neg k,if_pos k98],fun r'=>by rw [key,if_neg k,if_pos k98]⟩)
   by_cases k102:y=102
   ·exact .inr (.inl ⟨y,r,12,rfl,by omega,by omega,by rw [key,if_neg k,if_neg k98,if_pos k102],fun r'=>by rw [key,if_neg k,if_neg k98,if_pos k102]⟩)
   by_cases k110:y=110
   ·exact .inr (.inl ⟨y,r,10,rfl,by omega,by omega,by rw [key,if_neg k,if_neg k98,if_neg k102,if_pos k110],fun r'=>by rw [key,if_neg k,if_neg k98,if_neg k102,if_pos k110]⟩)
   by_cases k114:y=114
   ·exact .inr (.inl ⟨y,r,13,rfl,by omega,by omega,by rw [key,if_neg k,if_neg k98,if_neg k102,if_neg k110,if_pos k114],fun r'=>by rw [key,if_neg k,if_neg k98,if_neg k102,if_neg k110,if_pos k114]⟩)
   by_cases k116:y=116
   ·exact .inr (.inl ⟨y,r,9,rfl,by omega,by omega,by rw [key,if_neg k,if_neg k98,if_neg k102,if_neg k110,if_neg k114,if_pos k116],fun r'=>by rw [key,if_neg k,if_neg k98,if_neg k102,if_neg k110,if_neg k114,if_pos k116]⟩)
   by_cases k117:y=117
   ·subst k117
    have key2:∀ r,nextL (92 :: 117 :: r)=fourP (lb (92 :: 117 :: r)) (92 :: 117 :: r).length:=fun r=>by rw [key,if_neg k,if_neg k98,if_neg k102,if_neg k110,if_neg k114,if_neg k116,if_pos rfl]
    by_cases hf:6≤(92 :: 117 :: r).length∧hexOk (lb (92 :: 117 :: r)) 4=true
    ·obtain ⟨a,b,c,d,r,rfl⟩:∃ a b c d q,r=a :: b :: c :: d :: q:=by
      match r,hf.1 with
      | a :: b :: c :: d :: q,_=>exact ⟨a,b,c,d,q,rfl⟩
     have hk:=hf.2
     simp only [hexOk,Bool.and_eq_true,decide_eq_true_eq,Bool.true_and] at hk
     have e2:∀ q,lb (92 :: 117 :: a :: b :: c :: d :: q) 2=a:=fun _=>rfl
     have e3:∀ q,lb (92 :: 117 :: a :: b :: c :: d :: q) 3=b:=fun _=>rfl
     have e4:∀ q,lb (92 :: 117 :: a :: b :: c :: d :: q) 4=c:=fun _=>rfl
     have e5:∀ q,lb (92 :: 117 :: a :: b :: c :: d :: q) 5=d:=fun _=>rfl
     have ev:∀ q,hexV (lb (92 :: 117 :: a :: b :: c :: d :: q)) 4=hexV (lb (92 :: 117 :: a :: b :: c :: d :: r)) 4:=fun _=>rfl
     have eo:∀ q,hexOk (lb (92 :: 117 :: a :: b :: c :: d :: q)) 4=hexOk (lb (92 :: 117 :: a :: b :: c :: d :: r)) 4:=fun _=>rfl
     have hall:∀ q,nextL (92 :: 117 :: a :: b :: c :: d :: q)=⟨6,hexV (lb (92 :: 117 :: a :: b :: c :: d :: r)) 4,true⟩:=fun q=>by
      rw [key2]
      unfold fourP
      rw [if_pos ⟨by simp,by rw [eo];exact hf.2⟩,ev]
     have hlt:=hexV_lt (lb (92 :: 117 :: a :: b :: c :: d :: r)) 4 (by decide)
     exact .inr (.inr ⟨a,b,c,d,r,_,rfl,hk.1.1.1,hk.1.1.2,hk.1.2,hk.2,by simpa using hlt,hall r,hall⟩)
    ·exact absurd (by rw [key2];unfold fourP;rw [if_neg hf];rfl) hp
   ·exact absurd (by rw [key,if_neg k,if_neg k98,if_neg k102,if_neg k110,if_neg k114,if_neg k116,if_neg k117];rfl) hp
 ·exact .inl ⟨x,r,rfl,by omega,by omega,h2,by unfold nextL nextP;rw [b0,if_neg h1,if_pos h2]⟩
def EqQ (q q':Q5):Prop:=q.left=q'.left∧(q.left≠0→q=q')
theorem stp_eq {q q' q1:Q5} {x:Nat} (h:EqQ q q') (hs:stp q x=some q1):∃ q2,stp q' x=some q2∧EqQ q1 q2:=by
 by_cases h0:q.left=0
 ·have h0':q'.left=0:=by rw [← h.1];exact h0
  unfold stp at hs ⊢
  rw [if_pos h0] at hs
  rw [if_pos h0']
  unfold begQ at hs ⊢
  by_cases k1:244<x
  ·rw [if_pos k1] at hs;cases hs
  rw [if_neg k1] at hs ⊢
  by_cases k2:240≤x
  ·rw [if_pos k2] at hs ⊢
   exact ⟨_,rfl,by cases hs;exact ⟨rfl,fun _=>rfl⟩⟩
  rw [if_neg k2] at hs ⊢
  by_cases k3:224≤x
  ·rw [if_pos k3] at hs ⊢
   exact ⟨_,rfl,by cases hs;exact ⟨rfl,fun _=>rfl⟩⟩
  rw [if_neg k3] at hs ⊢
  by_cases k4:194≤x
  ·rw [if_pos k4] at hs ⊢
   exact ⟨_,rfl,by cases hs;exact ⟨rfl,fun _=>rfl⟩⟩
  rw [if_neg k4] at hs ⊢
  by_cases k5:128≤x
  ·rw [if_pos k5] at hs;cases hs
  rw [if_neg k5] at hs ⊢
  cases hs
  exact ⟨_,rfl,h⟩
 ·have e:=h.2 h0
  subst e
  exact ⟨_,hs,rfl,fun _=>rfl⟩
theorem stp_in (a lo hi x:Nat) (ha:a≠0) (h1:lo≤x) (h2:x≤hi):stp ⟨a,lo,hi⟩ x=some ⟨a-1,128,191⟩:=by
 unfold stp
 rw [if_neg ha,if_neg (by show ¬ (x<lo∨hi<x);omega)]
theorem char_ok {q:Q5} (h0:q.left=0) {n:Nat} (hn:n<1114112) (hs:¬ (55296≤n∧n≤57343)):∃ q',runQ q (charL n)=some q'∧q'.left=0:=by
 unfold charL
 by_cases h1:n<128
 ·rw [if_pos h1]
  exact ⟨q,runQ_ascii h0 (by simp;omega),h0⟩
 rw [if_neg h1]
 by_cases h2:n<2048
 ·rw [if_pos h2]
  have s1:stp q (192+n / 64)=some ⟨1,secLo (192+n / 64),secHi (192+n / 64)⟩:=by
   unfold stp begQ
   rw [if_pos h0,if_neg (by omega),if_neg (by omega),if_neg (by omega),if_pos (by omega)]
  have l1:secLo (192+n / 64)=128:=by unfold secLo;rw [if_neg (by omega),if_neg (by omega)]
  have l2:secHi (192+n / 64)=191:=by unfold secHi;rw [if_neg (by omega),if_neg (by omega)]
  have s2:stp ⟨1,128,191⟩ (128+n % 64)=some ⟨0,128,191⟩:=stp_in 1 128 191 _ (by decide) (by omega) (by omega)
  exact ⟨⟨0,128,191⟩,by simp only [runQ,s1,l1,l2,s2],rfl⟩
 rw [if_neg h2]
 by_cases h3:n<65536
 ·rw [if_pos h3]
  have s1:stp q (224+n / 4096)=some ⟨2,secLo (224+n / 4096),secHi (224+n / 4096)⟩:=by
   unfold stp begQ
   rw [if_pos h0,if_neg (by omega),if_neg (by omega),if_pos (by omega)]
  have s2:stp ⟨2,secLo (224+n / 4096),secHi (224+n / 4096)⟩ (128+n / 64 % 64)=some ⟨1,128,191⟩:=by
   have l1:secLo (224+n / 4096)≤128+n / 64 % 64:=by unfold secLo;split <;> (try split) <;> omega
   have l2:128+n / 64 % 64≤secHi (224+n / 4096):=by unfold secHi;split <;> (try split) <;> omega
   exact stp_in _ _ _ _ (by decide) l1 l2
  have s3:stp ⟨1,128,191⟩ (128+n % 64)=some ⟨0,128,191⟩:=stp_in 1 128 191 _ (by decide) (by omega) (by omega)
  exact ⟨⟨0,128,191⟩,by simp only [runQ,s1,s2,s3],rfl⟩
 ·rw [if_neg h3]
  have s1:stp q (240+n / 262144)=some ⟨3,secLo (240+n / 262144),secHi (240+n / 262144)⟩:=by
   unfold stp begQ
   rw [if_pos h0,if_neg (by omega),if_pos (by omega)]
  have s2:stp ⟨3,secLo (240+n / 262144),secHi (240+n / 262144)⟩ (128+n / 4096 % 64)=some ⟨2,128,191⟩:=by
   have l1:secLo (240+n / 262144)≤128+n / 4096 % 64:=by unfold secLo;split <;> (try split) <;> omega
   have l2:128+n / 4096 % 64≤secHi (240+n / 262144):=by unfold secHi;split <;> (try split) <;> omega
   exact stp_in _ _ _ _ (by decide) l1 l2
  have s3:stp ⟨2,128,191⟩ (128+n / 64 % 64)=some ⟨1,128,191⟩:=stp_in 2 128 191 _ (by decide) (by omega) (by omega)
  have s4:stp ⟨1,128,191⟩ (128+n % 64)=some ⟨0,128,191⟩:=stp_in 1 128 191 _ (by decide) (by omega) (by omega)
  exact ⟨⟨0,128,191⟩,by simp only [runQ,s1,s2,s3,s4],rfl⟩
theorem runQ_split {q q':Q5} {a b:List Nat} (h:runQ q (a++b)=some q'):∃ qm,runQ q a=some qm∧runQ qm b=some q':=by
 rw [runQ_append] at h
 cases ha:runQ q a with
 | none=>rw [ha] at h;cases h
 | some qm=>rw [ha] at h;exact ⟨qm,rfl,h⟩
theorem runQ_low {q q':Q5} (h:LoOk q) {l:List Nat} (hl:l≠[]) (hb:∀ x ∈ l,x<128) (hr:runQ q l=some q'):q.left=0∧q'=q:=by
 obtain ⟨x,r,rfl⟩:=List.exists_cons_of_ne_nil hl
 simp only [runQ] at hr
 cases hs:stp q x with
 | none=>rw [hs] at hr;cases hr
 | some q1 =>
  rw [hs] at hr
  obtain ⟨h0,rfl⟩:=stp_low h (hb x (by simp)) hs
  have h2:runQ q1 r=some q1:=runQ_ascii h0 (fun y hy=>hb y (by simp [hy]))
  have hr':runQ q1 r=some q':=hr
  rw [h2] at hr'
  exact ⟨h0,(Option.some.inj hr').symm⟩
theorem runQ_loOk {q q':Q5} (h:LoOk q) {l:List Nat} (hr:runQ q l=some q'):LoOk q':=by
 induction l generalizing q with
 | nil=>simp only [runQ,Option.some.injEq] at hr;subst hr;exact h
 | cons x l ih =>
  simp only [runQ] at hr
  cases hs:stp q x with
  | none=>rw [hs] at hr;cases hr
  | some q1=>rw [hs] at hr;exact ih (stp_ok h hs) hr
theorem step_cases {l o:List Nat} {k:Nat} (hl:l≠[]) (hs:stepL l=some (k,o)) :
  (∃ x r,l=x :: r∧k=1∧o=[x]∧32≤x∧x≠34∧x≠92)∨(∃ n,o=charL n∧n<1114112∧¬ (55296≤n∧n≤57343)∧k≤l.length∧l.take k≠[]∧(∀ x ∈ l.take k,x<128)):=by
 have hp:(nextL l).size≠0:=fun e=>by unfold stepL at hs;rw [if_pos e] at hs;cases hs
 rcases next_cases hl hp with ⟨x,r,rfl,h1,h2,h3,h4⟩ | ⟨y,r,m,rfl,h1,h2,h4,-⟩ | ⟨a,b,c,d,r,m,rfl,h1,h2,h3,h5,h6,h4,-⟩
 ·left
  unfold stepL at hs
  rw [h4] at hs
  simp [highP,lowP] at hs
  exact ⟨x,r,rfl,hs.1.symm,hs.2.symm,h1,h2,h3⟩
 ·right
  unfold stepL at hs
  rw [h4] at hs
  simp [highP,lowP] at hs
  obtain ⟨rfl,rfl⟩:=hs
  exact ⟨m,by unfold charL;rw [if_pos h2],by omega,by omega,by simp,by simp,by simp;omega⟩
 ·right
  have a1:=(hexZ_ascii h1).1
  have a2:=(hexZ_ascii h2).1
  have a3:=(hexZ_ascii h3).1
  have a4:=(hexZ_ascii h5).1
  have six:∀ x ∈ (92 :: 117 :: a :: b :: c :: d :: r).take 6,x<128:=by simp;omega
  unfold stepL at hs
  rw [h4] at hs
  dsimp only at hs
  rw [if_neg (by decide)] at hs
  by_cases hpair:highP ⟨6,m,true⟩=true∧6<(92 :: 117 :: a :: b :: c :: d :: r).length∧lowP (nextL ((92 :: 117 :: a :: b :: c :: d :: r).drop 6))=true
  ·rw [if_pos hpair] at hs
   obtain ⟨p1,p2,p3⟩:=hpair
   have hd:(92 :: 117 :: a :: b :: c :: d :: r).drop 6=r:=rfl
   rw [hd] at p3 hs
   have hrne:r≠[]:=fun e=>by subst e;simp at p2
   have p4:=p3
   unfold highP at p1
   unfold lowP at p4
   simp only [Bool.and_eq_true,decide_eq_true_eq] at p1 p4
   have hq6:(nextL r).size=6:=nextP_four _ _ p4.1
   rcases next_cases hrne (by rw [hq6];decide) with ⟨x,r',rfl,g1,g2,g3,g4⟩ | ⟨y,r',m',rfl,g1,g2,g4,-⟩ | ⟨a',b',c',d',r',m',rfl,g1,g2,g3,g5,g6,g4,-⟩
   ·rw [g4] at hq6;cases hq6
   ·rw [g4] at hq6;cases hq6
   ·rw [g4] at hs p4
    simp only [Option.some.injEq,Prod.mk.injEq] at hs
    obtain ⟨rfl,rfl⟩:=hs
    have b1:=(hexZ_ascii g1).1
    have b2:=(hexZ_ascii g2).1
    have b3:=(hexZ_ascii g3).1
    have b4:=(hexZ_ascii g5).1
    have p5:=p4.2.1
    have p6:=p4.2.2
    simp only at p5 p6
    exact ⟨_,rfl,by omega,by omega,by simp,by simp,by simp;omega⟩
  ·rw [if_neg hpair] at hs
   by_cases hh:highP ⟨6,m,true⟩=true∨lowP ⟨6,m,true⟩=true
   ·rw [if_pos hh] at hs
    simp only [Option.some.injEq,Prod.mk.injEq] at hs
    obtain ⟨rfl,rfl⟩:=hs
    exact ⟨65533,rfl,by decide,by decide,by simp,by simp,six⟩
   ·rw [if_neg hh,if_pos rfl] at hs
    simp only [Option.some.injEq,Prod.mk.injEq] at hs
    obtain ⟨rfl,rfl⟩:=hs
    have hh1:¬ (55296≤m∧m≤56319):=fun h=>hh (.inl (by simp [highP,h.1,h.2]))
    have hh2:¬ (56320≤m∧m≤57343):=fun h=>hh (.inr (by simp [lowP,h.1,h.2]))
    exact ⟨m,rfl,by omega,by omega,by simp,by simp,six⟩
theorem unesc_utf8:∀ (n:Nat) (l:List Nat),l.length≤n→(∀ x ∈ l,x<256)→∀ (o:List Nat),unescL l=some o→∀ (q q1 qe:Q5),LoOk q→EqQ q q1→runQ q l=some qe→∃ qo,runQ q1 o=some qo∧EqQ qe qo:=by
 intro n
 induction n with
 | zero =>
  intro l hn hb o ho q q1 qe hq he hr
  have e:l=[]:=List.eq_nil_of_length_eq_zero (by omega)
  subst e
  rw [unescL_nil] at ho
  cases ho
  simp only [runQ,Option.some.injEq] at hr
  subst hr
  exact ⟨q1,rfl,he⟩
 | succ n ih =>
  intro l hn hb o ho q q1 qe hq he hr
  by_cases hl:l=[]
  ·subst hl
   rw [unescL_nil] at ho
   cases ho
   simp only [runQ,Option.some.injEq] at hr
   subst hr
   exact ⟨q1,rfl,he⟩
  ·cases hs:stepL l with
   | none=>rw [unescL_none hl hs] at ho;cases ho
   | some p =>
    obtain ⟨k,o1⟩:=p
    obtain ⟨k1,k2,k3,k4⟩:=stepL_some hl hb hs
    rw [unescL_some hl hb hs] at ho
    cases ho2:unescL (l.drop k) with
    | none=>rw [ho2] at ho;cases ho
    | some o2 =>
     rw [ho2] at ho
     simp only [Option.map_some,Option.some.injEq] at ho
     subst ho
     have hb2:∀ x ∈ l.drop k,x<256:=fun x hx=>hb x (List.mem_of_mem_drop hx)
     rw [← List.take_append_drop k l] at hr
     obtain ⟨qm,r1,r2⟩:=runQ_split hr
     have hqm:=runQ_loOk hq r1
     have hmid:∃ qn,runQ q1 o1=some qn∧EqQ qm qn:=by
      rcases step_cases hl hs with ⟨x,r,rfl,rfl,rfl,-⟩ | ⟨m,rfl,c1,c2,c3,c4,c5⟩
      ·simp only [List.take_succ_cons,List.take_zero,runQ] at r1
       cases hx:stp q x with
       | none=>rw [hx] at r1;cases r1
       | some q2 =>
        rw [hx] at r1
        simp only [Option.some.injEq] at r1
        subst r1
        obtain ⟨q3,e1,e2⟩:=stp_eq he hx
        exact ⟨q3,by simp only [runQ,e1],e2⟩
      ·obtain ⟨h0,rfl⟩:=runQ_low hq c4 c5 r1
       obtain ⟨q3,e1,e2⟩:=char_ok (q:=q1) (by rw [← he.1];exact h0) c1 c2
       exact ⟨q3,e1,by rw [h0,e2],fun h=>absurd h0 h⟩
     obtain ⟨qn,m1,m2⟩:=hmid
     obtain ⟨qo,e1,e2⟩:=ih (l.drop k) (by rw [List.length_drop];omega) hb2 o2 ho2 qm qn qe hqm m2 r2
     exact ⟨qo,by rw [runQ_append,m1];exact e1,e2⟩
theorem unesc_ok {l o:List Nat} (hb:∀ x ∈ l,x<256) (hu:okU l) (ho:unescL l=some o):okU o:=by
 obtain ⟨q,h1,h2⟩:=hu
 obtain ⟨qo,e1,e2⟩:=unesc_utf8 l.length l (Nat.le_refl _) hb o ho q50 q50 q loOk_q50 ⟨rfl,fun _=>rfl⟩ h1
 exact ⟨qo,e1,by rw [← e2.1];exact h2⟩
def esL (e:Bool):List Nat→Bool
 | []=>e
 | x :: l=>esL (decide (x=92) && !e) l
def noQ (e:Bool):List Nat→Prop
 | []=>True
 | x :: l=>¬ (x=34∧e=false)∧noQ (decide (x=92) && !e) l
theorem esL_append (e:Bool) (a b:List Nat):esL e (a++b)=esL (esL e a) b:=by
 induction a generalizing e with
 | nil=>rfl
 | cons x a ih=>exact ih _
theorem noQ_append (e:Bool) (a b:List Nat):noQ e (a++b) ↔ noQ e a∧noQ (esL e a) b:=by
 induction a generalizing e with
 | nil=>simp [noQ,esL]
 | cons x a ih =>
  show (¬ _∧noQ _ (a++b)) ↔ (¬ _∧noQ _ a)∧noQ (esL _ a) b
  rw [ih]
  exact and_assoc.symm
theorem noQ_at {e:Bool} {l:List Nat} (h:noQ e l) {i x:Nat} (hi:l[i]? = some x):¬ (x=34∧esL e (l.take i)=false):=by
 induction l generalizing e i with
 | nil=>simp at hi
 | cons y l ih =>
  cases i with
  | zero =>
   simp at hi
   subst hi
   exact h.1
  | succ i =>
   simp at hi
   exact ih h.2 hi
theorem step_quoteJ {l o:List Nat} {k:Nat} (hl:l≠[]) (hb:∀ x ∈ l,x<256) (hs:stepL l=some (k,o)):noQ false (l.take k)∧esL false (l.take k)=false:=by
 have hp:(nextL l).size≠0:=fun e=>by unfold stepL at hs;rw [if_pos e] at hs;cases hs
 have six:∀ (a b c d:Nat) (r:List Nat),0≤hexZ a→0≤hexZ b→0≤hexZ c→0≤hexZ d→noQ false ((92 :: 117 :: a :: b :: c :: d :: r).take 6)∧esL false ((92 :: 117 :: a :: b :: c :: d :: r).take 6)=false:=by
  intro a b c d r h1 h2 h3 h4
  have a1:=hexZ_ascii h1
  have a2:=hexZ_ascii h2
  have a3:=hexZ_ascii h3
  have a4:=hexZ_ascii h4
  simp [noQ,esL,a1.2.1,a1.2.2,a2.2.1,a2.2.2,a3.2.1,a3.2.2,a4.2.1,a4.2.2]
 rcases next_cases hl hp with ⟨x,r,rfl,h1,h2,h3,h4⟩ | ⟨y,r,m,rfl,h1,h2,h4,-⟩ | ⟨a,b,c,d,r,m,rfl,h1,h2,h3,h5,h6,h4,-⟩
 ·unfold stepL at hs
  rw [h4] at hs
  simp [highP,lowP] at hs
  rw [← hs.1]
  simp [noQ,esL,h2,h3]
 ·unfold stepL at hs
  rw [h4] at hs
  simp [highP,lowP] at hs
  rw [← hs.1]
  simp [noQ,esL]
 ·unfold stepL at hs
  rw [h4] at hs
  dsimp only at hs
  rw [if_neg (by decide)] at hs
  by_cases hpair:highP ⟨6,m,true⟩=true∧6<(92 :: 117 :: a :: b :: c :: d :: r).length∧lowP (nextL ((92 :: 117 :: a :: b :: c :: d :: r).drop 6))=true
  ·rw [if_pos hpair] at hs
   obtain ⟨p1,p2,p3⟩:=hpair
   have hd:(92 :: 117 :: a :: b :: c :: d :: r).drop 6=r:=rfl
   rw [hd] at p3 hs
   have hrne:r≠[]:=fun e=>by subst e;simp at p2
   unfold lowP at p3
   simp only [Bool.and_eq_true] at p3
   have hq6:(nextL r).size=6:=nextP_four _ _ p3.1
   rw [hq6] at hs
   rcases next_cases hrne (by rw [hq6];decide) with ⟨x,r',rfl,g1,g2,g3,g4⟩ | ⟨y,r',m',rfl,g1,g2,g4,-⟩ | ⟨a',b',c',d',r',m',rfl,g1,g2,g3,g5,g6,g4,-⟩
   ·rw [g4] at hq6;cases hq6
   ·rw [g4] at hq6;cases hq6
   ·simp only [Option.some.injEq,Prod.mk.injEq] at hs
    rw [← hs.1]
    obtain ⟨u1,u2⟩:=six a b c d [] h1 h2 h3 h5
    obtain ⟨v1,v2⟩:=six a' b' c' d' [] g1 g2 g3 g5
    have e:(92 :: 117 :: a :: b :: c :: d :: 92 :: 117 :: a' :: b' :: c' :: d' :: r').take (6+6)=[92,117,a,b,c,d]++[92,117,a',b',c',d']:=rfl
    rw [e,noQ_append,esL_append]
    rw [show ([92,117,a,b,c,d]:List Nat)=((92 :: 117 :: a :: b :: c :: d :: []).take 6) from rfl,u2]
    exact ⟨⟨u1,v1⟩,v2⟩
  ·rw [if_neg hpair] at hs
   have hk:k=6:=by
    split at hs
    ·simp only [Option.some.injEq,Prod.mk.injEq] at hs;exact hs.1.symm
    ·split at hs <;> (simp only [Option.some.injEq,Prod.mk.injEq] at hs;exact hs.1.symm)
   subst hk
   exact six a b c d r h1 h2 h3 h5
theorem unesc_quote:∀ (n:Nat) (l:List Nat),l.length≤n→(∀ x ∈ l,x<256)→∀ (o:List Nat),unescL l=some o→noQ false l∧esL false l=false:=by
 intro n
 induction n with
 | zero =>
  intro l hn _ o _
  have e:l=[]:=List.eq_nil_of_length_eq_zero (by omega)
  subst e
  exact ⟨trivial,rfl⟩
 | succ n ih =>
  intro l hn hb o ho
  by_cases hl:l=[]
  ·subst hl
   exact ⟨trivial,rfl⟩
  ·cases hs:stepL l with
   | none=>rw [unescL_none hl hs] at ho;cases ho
   | some p =>
    obtain ⟨k,o1⟩:=p
    obtain ⟨k1,k2,k3,k4⟩:=stepL_some hl hb hs
    rw [unescL_some hl hb hs] at ho
    cases ho2:unescL (l.drop k) with
    | none=>rw [ho2] at ho;cases ho
    | some o2 =>
     have hb2:∀ x ∈ l.drop k,x<256:=fun x hx=>hb x (List.mem_of_mem_drop hx)
     obtain ⟨u1,u2⟩:=step_quoteJ hl hb hs
     obtain ⟨v1,v2⟩:=ih (l.drop k) (by rw [List.length_drop];omega) hb2 o2 ho2
     rw [← List.take_append_drop k l,noQ_append,esL_append,u2]
     exact ⟨⟨u1,v1⟩,v2⟩
end Go.Proofs.YtongedjlmohogaaGreatDoor

namespace Go.Proofs.YtongedjlmohogaaGreatDoor
open Go.RowKit Go.Shelf
theorem bAt_get (t:ByteArray) (i:Nat) (h:i<t.size):(byts t)[i]? = some (bAt t i):=by
 rw [bAt_lb]
 unfold lb
 rw [List.getD_eq_getElem?_getD]
 have:i<(byts t).length:=by rw [byts_length];exact h
 rw [List.getElem?_eq_getElem this]
 rfl
theorem slash_b (t:ByteArray) (i:Nat):slash t i=decide (bAt t i=92):=rfl
theorem esc_esL (t:ByteArray):∀ i,i≤t.size→escG (slash t) false i=esL false ((byts t).take i):=by
 intro i
 induction i with
 | zero=>intro _;rfl
 | succ i ih =>
  intro h
  rw [escG_succ,ih (by omega),List.take_add_one,bAt_get t i (by omega),esL_append,slash_b]
  rfl
theorem end_right {t:ByteArray} {a b:List Nat} {o:List Nat} (ht:byts t=a++34 :: b) (ha:∀ x ∈ a,x<256) (ho:unescL a=some o):IsEnd t 0 (a.length:Nat) 0:=by
 obtain ⟨h1,h2⟩:=unesc_quote a.length a (Nat.le_refl _) ha o ho
 have hsz:t.size=a.length+(b.length+1):=by rw [← byts_length,ht];simp
 have hex:t.extract 0 t.size=t:=by
  apply byts_inj
  rw [(byts_from t 0).1,List.drop_zero]
 have hat:∀ j,j<t.size→(byts t)[j]? = some (bAt t j):=fun j hj=>bAt_get t j hj
 refine .inr ⟨0,rfl,Nat.zero_le _,.inl ⟨a.length,by omega,?_,?_,?_,by simp,rfl⟩⟩
 ·have h:=hat a.length (by omega)
  rw [ht,List.getElem?_append_right (Nat.le_refl _),Nat.sub_self] at h
  rw [Nat.zero_add]
  exact (Option.some.inj h).symm
 ·rw [hex,esc_esL t _ (by omega),ht,List.take_left]
  exact h2
 ·intro j hj
  rw [hex,esc_esL t _ (by omega),Nat.zero_add]
  have h:=hat j (by omega)
  have e:(byts t).take j=a.take j:=by
   rw [ht,List.take_append_of_le_length (by omega)]
  rw [e]
  refine noQ_at h1 ?_
  rw [← h,ht,List.getElem?_append_left hj]
theorem bad_ok {s:ByteArray} (h:¬ 0≤badOf s):okU (byts s):=by
 rw [← bad_iff]
 rcases bad_neg (byts s) with h1 | h1
 ·exact h1
 ·exact absurd h1 h
theorem ok_bad {s:ByteArray} (h:okU (byts s)):badOf s = -1:=(bad_iff _).2 h
end Go.Proofs.YtongedjlmohogaaGreatDoor

/-
  The rules by which a slot is written, as one; what lies below, by looking.
-/
namespace Go.Proofs.YtongedjlmohogaaGreatDoor
open Go.RowKit Go.Shelf

theorem psA : (∀ (a : Act) (p : Tmp) (v : Value), a.put (some p) v = { a with tmps := a.tmps.setIfInBounds p v }) ∧ (∀ (a : Act) (v : Value), a.put none v = a) ∧
    (∀ (l : List Oper) (i : Nat) (h : i < l.toArray.size), l.toArray[i] = l[i]'(by simpa using h)) ∧ (∀ (x : Oper) (l : List Oper) (h : 0 < (x :: l).length), (x :: l)[0] = x) ∧
    (∀ (x : Oper) (l : List Oper) (i : Nat) (h : i + 1 < (x :: l).length), (x :: l)[i + 1] = l[i]'(by simpa using h)) ∧
    (∀ (l : List Value) (i : Nat) (v : Value), l.toArray.setIfInBounds i v = (l.set i v).toArray) ∧ (∀ (x : Value) (l : List Value) (v : Value), (x :: l).set 0 v = v :: l) ∧
    (∀ (x : Value) (l : List Value) (i : Nat) (v : Value), (x :: l).set (i + 1) v = x :: l.set i v) :=
  ⟨fun _ _ _ => rfl, fun _ _ => rfl, fun _ _ _ => by simp, fun _ _ _ => rfl, fun _ _ _ _ => rfl, fun _ _ _ => by simp, fun _ _ _ => rfl, fun _ _ _ _ => rfl⟩
theorem bw {b : Nat} {w w' : World} (h : Below b w w' := by repeat (first | with_reducible exact Below.refl _ _ | with_reducible refine Below.setCell ?_ (by first | (simp; done) | (simp; omega)) _ | with_reducible refine below_drewN ?_ _ | with_reducible refine Below.alloc ?_ (by first | (simp; done) | (simp; omega)) _ | with_reducible refine Below.drew ?_)) : Below b w w' := h
end Go.Proofs.YtongedjlmohogaaGreatDoor

/- Values as trees,and how they lie in memory;a value that comes in. -/
namespace Go.Proofs.YtongedjlmohogaaGreatDoor
open Go.ChangeShapes Go.WideShapes Go.ChangeAt Go.RowKit
set_option maxRecDepth 100000
inductive Vt where
 | mk (kind:Int) (b:Bool) (raw text:ByteArray) (keys:List ByteArray) (kids:List Vt)
def Vt.kind:Vt→Int | .mk k _ _ _ _ _=>k
def Vt.b:Vt→Bool | .mk _ b _ _ _ _=>b
def Vt.raw:Vt→ByteArray | .mk _ _ r _ _ _=>r
def Vt.text:Vt→ByteArray | .mk _ _ _ t _ _=>t
def Vt.keys:Vt→List ByteArray | .mk _ _ _ _ ks _=>ks
def Vt.kids:Vt→List Vt | .mk _ _ _ _ _ vs=>vs
def capT:Nat:=140737488351232
def KeysAt (w:World) (ao:Option Addr) (ks:List ByteArray):Prop:=∀ (i:Nat) (s:ByteArray),ks[i]? = some s→s.size≤capT∧∃ b off,ao=some ⟨b,off,none⟩∧b<w.heap.size∧w.cell? ⟨b,off+i,none⟩=some (.string s)
def RowAt (w:World) (ao:Option Addr) (n:Nat) (X:Nat→Array Value):Prop:=∀ i,i<n→(X i).size=6∧∃ b off,ao=some ⟨b,off,none⟩∧b<w.heap.size∧∀ j,j<6→w.cell? ⟨b,off+i*6+j,none⟩=(X i)[j]?
inductive ValAt (w:World):Vt→Value→Prop
 | mk (k:Int) (b:Bool) (r t:ByteArray) (ks:List ByteArray) (vs:List Vt) (ko:Option Addr) (kc:Nat) (vo:Option Addr) (vc:Nat) (X:Nat→Array Value)
   (hw:(Lit.int .i64 k).wf=true) (hz:r.size≤capT∧t.size≤capT∧ks.length≤capT∧vs.length≤capT) (hk:KeysAt w ko ks) (hr:RowAt w vo vs.length X) (hv:∀ (i:Nat) (u:Vt),vs[i]? = some u→ValAt w u (.agg (X i))) :
   ValAt w (.mk k b r t ks vs) (.agg #[.int .i64 k,.bool b,.string r,.string t,.slice ko ks.length kc,.slice vo vs.length vc])
theorem KeysAt.kept {w w':World} {ao:Option Addr} {ks:List ByteArray} (h:KeysAt w ao ks) (hb:Below w.heap.size w w'):KeysAt w' ao ks:=fun i s hi=>by
 obtain ⟨h0,b,off,h1,h2,h3⟩:=h i s hi
 exact ⟨h0,b,off,h1,Nat.lt_of_lt_of_le h2 hb.size,(hb.cell (p:=⟨b,off+i,none⟩) h2).trans h3⟩
theorem RowAt.kept {w w':World} {ao:Option Addr} {n:Nat} {X:Nat→Array Value} (h:RowAt w ao n X) (hb:Below w.heap.size w w'):RowAt w' ao n X:=fun i hi=>by
 obtain ⟨h0,b,off,h1,h2,h3⟩:=h i hi
 exact ⟨h0,b,off,h1,Nat.lt_of_lt_of_le h2 hb.size,fun j hj=>(hb.cell (p:=⟨b,off+i*6+j,none⟩) h2).trans (h3 j hj)⟩
theorem ValAt.kept {w w':World} {t:Vt} {v:Value} (h:ValAt w t v) (hb:Below w.heap.size w w'):ValAt w' t v:=by
 induction h with
 | mk k b r t ks vs ko kc vo vc X hw hz hk hr hv ih=>exact .mk k b r t ks vs ko kc vo vc X hw hz (hk.kept hb) (hr.kept hb) ih
section
variable {H:Type} {enc:TypeId × Value→H} {w:World} {base:Nat} {spare:Nat→Bool} {held:Bool}
theorem cell_ltT {w:World} {a:Addr} {v:Value} (h:w.cell? a=some v):a.block<w.heap.size:=by
 unfold World.cell? at h
 cases ho:w.heap[a.block]? with
 | none=>simp [ho] at h
 | some o=>exact (Array.getElem?_eq_some_iff.1 ho).1
end
end Go.Proofs.YtongedjlmohogaaGreatDoor
/- quarryref00.SameTexts and SameValue: whether two lists of texts,two values,are the same. -/
namespace Go.Proofs.YtongedjlmohogaaGreatDoor
open Go.RowKit Go.Shelf
theorem text_beq (a b:ByteArray):(a.toList != b.toList) = !decide (a=b):=by
 by_cases h:a=b
 ·subst h;simp
 ·rw [decide_eq_false h]
  have:(a.toList == b.toList)=false:=by
   rw [beq_eq_false_iff_ne]
   intro e
   apply h
   apply ByteArray.ext
   have h2:a.data.toList=b.data.toList:=by rw [← Lib.toList_data,← Lib.toList_data,e]
   exact Array.toList_inj.1 h2
  simp [bne,this]
theorem kid_size {k:Int} {b:Bool} {r t:ByteArray} {ks:List ByteArray} {vs:List Vt} {i:Nat} {u:Vt} (h:vs[i]? = some u):SizeOf.sizeOf u<SizeOf.sizeOf (Vt.mk k b r t ks vs):=by
 have h1:=List.sizeOf_lt_of_mem (List.mem_of_getElem? h)
 simp only [Vt.mk.sizeOf_spec]
 omega
theorem ValAt.cells {w:World} {u:Vt} {x:Array Value} (h:ValAt w u (.agg x)):∃ ko kc vo vc,x = #[.int .i64 u.kind,.bool u.b,.string u.raw,.string u.text,.slice ko u.keys.length kc,.slice vo u.kids.length vc]:=by
 cases h with
 | mk k b r t ks vs ko kc vo vc X hw hz hk hr hv=>exact ⟨ko,kc,vo,vc,rfl⟩
end Go.Proofs.YtongedjlmohogaaGreatDoor
/- quarryref00.SameValue: whether two values are the same. -/
namespace Go.Proofs.YtongedjlmohogaaGreatDoor
open Go.RowKit Go.Shelf
theorem sizeVl:(Tryz.prog.info? 59).map (·.size)=some 6:=by kernel_rfl
theorem row_range {w:World} {vo:Option Addr} {n:Nat} {X:Nat→Array Value} (h:RowAt w vo n X) {i:Nat} (hi:i<n):∃ b off,vo=some ⟨b,off,none⟩∧b<w.heap.size∧w.rangeAt b (off+i*6) (X i).toList∧(X i).toList.length=6:=by
 obtain ⟨h0,b,off,h1,h2,h3⟩:=h i hi
 refine ⟨b,off,h1,h2,fun j v hv=>?_,by rw [Array.length_toList];exact h0⟩
 have hj:j<6:=by
  have:=(List.getElem?_eq_some_iff.1 hv).1
  rw [Array.length_toList,h0] at this
  exact this
 rw [h3 j hj]
 simpa using hv
end Go.Proofs.YtongedjlmohogaaGreatDoor
