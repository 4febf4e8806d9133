/-
  Texts of mine that others lean on, one behind the other.
-/
import Derived.Below
import Derived.Test.YtongedjlmohogaaGreatDoorRows
import Derived.WalkKit
import Derived.ProofKit
import Derived.OpenShut
import Derived.ShutString
import Derived.ChangeOld
import Derived.Laws.StructEq
import Derived.WalkSpells
import Derived.WalkLawsBesides
import Derived.BigQuiet
import Derived.Deep.QuietTactic
import Derived.Outline
import Derived.Deep.RegionHeld3
import Derived.Deep.RegionWith
import Derived.Deep.MidRow
import Derived.Deep.Quiet
import Derived.BigFrame
import Derived.RangeFuncNested
import Derived.RangeFuncBound
import Derived.RangeFuncCalls
import Derived.RangeFuncLeaves
import Derived.Shelf.Abstract
import Derived.Shelf.RegionOpen
import Derived.OwnWalkIn
import Derived.TacticsInMore
import Derived.LoopNIn
import Derived.LoopIn
import Derived.RangeFuncBox
import Derived.Maps.AppendAt
import Derived.Laws.Bits64b
import Derived.Lib.TrailingZeros
namespace Go.Proofs.YtongedjlmohogaaGreatDoor
def byts (s:ByteArray):List Nat:=s.data.toList.map UInt8.toNat
theorem byts_length (s:ByteArray):(byts s).length=s.size:=by
 unfold byts
 rw [List.length_map,Array.length_toList]
 rfl
theorem byts_append (a b:ByteArray):byts (a++b)=byts a++byts b:=by
 unfold byts
 rw [ByteArray.data_append,Array.toList_append,List.map_append]
def byt (s:ByteArray) (i:Nat):Nat:=(s.data.toList.getD i 0).toNat
theorem byts_get (s:ByteArray) (i:Nat) (h:i<s.size):(byts s)[i]? = some (byt s i):=by
 have h':i<s.data.toList.length:=by rw [Array.length_toList];exact h
 unfold byts byt
 rw [List.getElem?_map,List.getD_eq_getElem?_getD,List.getElem?_eq_getElem h']
 rfl
theorem byts_take (s:ByteArray) (i:Nat) (h:i<s.size):(byts s).take (i+1)=(byts s).take i++[byt s i]:=by
 rw [List.take_add_one,byts_get s i h]
 rfl
theorem byts_drop (s:ByteArray) (i:Nat) (h:i<s.size):(byts s).drop i=byt s i :: (byts s).drop (i+1):=by
 have h1:=byts_get s i h
 have hl:i<(byts s).length:=by rw [byts_length];exact h
 rw [List.getElem?_eq_getElem hl] at h1
 rw [List.drop_eq_getElem_cons hl]
 rw [Option.some.inj h1]
theorem byts_whole (s:ByteArray):(byts s).take s.size=byts s:=List.take_of_length_le (by rw [byts_length];exact Nat.le_refl _)
theorem byts_extract (s:ByteArray) (a b:Nat):byts (s.extract a b)=((byts s).drop a).take (b-a):=by
 unfold byts
 have e:(s.extract a b).data.toList=(s.data.toList.drop a).take (b-a):=by
  rw [ByteArray.data_extract,Array.toList_extract]
 rw [e,List.map_take,List.map_drop]
def mkS (l:List Nat):ByteArray:=⟨(l.map UInt8.ofNat).toArray⟩
theorem mkS_size (l:List Nat):(mkS l).size=l.length:=by show (l.map UInt8.ofNat).toArray.size=_;simp
theorem byts_mkS {l:List Nat} (h:∀ x ∈ l,x<256):byts (mkS l)=l:=by
 unfold byts mkS
 simp only [List.map_map]
 conv=>rhs;rw [← List.map_id l]
 apply List.map_congr_left
 intro x hx
 have:=h x hx
 simp [UInt8.toNat_ofNat']
 omega
theorem mkS_byts (s:ByteArray):mkS (byts s)=s:=by
 apply ByteArray.ext
 apply Array.toList_inj.1
 show ((byts s).map UInt8.ofNat)=s.data.toList
 unfold byts
 rw [List.map_map]
 conv=>rhs;rw [← List.map_id s.data.toList]
 apply List.map_congr_left
 intro x _
 simp
theorem byts_inj {a b:ByteArray} (h:byts a=byts b):a=b:=by rw [← mkS_byts a,← mkS_byts b,h]
end Go.Proofs.YtongedjlmohogaaGreatDoor

/- A machine that takes a text byte by byte,in numbers. -/
namespace Go.Proofs.YtongedjlmohogaaGreatDoor
structure Mc where
  op:List Nat
  st:Nat
  nm:Bool
  wd:List Nat
  lf:Nat
  lo:Nat
  hi:Nat
def mc0:Mc:=⟨[],0,false,[],0,0,0⟩
def blankN (c:Nat):Bool:=decide (c=32∨c=9∨c=10∨c=13)
def digN (c:Nat):Bool:=decide (48≤c∧c≤57)
def hexN (c:Nat):Bool:=decide ((48≤c∧c≤57)∨(97≤c∧c≤102)∨(65≤c∧c≤70))
def topN (m:Mc):Nat:=m.op.getLastD 0
def valueM (m:Mc) (c:Nat):Option Mc :=
  if c=91 then some { m with nm:=false,op:=m.op++[91],st:=1 }
  else if c=123 then some { m with nm:=false,op:=m.op++[123],st:=2 }
  else if c=34 then some { m with nm:=false,st:=6 }
  else if c=45 then some { m with nm:=false,st:=10 }
  else if c=48 then some { m with nm:=false,st:=11 }
  else if digN c=true then some { m with nm:=false,st:=12 }
  else if c=110 then some { m with nm:=false,st:=9,wd:=[117,108,108] }
  else if c=116 then some { m with nm:=false,st:=9,wd:=[114,117,101] }
  else if c=102 then some { m with nm:=false,st:=9,wd:=[97,108,115,101] }
  else none
def afterM (m:Mc) (c:Nat):Option Mc :=
  if blankN c=true then some { m with st:=5 }
  else if c=44∧topN m=91 then some { m with st:=0 }
  else if c=44∧topN m=123 then some { m with st:=3 }
  else if (c=93∧topN m=91)∨(c=125∧topN m=123) then some { m with st:=5,op:=m.op.dropLast }
  else none
def lowB (c:Nat):Nat:=if c=224 then 160 else if c=240 then 144 else 128
def highB (c:Nat):Nat:=if c=237 then 159 else if c=244 then 143 else 191
def charM (m:Mc) (c:Nat):Option Mc :=
  if 0<m.lf then (if c<m.lo∨m.hi<c then none else some { m with lf:=m.lf-1,lo:=128,hi:=191 })
  else if c=34∧m.nm=true then some { m with st:=4,lo:=128,hi:=191 }
  else if c=34 then some { m with st:=5,lo:=128,hi:=191 }
  else if c=92 then some { m with st:=7,lo:=128,hi:=191 }
  else if 32≤c∧c<128 then some { m with lo:=128,hi:=191 }
  else if 194≤c∧c<224 then some { m with lf:=1,lo:=128,hi:=191 }
  else if 224≤c∧c<240 then some { m with lf:=2,lo:=lowB c,hi:=highB c }
  else if 240≤c∧c<245 then some { m with lf:=3,lo:=lowB c,hi:=highB c }
  else none
def escM (m:Mc) (c:Nat):Option Mc :=
  if m.st=8 then (if hexN c=true then some { m with lf:=m.lf-1,st:=if m.lf=1 then 6 else 8 } else none)
  else if c=34∨c=92∨c=47∨c=98∨c=102∨c=110∨c=114∨c=116 then some { m with st:=6 }
  else if c=117 then some { m with st:=8,lf:=4 }
  else none
def numM (m:Mc) (c:Nat):Option Mc :=
  if m.st=10∧c=48 then some { m with st:=11 }
  else if m.st=10∧digN c=true then some { m with st:=12 }
  else if m.st=10 then none
  else if (m.st=12∨m.st=14∨m.st=17)∧digN c=true then some m
  else if (m.st=11∨m.st=12)∧c=46 then some { m with st:=13 }
  else if m.st=13 then (if digN c=true then some { m with st:=14 } else none)
  else if (m.st=11∨m.st=12∨m.st=14)∧(c=101∨c=69) then some { m with st:=15 }
  else if m.st=15∧(c=43∨c=45) then some { m with st:=16 }
  else if m.st=15∨m.st=16 then (if digN c=true then some { m with st:=17 } else none)
  else afterM m c
def stepM (m:Mc) (c:Nat):Option Mc :=
  if 10≤m.st then numM m c
  else if m.st=6 then charM m c
  else if m.st=7∨m.st=8 then escM m c
  else if m.st=9 then (match m.wd with
    | []=>none
    | x :: r=>if x=c then some { m with wd:=r,st:=if r=[] then 5 else 9 } else none)
  else if blankN c=true then some m
  else if m.st=5 then afterM m c
  else if m.st=4 then (if c=58 then some { m with st:=0 } else none)
  else if m.st=0 then valueM m c
  else if (m.st=1∧c=93)∨(m.st=2∧c=125) then some { m with op:=m.op.dropLast,st:=5 }
  else if m.st=1 then valueM m c
  else if c=34 then some { m with nm:=true,st:=6 } else none
def runM (m:Mc):List Nat→Nat × Mc
  | []=>(0,m)
  | x :: l=>match stepM m x with
    | none=>(0,m)
    | some m'=>((runM m' l).1+1,(runM m' l).2)
def wholeM (m:Mc):Bool:=m.op.isEmpty && decide (m.st=5∨m.st=11∨m.st=12∨m.st=14∨m.st=17)
end Go.Proofs.YtongedjlmohogaaGreatDoor
/- The machine: what holds of it at all times;and a text that is taken within brackets. -/
namespace Go.Proofs.YtongedjlmohogaaGreatDoor
structure Fit (m:Mc):Prop where
  st:m.st≤17
  lf:m.st≠6→m.st≠8→m.lf=0
  wd:∀ x ∈ m.wd,97≤x∧x≤122
  s1:m.st=1→topN m=91
  s2:m.st=2∨m.st=3∨m.st=4→topN m=123
  s6:(m.st=6∨m.st=7∨m.st=8)→m.nm=true→topN m=123
theorem fit0:Fit mc0:=⟨by decide,fun _ _=>rfl,(by simp [mc0]),(by simp [mc0]),(by simp [mc0]),(by simp [mc0])⟩
theorem value_fit {m m':Mc} {c:Nat} (f:Fit m) (h0:m.lf=0) (h:valueM m c=some m'):Fit m':=by
  unfold valueM at h
  repeat' split at h
  all_goals first
    | (cases h;done)
    | (injection h with h;subst h
       refine ⟨by simp,by simp [h0],?_,?_,?_,?_⟩ <;> first
        | (intro x hx;exact f.wd x hx)
        | (simp [topN];done)
        | (simp;done))
theorem after_fit {m m':Mc} {c:Nat} (f:Fit m) (h0:m.lf=0) (h:afterM m c=some m'):Fit m':=by
  unfold afterM at h
  repeat' split at h
  all_goals first
    | (cases h;done)
    | (injection h with h;subst h
       refine ⟨by simp,by simp [h0],fun x hx=>f.wd x hx,by simp,?_,by simp⟩ <;> first
        | (simp;done)
        | (rename_i hc;intro _;exact hc.2))
theorem char_fit {m m':Mc} {c:Nat} (f:Fit m) (hs:m.st=6) (h:charM m c=some m'):Fit m':=by
  unfold charM at h
  have hn:=f.s6 (Or.inl hs)
  repeat' split at h
  all_goals first
    | (cases h;done)
    | (injection h with h;subst h
       refine ⟨by simp [hs],?_,fun x hx=>f.wd x hx,by simp [hs],?_,?_⟩ <;> first
        | (simp [hs];done)
        | (intro _ _;simp at *;omega)
        | (intro _ hh;exact hn hh)
        | (intro _;exact hn (by simp_all)))
theorem esc_fit {m m':Mc} {c:Nat} (f:Fit m) (hs:m.st=7∨m.st=8) (h:escM m c=some m'):Fit m':=by
  unfold escM at h
  have hn:=f.s6 (Or.inr hs)
  have h7:m.st=7→m.lf=0:=fun h=>f.lf (by omega) (by omega)
  repeat' split at h
  all_goals first
    | (cases h;done)
    | (injection h with h;subst h
       refine ⟨?_,?_,fun x hx=>f.wd x hx,?_,?_,?_⟩ <;> first
        | (intro _ hh;exact hn hh)
        | (simp;done)
        | (simp;split <;> simp;done)
        | (simp;split <;> omega))
theorem num_fit {m m':Mc} {c:Nat} (f:Fit m) (hs:10≤m.st) (h:numM m c=some m'):Fit m':=by
  unfold numM at h
  have h0:m.lf=0:=f.lf (by omega) (by omega)
  repeat' split at h
  all_goals first
    | (cases h;done)
    | (exact after_fit f h0 h)
    | (injection h with h;subst h;exact f)
    | (injection h with h;subst h
       exact ⟨by simp,by simp [h0],fun x hx=>f.wd x hx,by simp,by simp,by simp⟩)
theorem step_fit {m m':Mc} {c:Nat} (f:Fit m) (h:stepM m c=some m'):Fit m':=by
  unfold stepM at h
  split at h
  · exact num_fit f (by assumption) h
  split at h
  · exact char_fit f (by assumption) h
  split at h
  · exact esc_fit f (by assumption) h
  have h0:m.lf=0:=f.lf (by omega) (by omega)
  split at h
  · split at h
    · exact absurd h (by simp)
    · rename_i x r hw
      split at h
      · injection h with h;subst h
        refine ⟨?_,by simp [h0],fun y hy=>f.wd y (by rw [hw];exact List.mem_cons_of_mem _ hy),?_,?_,?_⟩ <;> (simp;split <;> simp)
      · exact absurd h (by simp)
  split at h
  · injection h with h;subst h;exact f
  split at h
  · exact after_fit f h0 h
  split at h
  · split at h
    · injection h with h;subst h
      exact ⟨by simp,by simp [h0],fun x hx=>f.wd x hx,by simp,by simp,by simp⟩
    · exact absurd h (by simp)
  split at h
  · exact value_fit f h0 h
  split at h
  · injection h with h;subst h
    exact ⟨by simp,by simp [h0],fun x hx=>f.wd x hx,by simp,by simp,by simp⟩
  split at h
  · exact value_fit f h0 h
  split at h
  · injection h with h;subst h
    have hst:=f.st
    refine ⟨by simp,by simp [h0],fun x hx=>f.wd x hx,by simp,by simp,fun _ _=>?_⟩
    exact f.s2 (by omega)
  · exact absurd h (by simp)
def takeM (m:Mc):List Nat→Option Mc
  | []=>some m
  | x :: l=>match stepM m x with
    | none=>none
    | some m'=>takeM m' l
theorem takeM_cons {m m1:Mc} {x:Nat} {l:List Nat} (h:stepM m x=some m1):takeM m (x :: l)=takeM m1 l:=by
  simp [takeM,h]
theorem takeM_app (m:Mc) (a b:List Nat):takeM m (a++b)=(takeM m a).bind (fun k=>takeM k b):=by
  induction a generalizing m with
  | nil=>rfl
  | cons x a ih =>
    simp only [List.cons_append,takeM]
    cases stepM m x with
    | none=>rfl
    | some k=>exact ih k
theorem take_fit {m m':Mc} {l:List Nat} (f:Fit m) (h:takeM m l=some m'):Fit m':=by
  induction l generalizing m with
  | nil=>simp [takeM] at h;subst h;exact f
  | cons x l ih =>
    simp only [takeM] at h
    cases hs:stepM m x with
    | none=>rw [hs] at h;exact absurd h (by simp)
    | some k=>rw [hs] at h;exact ih (step_fit f hs) h
theorem run_take (m:Mc) (l:List Nat):((runM m l).1=l.length ↔ (takeM m l).isSome=true)∧(∀ m',takeM m l=some m'→(runM m l).2=m')∧(runM m l).1≤l.length:=by
  induction l generalizing m with
  | nil=>simp [runM,takeM]
  | cons x l ih =>
    simp only [runM,takeM]
    cases hs:stepM m x with
    | none=>simp
    | some k =>
      have:=ih k
      simp only [List.length_cons]
      refine ⟨?_,this.2.1,by omega⟩
      rw [← this.1];omega
def docM (l:List Nat):Prop:=∃ m,takeM mc0 l=some m∧wholeM m=true
end Go.Proofs.YtongedjlmohogaaGreatDoor
/- The machine within brackets takes what the machine alone takes. -/
namespace Go.Proofs.YtongedjlmohogaaGreatDoor
theorem op_ne {m:Mc} (h:topN m≠0):m.op≠[]:=by
  intro e;exact h (by simp [topN,e])
end Go.Proofs.YtongedjlmohogaaGreatDoor
/- Documents with blanks and brackets around them. -/
namespace Go.Proofs.YtongedjlmohogaaGreatDoor
theorem whole_of {m:Mc} (h:m.op=[]) (hs:m.st=5∨m.st=11∨m.st=12∨m.st=14∨m.st=17):wholeM m=true:=by
  simp [wholeM,h,hs]
theorem step_behind {m : Mc} {c : Nat} (hs : m.st = 5 ∨ m.st = 11 ∨ m.st = 12 ∨ m.st = 14 ∨ m.st = 17)
    (hd:digN c=false) (h1:c≠46) (h2:c≠101) (h3:c≠69):stepM m c=afterM m c:=by
  have hb:¬ (digN c=true):=by simp [hd]
  unfold stepM
  by_cases h10:10≤m.st
  · rw [if_pos h10]
    unfold numM
    rw [if_neg (by omega),if_neg (by omega),if_neg (by omega),if_neg (fun h=>hb h.2),if_neg (by omega),if_neg (by omega),if_neg (by omega),if_neg (by omega),if_neg (by omega)]
  · rw [if_neg h10,if_neg (by omega),if_neg (by omega),if_neg (by omega)]
    by_cases h5:blankN c=true
    · rw [if_pos h5]
      unfold afterM
      rw [if_pos h5]
      have:m.st=5:=by omega
      rw [← this]
    · rw [if_neg h5,if_pos (by omega)]
def mostM (m:Mc):List Nat→Nat
  | []=>m.op.length
  | x :: l=>match stepM m x with
    | none=>m.op.length
    | some k=>max m.op.length (mostM k l)
theorem most_cons {m k:Mc} {x:Nat} {l:List Nat} (h:stepM m x=some k):mostM m (x :: l)=max m.op.length (mostM k l):=by
  simp [mostM,h]
theorem shut {k : Mc} {a c : Nat} (ho : k.op = [a]) (hs : k.st = 5 ∨ k.st = 11 ∨ k.st = 12 ∨ k.st = 14 ∨ k.st = 17)
    (hc:(a=91∧c=93)∨(a=123∧c=125)):∃ q,takeM k [c]=some q∧wholeM q=true∧mostM k [c]=1:=by
  have ht:topN k=a:=by simp [topN,ho]
  have e:stepM k c=some { k with st:=5,op:=k.op.dropLast }:=by
    rw [step_behind hs (by simp only [digN,decide_eq_false_iff_not];omega) (by omega) (by omega) (by omega)]
    unfold afterM
    rw [if_neg (by simp only [blankN,decide_eq_true_eq];omega),if_neg (by omega),if_neg (by omega),if_pos (by rw [ht];omega)]
  refine ⟨_,takeM_cons e,whole_of (by simp [ho]) (Or.inl rfl),?_⟩
  rw [most_cons e]
  simp [mostM,ho]
end Go.Proofs.YtongedjlmohogaaGreatDoor
/- A beginning of a document can be brought to its end. -/
namespace Go.Proofs.YtongedjlmohogaaGreatDoor
structure Fit2 (m:Mc):Prop where
  op:∀ x ∈ m.op,x=91∨x=123
  l8:m.st=8→1≤m.lf
  l6:m.st=6→0<m.lf→m.lo≤m.hi
  w9:m.st=9→m.wd≠[]
theorem fit20:Fit2 mc0:=⟨by simp [mc0],by simp [mc0],by simp [mc0],by simp [mc0]⟩
theorem value_fit2 {m m':Mc} {c:Nat} (f:Fit2 m) (h0:m.lf=0) (h:valueM m c=some m'):Fit2 m':=by
  unfold valueM at h
  repeat' split at h
  all_goals first
    | (cases h;done)
    | (injection h with h;subst h
       refine ⟨?_,by simp,by simp [h0],by simp⟩
       intro x hx
       simp only [List.mem_append,List.mem_singleton] at hx
       rcases hx with hx | hx
       · exact f.op x hx
       · omega)
    | (injection h with h;subst h
       exact ⟨fun x hx=>f.op x hx,by simp,by simp [h0],by simp⟩)
theorem after_fit2 {m m':Mc} {c:Nat} (f:Fit2 m) (h:afterM m c=some m'):Fit2 m':=by
  unfold afterM at h
  repeat' split at h
  all_goals first
    | (cases h;done)
    | (injection h with h;subst h
       exact ⟨fun x hx=>f.op x ((List.dropLast_sublist _).mem hx),by simp,by simp,by simp⟩)
    | (injection h with h;subst h
       exact ⟨fun x hx=>f.op x hx,by simp,by simp,by simp⟩)
theorem low_high (c:Nat):lowB c≤highB c:=by
  unfold lowB highB
  repeat' split
  all_goals omega
theorem char_fit2 {m m':Mc} {c:Nat} (f:Fit2 m) (hs:m.st=6) (h:charM m c=some m'):Fit2 m':=by
  unfold charM at h
  have hb:=low_high c
  repeat' split at h
  all_goals first
    | (cases h;done)
    | (injection h with h;subst h
       refine ⟨fun x hx=>f.op x hx,by simp [hs],?_,by simp [hs]⟩
       intro _ _
       simp only
       omega)
theorem esc_fit2 {m m':Mc} {c:Nat} (f:Fit2 m) (g:Fit m) (hs:m.st=7∨m.st=8) (h:escM m c=some m'):Fit2 m':=by
  unfold escM at h
  have h7:m.st=7→m.lf=0:=fun h=>g.lf (by omega) (by omega)
  have h8:=f.l8
  by_cases e:m.st=8
  · rw [if_pos e] at h
    by_cases e2:hexN c=true
    · rw [if_pos e2] at h
      injection h with h;subst h
      have:=h8 e
      refine ⟨fun x hx=>f.op x hx,?_,?_,?_⟩ <;> (simp only;split <;> omega)
    · rw [if_neg e2] at h;cases h
  · rw [if_neg e] at h
    have:=h7 (by omega)
    repeat' split at h
    all_goals first
      | (cases h;done)
      | (injection h with h;subst h
         refine ⟨fun x hx=>f.op x hx,?_,?_,?_⟩ <;> (simp only;omega))
theorem num_fit2 {m m':Mc} {c:Nat} (f:Fit2 m) (h:numM m c=some m'):Fit2 m':=by
  unfold numM at h
  repeat' split at h
  all_goals first
    | (cases h;done)
    | (exact after_fit2 f h)
    | (injection h with h;subst h;exact f)
    | (injection h with h;subst h
       exact ⟨fun x hx=>f.op x hx,by simp,by simp,by simp⟩)
theorem step_fit2 {m m':Mc} {c:Nat} (f:Fit2 m) (g:Fit m) (h:stepM m c=some m'):Fit2 m':=by
  unfold stepM at h
  by_cases h1:10≤m.st
  · rw [if_pos h1] at h;exact num_fit2 f h
  rw [if_neg h1] at h
  by_cases h2:m.st=6
  · rw [if_pos h2] at h;exact char_fit2 f h2 h
  rw [if_neg h2] at h
  by_cases h3:m.st=7∨m.st=8
  · rw [if_pos h3] at h;exact esc_fit2 f g h3 h
  rw [if_neg h3] at h
  have h0:m.lf=0:=g.lf (by omega) (by omega)
  by_cases h4:m.st=9
  · rw [if_pos h4] at h
    cases hw:m.wd with
    | nil=>rw [hw] at h;cases h
    | cons x r =>
      rw [hw] at h
      simp only at h
      by_cases h5:x=c
      · rw [if_pos h5] at h
        injection h with h;subst h
        refine ⟨fun x hx=>f.op x hx,?_,?_,?_⟩
        · simp only;split <;> omega
        · simp only;split <;> omega
        · intro h hr
          simp only at h hr
          rw [if_pos hr] at h;omega
      · rw [if_neg h5] at h;cases h
  rw [if_neg h4] at h
  by_cases h5:blankN c=true
  · rw [if_pos h5] at h;injection h with h;subst h;exact f
  rw [if_neg h5] at h
  by_cases h6:m.st=5
  · rw [if_pos h6] at h;exact after_fit2 f h
  rw [if_neg h6] at h
  by_cases h7:m.st=4
  · rw [if_pos h7] at h
    by_cases h8:c=58
    · rw [if_pos h8] at h;injection h with h;subst h
      exact ⟨fun x hx=>f.op x hx,by simp,by simp,by simp⟩
    · rw [if_neg h8] at h;cases h
  rw [if_neg h7] at h
  by_cases h8:m.st=0
  · rw [if_pos h8] at h;exact value_fit2 f h0 h
  rw [if_neg h8] at h
  by_cases h9:(m.st=1∧c=93)∨(m.st=2∧c=125)
  · rw [if_pos h9] at h;injection h with h;subst h
    exact ⟨fun x hx=>f.op x ((List.dropLast_sublist _).mem hx),by simp,by simp,by simp⟩
  rw [if_neg h9] at h
  by_cases h10:m.st=1
  · rw [if_pos h10] at h;exact value_fit2 f h0 h
  rw [if_neg h10] at h
  by_cases h11:c=34
  · rw [if_pos h11] at h;injection h with h;subst h
    exact ⟨fun x hx=>f.op x hx,by simp,by simp [h0],by simp⟩
  · rw [if_neg h11] at h;cases h
theorem take_fit2 {m m':Mc} {l:List Nat} (f:Fit2 m) (g:Fit m) (h:takeM m l=some m'):Fit2 m':=by
  induction l generalizing m with
  | nil=>simp only [takeM] at h;injection h with h;subst h;exact f
  | cons x l ih =>
    simp only [takeM] at h
    cases hs:stepM m x with
    | none=>rw [hs] at h;cases h
    | some k=>rw [hs] at h;exact ih (step_fit2 f g hs) (step_fit g hs) h
theorem run_parts (m:Mc) (l:List Nat):takeM m (l.take (runM m l).1)=some (runM m l).2:=by
  induction l generalizing m with
  | nil=>rfl
  | cons x l ih =>
    simp only [runM]
    cases hs:stepM m x with
    | none=>rfl
    | some k =>
      simp only [List.take_succ_cons]
      rw [takeM_cons hs];exact ih k
theorem char_keeps {m k:Mc} {c:Nat} (h:charM m c=some k):k.op=m.op∧k.wd=m.wd:=by
  unfold charM at h
  repeat' split at h
  all_goals first
    | (cases h;done)
    | (injection h with h;subst h;exact ⟨rfl,rfl⟩)
theorem esc_keeps {m k:Mc} {c:Nat} (h:escM m c=some k):k.op=m.op∧k.wd=m.wd:=by
  unfold escM at h
  repeat' split at h
  all_goals first
    | (cases h;done)
    | (injection h with h;subst h;exact ⟨rfl,rfl⟩)
end Go.Proofs.YtongedjlmohogaaGreatDoor

namespace Go.Proofs.YtongedjlmohogaaGreatDoor
open Go.ChangeShapes Go.WideShapes Go.ChangeAt Go.RowKit
theorem own:ownKnob Tryz.prog.godebug=none:=by kernel_rfl
theorem laidOut:laidOutB Tryz.prog=true:=by kernel_rfl
section
variable {H:Type} {enc:TypeId × Value→H} {P:Program} {w:World} {base:Nat} {spare:Nat→Bool} {held:Bool}
end
section
variable {P:Program} (w:World)
end
theorem wf_i64 {a:Int} (h:(Lit.int .i64 a).wf=true):-9223372036854775808≤a∧a<9223372036854775808:=by
 have:=Go.bounds_i64 h;omega
end Go.Proofs.YtongedjlmohogaaGreatDoor

/-
 A block of cells of a world,and what keeps it.
-/
namespace Go.Proofs.YtongedjlmohogaaGreatDoor
open Go.RowKit
def At (w:World) (b:Nat) (cs:Array Value) (t:TypeId):Prop:=w.heap[b]? = some (.cells cs t)
section
variable {w w':World} {b:Nat} {cs:Array Value} {t:TypeId}
theorem At.lt (h:At w b cs t):b<w.heap.size:=(Array.getElem?_eq_some_iff.1 h).1
theorem At.new (w:World) (cs:Array Value) (t:TypeId):At (w.alloc (.cells cs t)) w.heap.size cs t:=by
 show (w.heap.push _)[_]? = _
 simp
theorem At.kept {n:Nat} (h:At w b cs t) (hb:Below n w w') (hn:b<n):At w' b cs t:=(hb.block b hn).trans h
theorem At.keptAll (h:At w b cs t) (hb:Below w.heap.size w w'):At w' b cs t:=h.kept hb h.lt
theorem At.alloc (h:At w b cs t) (o:Obj):At (w.alloc o) b cs t:=(Below.heap_alloc w o b h.lt).trans h
theorem At.drew (h:At w b cs t):At w.drew b cs t:=h
theorem At.drewN (h:At w b cs t) (n:Nat):At (w.drewN n) b cs t:=h
theorem At.other (h:At w b cs t) {p:Addr} (hp:b≠p.block) (v:Value):At (w.setCell p v) b cs t:=(Below.heap_setCell w p v b hp).trans h
theorem At.set (h:At w b cs t) (i:Nat) (v:Value):At (w.setCell ⟨b,i,none⟩ v) b (cs.setIfInBounds i v) t:=by
 unfold At at *
 simp only [World.setCell,Array.getElem?_modify,if_true,h,Option.map_some]
 rfl
theorem At.cell (h:At w b cs t) (i:Nat):w.cell? ⟨b,i,none⟩=cs[i]?:=by
 unfold At at h
 simp [World.cell?,h]
theorem At.frozen (h:At w b cs t) (i:Nat):w.frozen? ⟨b,i,none⟩=false:=by
 unfold At at h
 simp [World.frozen?,h]
end
end Go.Proofs.YtongedjlmohogaaGreatDoor
/-
 A fact is laid aside.
-/
namespace Go.Proofs.YtongedjlmohogaaGreatDoor
open Go.RowKit
theorem hid {p:Prop} (h:p):Hid p:=h
end Go.Proofs.YtongedjlmohogaaGreatDoor
/-
 Ranges of cells that a world holds,and what keeps them.
-/
namespace Go.Proofs.YtongedjlmohogaaGreatDoor
open Go.RowKit
theorem At.range {w:World} {b:Nat} {cs:Array Value} {t:TypeId} (h:At w b cs t) {L:List Value} (hL:L.toArray=cs):w.rangeAt b 0 L:=fun j v hv=>by
 rw [Nat.zero_add,h.cell j,← hL]
 simpa using hv
theorem range_kept {w w1:World} {b o:Nat} {L:List Value} (h:w.rangeAt b o L) (hb:Below w.heap.size w w1):w1.rangeAt b o L:=fun j v hv=>by
 have hc:=h j v hv
 rw [hb.cell (p:=⟨b,o+j,none⟩) (block_lt_of_cell hc)];exact hc
theorem At.there {w:World} {b:Nat} {cs:Array Value} {t:TypeId} (h:At w b cs t) (n:Nat) (hn:cs.size=n):w.there b 0 n:=fun j hj=>by
 rw [Nat.zero_add]
 refine ⟨?_,h.frozen j⟩
 rw [h.cell j,Array.getElem?_eq_getElem (by omega)];rfl
theorem At.setCells_at {b:Nat} {t:TypeId}:∀ (vs:List Value) (o:Nat) {w:World} {cs:Array Value},At w b cs t→o+vs.length≤cs.size→∃ ds:Array Value,At (w.setCells b o vs) b ds t∧ds.size=cs.size∧(∀ i,i<o→ds[i]? = cs[i]?)∧(∀ i,i<vs.length→ds[o+i]? = vs[i]?)∧∀ i,o+vs.length≤i→ds[i]? = cs[i]?:=by
 intro vs
 induction vs with
 | nil=>exact fun o w cs h _=>⟨cs,h,rfl,fun _ _=>rfl,fun i hi=>by simp at hi,fun _ _=>rfl⟩
 | cons v vs ih =>
  intro o w cs h hle
  simp only [List.length_cons] at hle
  obtain ⟨ds,h1,h2,h3,h4,h5⟩:=ih (o+1) (h.set o v) (by simp;omega)
  refine ⟨ds,h1,by simpa using h2,?_,?_,?_⟩
  ·intro i hi
   rw [h3 i (by omega),Array.getElem?_setIfInBounds_ne (by omega)]
  ·intro i hi
   cases i with
   | zero =>
    rw [Nat.add_zero,h3 o (by omega),Array.getElem?_setIfInBounds_self_of_lt (by omega)]
    rfl
   | succ i =>
    have:=h4 i (by simpa using hi)
    rw [show o+(i+1)=o+1+i by omega,this]
    simp
  ·intro i hi
   simp only [List.length_cons] at hi
   rw [h5 i (by omega),Array.getElem?_setIfInBounds_ne (by omega)]
theorem At.setCells {w:World} {b:Nat} {cs:Array Value} {t:TypeId} (h:At w b cs t) (vs:List Value) (hn:cs.size=vs.length):At (w.setCells b 0 vs) b vs.toArray t:=by
 obtain ⟨ds,h1,h2,_,h4,_⟩:=At.setCells_at vs 0 h (by omega)
 have e:ds=vs.toArray:=by
  apply Array.ext_getElem?
  intro i
  by_cases hi:i<vs.length
  ·have:=h4 i hi
   rw [Nat.zero_add] at this
   rw [this];simp
  ·rw [Array.getElem?_eq_none (by omega),Array.getElem?_eq_none (by simp;omega)]
 rwa [e] at h1
theorem At.setCells_other {w:World} {b:Nat} {cs:Array Value} {t:TypeId} (h:At w b cs t) {b':Nat} (hb:b≠b'):∀ (vs:List Value) (o:Nat),At (w.setCells b' o vs) b cs t:=by
 intro vs
 induction vs generalizing w with
 | nil=>exact fun _=>h
 | cons v vs ih=>exact fun o=>ih (h.other (p:=⟨b',o,none⟩) hb v) (o+1)
theorem below_setCells {n b:Nat} {a w:World} (h:Below n a w) (hb:n≤b):∀ (vs:List Value) (o:Nat),Below n a (w.setCells b o vs):=by
 intro vs
 induction vs generalizing w with
 | nil=>exact fun _=>h
 | cons v vs ih=>exact fun o=>ih (h.setCell (p:=⟨b,o,none⟩) hb v) (o+1)
end Go.Proofs.YtongedjlmohogaaGreatDoor
/-
 A region that draws its order,walked once in the text's order,in a class of worlds of one's own.
-/
namespace Go.Proofs.YtongedjlmohogaaGreatDoor
open Go.RowKit
section
variable {P:Program} {ops:Array Oper} {C:World→Prop} {Q:Act→Prop}
theorem wpQuiet_take {a:Act} {o:Oper} {rest:List Oper} {v:Value} (hw:Region.wanted o (yielded ops a.tmps)=true) (hy:∀ w,C w→o.quietAt P a C w v) (h:wpQuiet P ops C Q rest (a.put o.dst v)):wpQuiet P ops C Q (o :: rest) a:=by
 unfold wpQuiet
 rw [if_pos hw]
 exact ⟨v,hy,h⟩
theorem wpQuiet_skip {a:Act} {o:Oper} {rest:List Oper} (hw:Region.wanted o (yielded ops a.tmps)=false) (h:wpQuiet P ops C Q rest (a.put o.dst undef)):wpQuiet P ops C Q (o :: rest) a:=by
 unfold wpQuiet
 rw [if_neg (by rw [hw];decide)]
 exact h
theorem wpQuiet_load {a:Act} {o:Oper} {rest:List Oper} (ty:TypeId) (x:Operand) (b off:Nat) (cs:List Value) (d:TypeDesc) (hS:∀ w,C w→w.rangeAt b off cs) (hu:P.underlying ty=some d) (hi:(P.info? ty).map (·.size)=some cs.length) (hd:d.isRow=true)
  (ho:o.op = .load ty x) (hx:a.eval x = .pointer (some ⟨b,off,none⟩)) (hw:Region.wanted o (yielded ops a.tmps)=true) (h:wpQuiet P ops C Q rest (a.put o.dst (.agg cs.toArray))):wpQuiet P ops C Q (o :: rest) a:=by
 refine wpQuiet_take hw (fun w hw'=>?_) h
 unfold Oper.quietAt execOp
 simp only [ho,hx,Instr.loadAt,Instr.sureAddr,Sem.run_bind,Sem.run_pure,Result.andThen_ok,run_loadVar_mid w b off ty cs d (hS w hw') hu hd hi]
 exact ⟨rfl,rfl⟩
end
section
variable {P:Program} {ops:Array Oper} {rest:List Oper} {op:Oper} {a:Act} {w:World} {Q:Exit→Act→World→Prop}
theorem wpList_load_want (ty:TypeId) (x:Operand) (b o:Nat) (cs:List Value) (d:TypeDesc) (hc:w.rangeAt b o cs) (hu:P.underlying ty=some d) (hi:(P.info? ty).map (·.size)=some cs.length) (hd:d.isRow=true)
  (ho:op.op = .load ty x) (hx:a.eval x = .pointer (some ⟨b,o,none⟩)) (hw:Region.wanted op (yielded ops a.tmps)=true) (h:wpList P ops Q rest (a.put op.dst (.agg cs.toArray)) w):wpList P ops Q (op :: rest) a w :=
 BigFrame.wpList_want hw fun _ hK=>wp_load_mid ty x ho b o hx cs d hc hu hd hi (hK _ _ h)
theorem wpList_store_want (ty:TypeId) (x y:Operand) (b o:Nat) (cells:Array Value) (ht:w.there b o cells.size) (hi:(P.info? ty).map (·.size)=some cells.size) (h1:cells.all (·.oneCell')=true)
  (ho:op.op = .store ty x y) (hx:a.eval x = .pointer (some ⟨b,o,none⟩)) (hy:a.eval y = .agg cells) (hw:Region.wanted op (yielded ops a.tmps)=true) (h:wpList P ops Q rest (a.put op.dst undef) (w.setCells b o cells.toList)):wpList P ops Q (op :: rest) a w :=
 BigFrame.wpList_want hw fun _ hK=>wp_store_mid ty x y ho b o cells hx hy ht hi h1 (hK _ _ h)
end
end Go.Proofs.YtongedjlmohogaaGreatDoor
/-
 Long arrays inside a fence,and what an iterator's caller keeps.
-/
namespace Go.Proofs.YtongedjlmohogaaGreatDoor
open Go.RowKit Go.Shelf
section
variable {F:Fence} {n:Nat} {P:Program} {ops:Array Oper} {rest:List Oper} {op:Oper} {a:Act} {w:World} {Q:Exit→Act→World→Prop}
theorem wpListIn_load_want (ty:TypeId) (x:Operand) (b o:Nat) (cs:List Value) (d:TypeDesc) (hc:w.rangeAt b o cs) (hu:P.underlying ty=some d) (hi:(P.info? ty).map (·.size)=some cs.length) (hd:d.isRow=true)
  (ho:op.op = .load ty x) (hx:a.eval x = .pointer (some ⟨b,o,none⟩)) (hw:Region.wanted op (yielded ops a.tmps)=true) (h:wpListIn F n P ops Q rest (a.put op.dst (.agg cs.toArray)) w):wpListIn F n P ops Q (op :: rest) a w :=
 BigFrame.wpListIn_want hw fun K hK=>by
  refine ⟨fun f hf=>by simp [Oper.about,ho] at hf,?_⟩
  rw [Oper.semAt_eq _ _ _ (fun c=>by rw [ho];intro h;cases h)]
  unfold execOp
  simp only [ho,hx,Instr.loadAt,Instr.sureAddr,Sem.run_bind,Sem.run_pure,Result.andThen_ok,run_loadVar_mid w b o ty cs d hc hu hd hi]
  exact hK _ _ h
end
theorem grown_of_below {w w':World} (h:Below w.heap.size w w'):w.grownBy w' none:=⟨h.os,h.tape,h.output,h.size,fun k hk _=>h.block k hk⟩
theorem keeps_below {A A':World} (hb:Below A.heap.size A A'):KeepsOthers A A':=⟨hb.size,fun k _ hk _=>(hb.block k (Array.getElem?_eq_some_iff.1 hk).1).trans hk⟩
theorem At.own {w w':World} {b:Nat} {cs:Array Value} {t:TypeId} (h:At w b cs t) {row:Option Nat} (hg:w.grownBy w' row) (hr:∀ r,row=some r→∃ o:Obj,w.heap[r]? = some o∧o.isCells=false):At w' b cs t:=by
 refine (hg.block b h.lt (fun e=>?_)).trans h
 obtain ⟨o,ho,hc⟩:=hr b e.symm
 have hh:w.heap[b]? = some (.cells cs t):=h
 rw [hh] at ho
 cases ho
 cases hc
end Go.Proofs.YtongedjlmohogaaGreatDoor
/-
 A range over an iterator that itself ranges over another one and calls its yield in those rounds: the rounds of the outer loop must leave alone what the iterator has laid since it was called,its own loop's record too. The library's laws ask of the relation that a round keeps (Kp) that it abide a turn of ANY record from the loop's on;here it is asked to abide a turn of the loop's own record alone.
-/
namespace Go.Proofs.YtongedjlmohogaaGreatDoor
open Go.RowKit Go.Shelf
section
variable {P:Program}
def Book (D:Nat) (r:Loop) (W:World):Prop:=W.heap[D+1]? = some (.loop r)∧W.heap[D]? = some (.deferred (some []))
theorem Book.keeps {D:Nat} {r:Loop} {W W':World} (h:Book D r W) (hk:KeepsFrom D W W'):Book D r W':=⟨hk.same _ _ (by omega) h.1 rfl,hk.same _ _ (Nat.le_refl _) h.2 rfl⟩
theorem Book.lt {D:Nat} {r:Loop} {W:World} (h:Book D r W):D+1<W.heap.size:=(Array.getElem?_eq_some_iff.1 h.1).1
theorem Book.turn {D:Nat} {r:Loop} {W:World} (h:Book D r W) (r':Loop):Book D r' (W.putObj (D+1) (.loop r')) :=
 ⟨World.putObj_heap_same h.lt,(World.putObj_heap_other (by omega)).trans h.2⟩
theorem Book.new (w:World) (r:Loop):Book w.heap.size r ((w.alloc (.deferred (some []))).alloc (.loop r)):=by
 refine ⟨?_,(Below.heap_alloc _ _ _ (by simp)).trans (World.alloc_heap_new w _)⟩
 have h:=World.alloc_heap_new (w.alloc (.deferred (some []))) (.loop r)
 rwa [World.size_alloc] at h
theorem Book.grown {D:Nat} {r:Loop} {X Y:World} {row:Option Nat} (h:Book D r X) (hg:X.grownBy Y row) (hr:∀ k,row=some k→D+1<k):Book D r Y:=by
 have h1:=h.lt
 exact ⟨(hg.block _ h1 (fun e=>by have:=hr _ e.symm;omega)).trans h.1,(hg.block _ (by omega) (fun e=>by have:=hr _ e.symm;omega)).trans h.2⟩
theorem roundIn_any {n m l:Nat} {f:FuncId} {tmps:Array Value} {assign body:Code} {W:World} {R:Ending→World→Prop} (h:RoundIn Fence.wide n P l f tmps assign body W R):RoundIn Fence.wide m P l f tmps assign body W R :=
 ⟨h.1,fun c cs _=>h.2 c cs (room_wide _)⟩
section
variable {md:Region.Mode} {ops:Array Oper} {Q:Exit→Act→World→Prop} {l n:Nat}
end
def Held (n0 B Bx:Nat) (W W':World):Prop:=Below n0 W W'∧W.heap.size≤W'.heap.size∧∀ k o,B≤k∨k=Bx→W.heap[k]? = some o→W'.heap[k]? = some o
theorem Held.refl (n0 B Bx:Nat) (W:World):Held n0 B Bx W W:=⟨Below.refl _ _,Nat.le_refl _,fun _ _ _ h=>h⟩
theorem Held.trans {n0 B Bx:Nat} {X Y Z:World} (h:Held n0 B Bx X Y) (k:Held n0 B Bx Y Z):Held n0 B Bx X Z :=
 ⟨h.1.trans k.1,Nat.le_trans h.2.1 k.2.1,fun i o hi ho=>k.2.2 i o hi (h.2.2 i o hi ho)⟩
theorem Held.below {n0 B Bx:Nat} {W W':World} (hn:n0≤W.heap.size) (hb:Below W.heap.size W W'):Held n0 B Bx W W' :=
 ⟨hb.mono hn,hb.size,fun k _ _ ho=>(hb.block k (Array.getElem?_eq_some_iff.1 ho).1).trans ho⟩
theorem Held.setCell {n0 B Bx b:Nat} (W:World) (v:Value) (h1:n0≤b) (h2:b<B) (h3:b≠Bx):Held n0 B Bx W (W.setCell ⟨b,0,none⟩ v) :=
 ⟨(Below.refl _ _).setCell (p:=⟨b,0,none⟩) h1 v,by simp,fun k _ hk ho=>(Below.heap_setCell W ⟨b,0,none⟩ v k (by show k≠b;omega)).trans ho⟩
theorem Held.turn {n0 B Bx l:Nat} {W:World} {r r':Loop} (hl:W.heap[l]? = some (.loop r)) (h1:n0≤l) (h2:l<B) (h3:l≠Bx):Held n0 B Bx W (W.putObj l (.loop r')):=by
 have hg:=grownBy_putObj' W l (.loop r')
 have hlt:=(Array.getElem?_eq_some_iff.1 hl).1
 exact ⟨(Below.refl n0 W).grown hg (by omega) (fun k e=>by cases e;omega),hg.size,fun k _ hk ho=>(World.putObj_heap_other (by omega)).trans ho⟩
theorem Held.drew {n0 B Bx:Nat} (W:World):Held n0 B Bx W W.drew:=⟨(Below.refl _ _).drew,Nat.le_refl _,fun _ _ _ h=>h⟩
theorem Held.at {n0 B Bx:Nat} {W W':World} (h:Held n0 B Bx W W') {b:Nat} {cs:Array Value} {t:TypeId} (ha:At W b cs t) (hb:B≤b∨b=Bx):At W' b cs t:=h.2.2 b _ hb ha
theorem Held.from {n0 B Bx:Nat} {W W':World} (h:Held n0 B Bx W W') {D:Nat} (hD:B≤D):KeepsFrom D W W':=⟨h.2.1,fun k o hk ho _=>h.2.2 k o (.inl (by omega)) ho⟩
end
end Go.Proofs.YtongedjlmohogaaGreatDoor
/-
 A region that draws its order,inside a round of a range over a function.
-/
namespace Go.Proofs.YtongedjlmohogaaGreatDoor
open Go.RowKit Go.Shelf
section
variable {P:Program} {md:Region.Mode} {ops:Array Oper} {Q:Exit→Act→World→Prop} {l n:Nat}
theorem wpOpIn_round {i:Nat} {K K':Act→World→Prop} {a:Act} {w:World} (hnd:∀ (i:Nat) (o:Oper),ops[i]? = some o→∀ c,o.op≠.defer c) (hLO:¬ LetsOut Q) (hK:∀ a w,K a w→K' a w)
  (h:wpOp P ops Q i K a w):wpOpIn (Fence.wide.inRound l) n P ops Q i K' a w:=by
 unfold wpOp at h
 unfold wpOpIn
 cases ho:ops[i]? with
 | none=>simp only [ho] at h;exact hK _ _ h
 | some o =>
  simp only [ho] at h ⊢
  split
  ·rename_i hw
   simp only [hw,if_true] at h
   rcases h with h | ⟨_,h⟩
   ·refine ⟨fun _ _=>trivial,?_⟩
    rw [Fence.inRound_round,Oper.semAt_some l _ _ (hnd i o ho)]
    unfold Oper.wp at h
    generalize (execOp a.eval o).run P w=r at *
    cases r with
    | ok x w' =>
     cases x <;> simp only [Oper.upon,Oper.uponIn] at h ⊢
     case value u=>exact hK _ _ h
     case skip=>exact hK _ _ h
     case defer d=>exact hK _ _ h
     case enter f args =>
      refine ⟨fun hd=>(by cases hd),CallsIn.inRound l (callsIn_wide.2 (Calls.mono h fun e w'' he=>?_))⟩
      cases e with
      | returned u=>exact hK _ _ he
      | panicked c=>exact he
      | outgrown=>exact he
     case row row args =>
      refine ⟨fun hd=>(by cases hd),fun c cs _=>?_⟩
      obtain ⟨v,w'',hr,hs⟩:=h c cs
      exact ⟨v,w'',hK _ _ hr,stepsIn_wide.2 hs⟩
    | halt x w' =>
     cases x <;> simp only [Oper.upon,Oper.uponIn] at h ⊢
     case panic u=>exact h
   ·exact absurd h hLO
  ·rename_i hw
   simp only [hw] at h
   exact ⟨fun _ _=>trivial,hK _ _ h⟩
theorem wpAnyIn_round (hnd:∀ (i:Nat) (o:Oper),ops[i]? = some o→∀ c,o.op≠.defer c) (hLO:¬ LetsOut Q):∀ (fuel:Nat) (listed:Array Bool) (a:Act) (w:World),
  wpAny P md ops Q fuel listed a w→wpAnyIn (Fence.wide.inRound l) n P md ops Q fuel listed a w
 | 0,_,_,_,h=>h
 | fuel+1,_,_,_,h=>⟨h.1,fun i hi=>wpOpIn_round hnd hLO (fun a' w' h'=>wpAnyIn_round hnd hLO fuel _ a' w' h') (h.2 i hi)⟩
def OnlyN (K:Act→World→Prop):Exit→Act→World→Prop
 | .normal,a,w=>K a w
 | _,_,_=>False
theorem wpIn_region_round {id:Nat} {a:Act} {w:World} {K:Act→World→Prop} {S:World→Prop} (hm:P.follows .mixedOrders=true) (hnd:ops.all (fun o=>match o.op with | .defer _=>false | _=>true)=true)
  (hQ:∀ a w,K a w→Q .normal a w) (hS:S w.drew)
  (h:S w.drew→wpAnyH P .any ops (OnlyN K) S ops.size (Array.replicate ops.size false) a w.drew):(Code.region id ops true).wpIn (Fence.wide.inRound l) n P Q a w:=by
 refine wpIn_mono (Q:=OnlyN K) (wpIn_region_any hm (wpAnyIn_round ?_ ?_ _ _ _ _ (wpAny_of_held _ _ _ _ (h hS)))) ?_
 ·intro i o hi c hc
  have:=Array.all_eq_true.1 hnd i (Array.getElem?_eq_some_iff.1 hi).1
  rw [(Array.getElem?_eq_some_iff.1 hi).2,hc] at this
  cases this
 ·rintro ⟨a,w,h⟩
  exact h
 ·intro e a w h
  cases e with
  | normal=>exact hQ _ _ h
  | _=>exact False.elim h
end
end Go.Proofs.YtongedjlmohogaaGreatDoor

/-
 Of no program: the backslashes of a text;which bytes are escaped;rows of backslashes.
-/
namespace Go.Proofs.YtongedjlmohogaaGreatDoor
def slash (s:ByteArray) (i:Nat):Bool:=decide ((s.data[i]?.getD 0).toNat=92)
theorem slash_at (s:ByteArray) (i:Nat) (h:i<s.size):slash s i=decide ((s[i]'h).toNat=92):=by
 unfold slash
 rw [Array.getElem?_eq_getElem (show i<s.data.size from h)]
 rfl
def escG (q:Nat→Bool) (c:Bool):Nat→Bool
 | 0=>c
 | n+1=>q n && !escG q c n
theorem escG_succ (q:Nat→Bool) (c:Bool) (n:Nat):escG q c (n+1)=(q n && !escG q c n):=rfl
def runE (q:Nat→Bool):Nat→Nat
 | 0=>0
 | n+1=>if q n then runE q n+1 else 0
theorem runE_succ (q:Nat→Bool) (n:Nat):runE q (n+1)=if q n then runE q n+1 else 0:=rfl
theorem runE_of {q:Nat→Bool} {n k:Nat} (hk:k≤n) (h:∀ j,n-k≤j→j<n→q j=true) (he:k=n∨q (n-k-1)=false):runE q n=k:=by
 induction n generalizing k with
 | zero=>simp [runE];omega
 | succ n ih =>
  rw [runE_succ]
  cases k with
  | zero =>
   rcases he with he | he
   ·omega
   ·simp at he
    rw [he];rfl
  | succ k =>
   rw [h n (by omega) (by omega),if_pos rfl,ih (k:=k) (by omega) (fun j h1 h2=>h j (by omega) (by omega))]
   rcases he with he | he
   ·exact .inl (by omega)
   ·exact .inr (by rw [← he];congr 1;omega)
end Go.Proofs.YtongedjlmohogaaGreatDoor
/-
 What escape.Odd answers.
-/
namespace Go.Proofs.YtongedjlmohogaaGreatDoor
open Go.RowKit
set_option maxRecDepth 10000 in
set_option maxHeartbeats 1000000 in
theorem odd_nat (s:ByteArray) (a f:Nat) (o:Bool) (hs:s.size≤9223372036854775807) (ha:a≤s.size) (hf:Hid (a-runE (slash s) a=f∧decide (runE (slash s) a % 2=1)=o)) (w:World) :
  Calls Tryz.prog 123 #[.string s,.int .i64 (a:Int)] w fun e w'=>e = .returned (.tuple #[.int .i64 (f:Int),.bool o])∧w'=w:=by
 go_enter Tryz.func123,Tryz.ntmps123
 have e0:decide ((a:Int)<0)=false:=by simp
 have e1:decide ((s.size:Int)<(a:Int))=false:=by simp;omega
 go_wp2
 go_loop [6] (fun ff=>∃ i:Nat,i≤a∧ff = .int .i64 (i:Int)∧Hid (∀ j,i≤j→j<a→slash s j=true)) (fun ff=>(intOf ff).toNat)
 case atStart=>exact ⟨a,Nat.le_refl _,rfl,fun j h1 h2=>by omega⟩
 case round =>
  obtain ⟨i,hi,rfl,hall⟩:=hrel
  have fin:Hid (i=0∨slash s (i-1)=false→i=f∧decide ((a-i) % 2=1)=o):=by
   intro h
   have hr:=runE_of (q:=slash s) (n:=a) (k:=a-i) (by omega) (fun j h1 h2=>hall.out j (by omega) h2) (by
    rcases h with h | h
    ·exact .inl (by omega)
    ·by_cases h0:a-i=a
     ·exact .inl h0
     ·exact .inr (by rw [show a-(a-i)-1=i-1 by omega];exact h))
   obtain ⟨h1,h2⟩:=hf.out
   rw [hr] at h1 h2
   exact ⟨by omega,h2⟩
  clear hf
  have done:Hid (i=f→decide ((a-i) % 2=1)=o→(((a:Int)-(i:Int)) % 2 == 1)=o):=by
   intro _ h
   rw [← h,show (a:Int)-(i:Int)=((a-i:Nat):Int) by omega]
   generalize a-i=d
   rw [show ((d:Int) % 2)=((d % 2:Nat):Int) by simp]
   rcases Nat.mod_two_eq_zero_or_one d with h | h <;> simp [h]
  by_cases h0:i=0
  ·subst h0
   obtain ⟨h1,h2⟩:=fin.out (.inl rfl)
   have h3:=done.out h1 h2
   subst h1
   clear h2 fin done hall e0 e1
   go_wp2
   refine bodyPost_ret (results_tmp2 rfl _ _ _) rfl ?_
   exact ⟨by rw [← h3];simp,rfl⟩
  ·have hp:decide ((0:Int)<(i:Int))=true:=by simp;omega
   have hlt:i-1<s.size:=by omega
   have hx:=slash_at s (i-1) hlt
   obtain ⟨j,rfl⟩:∃ j,i=j+1:=⟨i-1,by omega⟩
   have ej:((j+1:Nat):Int)-1=(j:Int):=by omega
   simp only [Nat.add_sub_cancel] at hlt hx
   have hjl:(j:Int)<(s.size:Int):=by omega
   obtain ⟨x,hxe⟩:∃ x,s[j].toNat=x:=⟨_,rfl⟩
   rw [hxe] at hx
   by_cases h92:x=92
   ·subst h92
    have hall':=hall
    clear hall fin done e0 e1
    have hx':=hid hx
    clear hx
    go_wp2
    go_round
    case rel => exact ⟨j, by omega, by simp, fun k h1 h2 => by
           by_cases hk:k=j
           ·rw [hk,hx'.out];rfl
           ·exact hall'.out k (by omega) h2⟩
    case measure=>simp [intOf]
   ·have hne:((x:Int) == 92)=false:=by simp;omega
    rw [decide_eq_false h92] at hx
    obtain ⟨h1,h2⟩:=fin.out (.inr hx)
    have h3:=done.out h1 h2
    subst h1
    clear h2 fin done hall e0 e1 hx
    go_wp2
    refine bodyPost_ret (results_tmp2 rfl _ _ _) rfl ?_
    exact ⟨by rw [← h3];simp,rfl⟩
def behindS (s:ByteArray) (c:Bool):Bool:=escG (slash s) c s.size
end Go.Proofs.YtongedjlmohogaaGreatDoor

/-
 Of no program: words told by their bits;parities;sums bit by bit.
-/
namespace Go.Proofs.YtongedjlmohogaaGreatDoor
def sumBits (g:Nat→Bool):Nat→Nat
 | 0=>0
 | n+1=>sumBits g n+(if g n then 2 ^ n else 0)
def reach (X R:Nat):Nat:=X ^^^ (X*2 ^ R % 18446744073709551616)
end Go.Proofs.YtongedjlmohogaaGreatDoor
/-
 Of no program: how many bits are set;the count by halves,as math/bits has it.
-/
namespace Go.Proofs.YtongedjlmohogaaGreatDoor
def bm (f:Nat→Nat):Nat→Nat→Nat
 | 0,_=>0
 | k+1,x=>f (x % 256)+256*bm f k (x / 256)
def p1 (b:Nat):Nat:=(b / 2 &&& 85)+(b &&& 85)
def p2 (b:Nat):Nat:=(p1 b / 4 &&& 51)+(p1 b &&& 51)
def p3 (b:Nat):Nat:=p2 b / 16+p2 b % 16
end Go.Proofs.YtongedjlmohogaaGreatDoor
/-
 Of no program: the places of the set bits,rising.
-/
namespace Go.Proofs.YtongedjlmohogaaGreatDoor
def below (x n:Nat):List Nat:=(List.range n).filter (fun i=>x.testBit i)
def places (x:Nat):List Nat:=below x 64
end Go.Proofs.YtongedjlmohogaaGreatDoor
/-
 Of no program: where rows of set bits begin,and how long they are.
-/
namespace Go.Proofs.YtongedjlmohogaaGreatDoor
end Go.Proofs.YtongedjlmohogaaGreatDoor
/-
 Of no program: which bits are escaped,bit by bit,and row by row.
-/
namespace Go.Proofs.YtongedjlmohogaaGreatDoor
end Go.Proofs.YtongedjlmohogaaGreatDoor
