/-
  Texts of mine that others lean on, one behind the other.
-/
import Derived.Test.YtjcpamjeekfblaaGreatDoorPack1
import Derived.Test.YtjcpamjeekfblaaGreatDoorPack2
import Derived.Lib.ConvBytes
import Derived.Laws.AppendOwn
import Derived.Test.YtjcpamjeekfblaaGreatDoorPack9
import Derived.Test.YtjcpamjeekfblaaGreatDoorPack4
import Derived.Deep.DeepCutAuto
import Derived.Deep.RegionHeld
import Derived.BigQuiet
namespace Go.Proofs.YtjcpamjeekfblaaGreatDoor
def hexZ (c:Nat):Int:=if 48≤c∧c≤57 then (c:Int)-48 else if 97≤c∧c≤102 then (c:Int)-87 else if 65≤c∧c≤70 then (c:Int)-55 else -1
theorem hexZ_lt (c:Nat):-1≤hexZ c∧hexZ c<16:=by
  unfold hexZ
  split
  · omega
  · split
    · omega
    · split <;> omega
structure Pc where
  size:Nat
  means:Nat
  four:Bool
def pc0:Pc:=⟨0,0,false⟩
def hexV (b:Nat→Nat):Nat→Nat
  | 0=>0
  | j+1=>hexV b j*16+(hexZ (b (2+j))).toNat
def hexOk (b:Nat→Nat):Nat→Bool
  | 0=>true
  | j+1=>hexOk b j && decide (0≤hexZ (b (2+j)))
theorem hexV_lt (b:Nat→Nat) (j:Nat) (h:j≤4):hexV b j<16 ^ j:=by
  induction j with
  | zero=>simp [hexV]
  | succ j ih =>
    have h1:=ih (by omega)
    have h2:=hexZ_lt (b (2+j))
    rw [hexV,Nat.pow_succ]
    omega
def bAt (s:ByteArray) (i:Nat):Nat:=(s.data[i]?.getD 0).toNat
theorem bAt_at (s:ByteArray) (i:Nat) (h:i<s.size):(s[i]'h).toNat=bAt s i:=by
  unfold bAt
  rw [Array.getElem?_eq_getElem (show i<s.data.size from h)]
  rfl
theorem bAt_lt (s:ByteArray) (i:Nat):bAt s i<256:=(s.data[i]?.getD 0).toNat_lt
theorem hexOk_le (b:Nat→Nat) {i j:Nat} (h:hexOk b j=true) (hi:i≤j):hexOk b i=true:=by
  induction j with
  | zero => obtain rfl : i = 0 := by omega
            exact h
  | succ j ih =>
    by_cases e:i=j+1
    · subst e;exact h
    · exact ih (by rw [hexOk,Bool.and_eq_true] at h;exact h.1) (by omega)
def fourP (b:Nat→Nat) (n:Nat):Pc:=if 6≤n∧hexOk b 4=true then ⟨6,hexV b 4,true⟩ else pc0
def nextP (b:Nat→Nat) (n:Nat):Pc :=
  if b 0<32∨b 0=34 then pc0 else if b 0≠92 then ⟨1,b 0,false⟩ else if n<2 then pc0
  else if b 1=34∨b 1=92∨b 1=47 then ⟨2,b 1,false⟩ else if b 1=98 then ⟨2,8,false⟩ else if b 1=102 then ⟨2,12,false⟩ else if b 1=110 then ⟨2,10,false⟩ else if b 1=114 then ⟨2,13,false⟩ else if b 1=116 then ⟨2,9,false⟩
  else if b 1=117 then fourP b n else pc0
def highP (p:Pc):Bool:=p.four && (decide (55296≤p.means) && decide (p.means≤56319))
def lowP (p:Pc):Bool:=p.four && (decide (56320≤p.means) && decide (p.means≤57343))
theorem fourP_size (b:Nat→Nat) (n:Nat):(fourP b n).size≤n∧(fourP b n).means<65536:=by
  unfold fourP
  split
  · rename_i h
    exact ⟨h.1,by have:=hexV_lt b 4 (by decide);simpa using this⟩
  · exact ⟨Nat.zero_le _,by decide⟩
theorem nextP_size (b:Nat→Nat) (n:Nat) (hn:0<n) (hb:∀ i,b i<256):(nextP b n).size≤n∧(nextP b n).means<65536:=by
  have h4:=fourP_size b n
  have h0:=hb 0
  have h1:=hb 1
  unfold nextP
  repeat' split
  all_goals first
    | exact h4
    | (refine ⟨?_,?_⟩ <;> simp only [pc0] <;> omega)
def charL (n:Nat):List Nat :=
  if n<128 then [n] else if n<2048 then [192+n / 64,128+n % 64] else if n<65536 then [224+n / 4096,128+n / 64 % 64,128+n % 64]
  else [240+n / 262144,128+n / 4096 % 64,128+n / 64 % 64,128+n % 64]
theorem charL_lt {n:Nat} (h:n<1114112):∀ x ∈ charL n,x<256:=by
  unfold charL
  repeat' split
  all_goals
    intro x hx
    simp at hx
  · omega
  · rcases hx with rfl | rfl <;> omega
  · rcases hx with rfl | rfl | rfl <;> omega
  · rcases hx with rfl | rfl | rfl | rfl <;> omega
def lb (l:List Nat) (i:Nat):Nat:=l.getD i 0
theorem bAt_lb (s:ByteArray):bAt s=lb (byts s):=by
  funext i
  unfold bAt lb byts
  rw [List.getD_eq_getElem?_getD,List.getElem?_map,Array.getElem?_toList]
  cases s.data[i]? <;> rfl
theorem lb_drop (l:List Nat) (k:Nat):lb (l.drop k)=fun i=>lb l (k+i):=by
  funext i
  unfold lb
  rw [List.getD_eq_getElem?_getD,List.getD_eq_getElem?_getD,List.getElem?_drop]
def nextL (l:List Nat):Pc:=nextP (lb l) l.length
theorem lb_lt {l:List Nat} (h:∀ x ∈ l,x<256) (i:Nat):lb l i<256:=by
  unfold lb
  rw [List.getD_eq_getElem?_getD]
  cases hi:l[i]? with
  | none=>decide
  | some x=>exact h x (List.mem_of_getElem? hi)
theorem nextL_size {l:List Nat} (hl:l≠[]) (h:∀ x ∈ l,x<256):(nextL l).size≤l.length∧(nextL l).means<65536 :=
  nextP_size (lb l) l.length (List.length_pos_iff.2 hl) (lb_lt h)
theorem nextP_four (b:Nat→Nat) (n:Nat) (h:(nextP b n).four=true):(nextP b n).size=6:=by
  revert h
  unfold nextP
  repeat' split
  all_goals first
    | (intro h;cases h;done)
    | (unfold fourP
       split
       · intro _;rfl
       · intro h;cases h)
theorem nextP_one (b:Nat→Nat) (n:Nat) (hb:∀ i,b i<256) (h:(nextP b n).four=false):(nextP b n).means<256:=by
  have h0:=hb 0
  have h1:=hb 1
  revert h
  unfold nextP
  repeat' split
  all_goals first
    | (intro _;simp only [pc0];omega)
    | (unfold fourP
       split
       · intro h;cases h
       · intro _;decide)
def stepL (l:List Nat):Option (Nat × List Nat) :=
  if (nextL l).size=0 then none
  else if highP (nextL l)=true∧(nextL l).size<l.length∧lowP (nextL (l.drop (nextL l).size))=true then some ((nextL l).size+(nextL (l.drop (nextL l).size)).size,charL (65536+((nextL l).means-55296)*1024+((nextL (l.drop (nextL l).size)).means-56320)))
  else if highP (nextL l)=true∨lowP (nextL l)=true then some ((nextL l).size,charL 65533)
  else if (nextL l).four=true then some ((nextL l).size,charL (nextL l).means) else some ((nextL l).size,[(nextL l).means])
theorem charL_len (n:Nat):1≤(charL n).length∧(charL n).length≤4:=by
  unfold charL
  repeat' split
  all_goals simp
theorem stepL_some {l o:List Nat} {k:Nat} (hl:l≠[]) (h:∀ x ∈ l,x<256) (e:stepL l=some (k,o)):1≤k∧k≤l.length∧o.length≤k∧∀ x ∈ o,x<256:=by
  obtain ⟨h1,h2⟩:=nextL_size hl h
  have hd:∀ x ∈ l.drop (nextL l).size,x<256:=fun x hx=>h x (List.mem_of_mem_drop hx)
  unfold stepL at e
  by_cases h0:(nextL l).size=0
  · rw [if_pos h0] at e;cases e
  · rw [if_neg h0] at e
    by_cases hp:highP (nextL l)=true∧(nextL l).size<l.length∧lowP (nextL (l.drop (nextL l).size))=true
    · rw [if_pos hp] at e
      obtain ⟨p1,p2,p3⟩:=hp
      simp only [Option.some.injEq,Prod.mk.injEq] at e
      obtain ⟨rfl,rfl⟩:=e
      have hne:l.drop (nextL l).size≠[]:=fun e=>by
        have:=congrArg List.length e
        rw [List.length_drop] at this
        simp at this
        omega
      obtain ⟨q1,q2⟩:=nextL_size hne hd
      rw [List.length_drop] at q1
      unfold highP at p1
      unfold lowP at p3
      simp only [Bool.and_eq_true,decide_eq_true_eq] at p1 p3
      have s1:=nextP_four _ _ p1.1
      have s2:=nextP_four _ _ p3.1
      have c:=charL_len (65536+((nextL l).means-55296)*1024+((nextL (l.drop (nextL l).size)).means-56320))
      refine ⟨by omega,by omega,?_,charL_lt (by omega)⟩
      have s3:(nextL l).size=6:=s1
      omega
    · rw [if_neg hp] at e
      by_cases hh:highP (nextL l)=true∨lowP (nextL l)=true
      · rw [if_pos hh] at e
        simp only [Option.some.injEq,Prod.mk.injEq] at e
        obtain ⟨rfl,rfl⟩:=e
        have hf:(nextL l).four=true:=by
          rcases hh with hh | hh
          · unfold highP at hh;rw [Bool.and_eq_true] at hh;exact hh.1
          · unfold lowP at hh;rw [Bool.and_eq_true] at hh;exact hh.1
        have s3:(nextL l).size=6:=nextP_four _ _ hf
        have c:=charL_len 65533
        exact ⟨by omega,h1,by omega,charL_lt (by decide)⟩
      · rw [if_neg hh] at e
        by_cases hf:(nextL l).four=true
        · rw [if_pos hf] at e
          simp only [Option.some.injEq,Prod.mk.injEq] at e
          obtain ⟨rfl,rfl⟩:=e
          have s3:(nextL l).size=6:=nextP_four _ _ hf
          have c:=charL_len (nextL l).means
          exact ⟨by omega,h1,by omega,charL_lt (by omega)⟩
        · rw [if_neg hf] at e
          simp only [Option.some.injEq,Prod.mk.injEq] at e
          obtain ⟨rfl,rfl⟩:=e
          have h3:=nextP_one (lb l) l.length (lb_lt h) (show (nextL l).four=false by simpa using hf)
          exact ⟨by omega,h1,by simp;omega,fun x hx=>by simp at hx;subst hx;exact h3⟩
def unescF:Nat→List Nat→Option (List Nat)
  | _,[]=>some []
  | 0,_ :: _=>none
  | n+1,x :: r=>match stepL (x :: r) with
    | none=>none
    | some (k,o)=>(unescF n ((x :: r).drop k)).map (o ++ ·)
def unescL (l:List Nat):Option (List Nat):=unescF l.length l
theorem unescF_more {l:List Nat} (h:∀ x ∈ l,x<256) {n:Nat} (hn:l.length≤n):unescF n l=unescF l.length l:=by
  induction n using Nat.strongRecOn generalizing l with
  | ind n ih =>
    cases l with
    | nil=>cases n <;> rfl
    | cons x r =>
      cases n with
      | zero=>simp at hn
      | succ n =>
        rw [List.length_cons]
        simp only [unescF]
        cases hs:stepL (x :: r) with
        | none=>rfl
        | some p =>
          obtain ⟨k,o⟩:=p
          have h1:=stepL_some (by simp) h hs
          have hd:∀ y ∈ (x :: r).drop k,y<256:=fun y hy=>h y (List.mem_of_mem_drop hy)
          have hlen:((x :: r).drop k).length≤r.length:=by rw [List.length_drop,List.length_cons];omega
          simp only []
          rw [List.length_cons] at hn
          rw [ih n (by omega) hd (by omega),← ih r.length (by omega) hd hlen]
theorem unescL_nil:unescL []=some []:=rfl
theorem unescL_none {l:List Nat} (hl:l≠[]) (hs:stepL l=none):unescL l=none:=by
  cases l with
  | nil=>exact absurd rfl hl
  | cons x r =>
    unfold unescL
    rw [List.length_cons]
    simp only [unescF]
    rw [hs]
theorem unescL_some {l o:List Nat} {k:Nat} (hl:l≠[]) (h:∀ x ∈ l,x<256) (hs:stepL l=some (k,o)):unescL l=(unescL (l.drop k)).map (o ++ ·):=by
  have h1:=stepL_some hl h hs
  cases l with
  | nil=>exact absurd rfl hl
  | cons x r =>
    have hd:∀ y ∈ (x :: r).drop k,y<256:=fun y hy=>h y (List.mem_of_mem_drop hy)
    unfold unescL
    rw [List.length_cons]
    simp only [unescF]
    rw [hs]
    simp only []
    rw [unescF_more hd (by rw [List.length_drop,List.length_cons];omega)]
theorem byts_lt (s:ByteArray):∀ x ∈ byts s,x<256:=by
  intro x hx
  unfold byts at hx
  simp only [List.mem_map] at hx
  obtain ⟨u,-,rfl⟩:=hx
  exact u.toNat_lt
end Go.Proofs.YtjcpamjeekfblaaGreatDoor

namespace Go.Proofs.YtjcpamjeekfblaaGreatDoor
open Go.RowKit Go.Shelf
def unS (s:ByteArray):ByteArray × Int:=if 0≤badOf s then (⟨#[]⟩,50) else match unescL (byts s) with
 | none=>(⟨#[]⟩,150)
 | some o=>(mkS o,0)
def strSz:Value→Nat
 | .string r=>r.size
 | _=>0
theorem rowT_kept {w w':World} {B n:Nat} {v:Value} {xs:List Value} (h:w.ownsRow B 5 1 v n xs) (hb:Below w.heap.size w w'):w'.ownsRow B 5 1 v n xs :=
 h.kept (grown_of_below hb) (by cases h:v.ownBlock <;> simp)
def UnR (s r:ByteArray) (o:List Nat):Prop:=unescL (byts s)=(unescL (byts r)).map (o ++ ·)∧(∀ x ∈ o,x<256)∧o.length+r.size≤s.size
theorem UnR.step {s r r':ByteArray} {o o2:List Nat} {k:Nat} (h:UnR s r o) (hr:0<r.size) (hs:stepL (byts r)=some (k,o2)) (hr':byts r'=(byts r).drop k):UnR s r' (o++o2)∧r'.size<r.size:=by
 obtain ⟨h1,h2,h3⟩:=h
 have hne:byts r≠[]:=fun e=>by
  have:=byts_length r
  rw [e] at this
  simp at this
  omega
 obtain ⟨k1,k2,k3,k4⟩:=stepL_some hne (byts_lt r) hs
 have hl:r'.size=r.size-k:=by rw [← byts_length,hr',List.length_drop,byts_length]
 rw [byts_length] at k2
 refine ⟨⟨?_,?_,?_⟩,by omega⟩
 ·rw [h1,unescL_some hne (byts_lt r) hs,hr',Option.map_map]
  congr 1
  funext x
  simp
 ·intro x hx
  rcases List.mem_append.1 hx with hx | hx
  ·exact h2 x hx
  ·exact k4 x hx
 ·rw [List.length_append]
  omega
theorem byts_from (r:ByteArray) (k:Nat):byts (r.extract k r.size)=(byts r).drop k∧(r.extract k r.size).size=r.size-k:=by
 have h:byts (r.extract k r.size)=(byts r).drop k:=by
  rw [byts_extract,List.take_of_length_le (by rw [List.length_drop,byts_length];exact Nat.le_refl _)]
 exact ⟨h,by rw [← byts_length,h,List.length_drop,byts_length]⟩
end Go.Proofs.YtjcpamjeekfblaaGreatDoor

namespace Go.Proofs.YtjcpamjeekfblaaGreatDoor
inductive QE (s:ByteArray):Nat→Nat→Prop
 | stop (p:Nat) (h:p<s.size) (hq:byteAt s p=34):QE s p p
 | esc (p e:Nat) (h:p<s.size) (hq:byteAt s p=92) (hn:QE s (p+2) e):QE s p e
 | step (p e:Nat) (h:p<s.size) (h1:byteAt s p≠34) (h2:byteAt s p≠92) (hn:QE s (p+1) e):QE s p e
theorem QE.le {s:ByteArray} {p e:Nat} (h:QE s p e):p≤e∧e<s.size:=by
 induction h with
 | stop p h hq=>exact ⟨Nat.le_refl _,h⟩
 | esc p e h hq hn ih=>exact ⟨by omega,ih.2⟩
 | step p e h h1 h2 hn ih=>exact ⟨by omega,ih.2⟩
def Txt (s:ByteArray) (i j:Nat) (T:ByteArray):Prop:=byteAt s i=34∧∃ e,QE s (i+1) e∧j=e+1∧(unS (s.extract (i+1) e)).1=T
inductive PV (s:ByteArray):Nat→Vt→Nat→Prop
 | null (i:Nat) (h:byteAt s i=110) (hl:i+4≤s.size):PV s i (.mk 1 false ⟨#[]⟩ ⟨#[]⟩ [] []) (i+4)
 | yes (i:Nat) (h:byteAt s i=116) (hl:i+4≤s.size):PV s i (.mk 2 true ⟨#[]⟩ ⟨#[]⟩ [] []) (i+4)
 | no (i:Nat) (h:byteAt s i=102) (hl:i+5≤s.size):PV s i (.mk 2 false ⟨#[]⟩ ⟨#[]⟩ [] []) (i+5)
 | text (i j:Nat) (T:ByteArray) (h:Txt s i j T):PV s i (.mk 4 false ⟨#[]⟩ T [] []) j
 | num (i j:Nat) (h:i<s.size) (hc:byteAt s i≠91∧byteAt s i≠123∧byteAt s i≠34∧byteAt s i≠110∧byteAt s i≠116∧byteAt s i≠102) (hj:(readS s i).2.1=j) (hl:i<j) (hs:j≤s.size):PV s i (.mk 3 false (s.extract i j) ⟨#[]⟩ [] []) j
 | arr (i:Nat) (vs:List Vt) (a b c:Nat→Nat) (h:byteAt s i=91) (h0:IsSkip s (i+1) (a 0))
   (hq:∀ q,q<vs.length→byteAt s (a q)≠93∧a q<s.size∧IsSkip s (if byteAt s (a q)=44 then a q+1 else a q) (b q)∧b q<s.size)
   (hv:∀ (q:Nat) (u:Vt),vs[q]? = some u→PV s (b q) u (c q)) (hs:∀ q,q<vs.length→IsSkip s (c q) (a (q+1)))
   (he:byteAt s (a vs.length)=93) (hn:a vs.length<s.size):PV s i (.mk 5 false ⟨#[]⟩ ⟨#[]⟩ [] vs) (a vs.length+1)
 | obj (i:Nat) (ks:List ByteArray) (vs:List Vt) (hkv:ks.length=vs.length) (a n m d b c:Nat→Nat) (h:byteAt s i=123) (h0:IsSkip s (i+1) (a 0))
   (hq:∀ q,q<vs.length→byteAt s (a q)≠125∧a q<s.size∧IsSkip s (if byteAt s (a q)=44 then a q+1 else a q) (n q)∧n q<s.size∧IsSkip s (m q) (d q)∧d q<s.size∧IsSkip s (d q+1) (b q)∧b q<s.size)
   (hk:∀ (q:Nat) (K:ByteArray),ks[q]? = some K→Txt s (n q) (m q) K)
   (hv:∀ (q:Nat) (u:Vt),vs[q]? = some u→PV s (b q) u (c q)) (hs:∀ q,q<vs.length→IsSkip s (c q) (a (q+1)))
   (he:byteAt s (a vs.length)=125) (hn:a vs.length<s.size):PV s i (.mk 6 false ⟨#[]⟩ ⟨#[]⟩ ks vs) (a vs.length+1)
theorem Txt.le {s:ByteArray} {i j:Nat} {T:ByteArray} (h:Txt s i j T):i<s.size∧i+2≤j∧j≤s.size:=by
 obtain ⟨h1,e,h2,rfl,-⟩:=h
 have:=h2.le
 omega
theorem PV.le {s:ByteArray} {i j:Nat} {t:Vt} (h:PV s i t j):i<s.size∧i<j∧j≤s.size:=by
 induction h with
 | null i h hl=>omega
 | yes i h hl=>omega
 | no i h hl=>omega
 | text i j T h=>have:=h.le;omega
 | num i j h hc hj hl hs=>omega
 | arr i vs a b c h h0 hq hv hs he hn ih =>
  have hi:i<s.size:=byteAt_in (by rw [h];decide)
  have hup:∀ q,q≤vs.length→i<a q:=by
   intro q
   induction q with
   | zero=>intro _;have:=h0.1;omega
   | succ q ihq =>
    intro hq1
    have h1:=ihq (by omega)
    obtain ⟨-,-,h2,-⟩:=hq q (by omega)
    have h3:=h2.1
    have h4:=ih q _ (List.getElem?_eq_getElem (show q<vs.length by omega))
    have h5:=(hs q (by omega)).1
    split at h3 <;> omega
  have:=hup vs.length (Nat.le_refl _)
  omega
 | obj i ks vs hkv a n m d b c h h0 hq hk hv hs he hn ih =>
  have hi:i<s.size:=byteAt_in (by rw [h];decide)
  have hup:∀ q,q≤vs.length→i<a q:=by
   intro q
   induction q with
   | zero=>intro _;have:=h0.1;omega
   | succ q ihq =>
    intro hq1
    have h1:=ihq (by omega)
    obtain ⟨-,-,h2,-,h6,-,h7,-⟩:=hq q (by omega)
    have h3:=h2.1
    have h8:=(hk q _ (List.getElem?_eq_getElem (show q<ks.length by omega))).le
    have h9:=h6.1
    have h10:=h7.1
    have h4:=ih q _ (List.getElem?_eq_getElem (show q<vs.length by omega))
    have h5:=(hs q (by omega)).1
    split at h3 <;> omega
  have:=hup vs.length (Nat.le_refl _)
  omega
theorem arr_len {s:ByteArray} {vs:List Vt} {a bb cc:Nat→Nat} (hq:∀ q,q<vs.length→a q≤bb q) (hv:∀ (q:Nat) (u:Vt),vs[q]? = some u→PV s (bb q) u (cc q)) (hs:∀ q,q<vs.length→IsSkip s (cc q) (a (q+1))):∀ q,q≤vs.length→q≤a q:=by
 intro q
 induction q with
 | zero=>intro _;exact Nat.zero_le _
 | succ q ih =>
  intro h
  have h1:=ih (by omega)
  have h2:=hq q (by omega)
  have h3:=(hv q _ (List.getElem?_eq_getElem (show q<vs.length by omega))).le
  have h4:=(hs q (by omega)).1
  omega
end Go.Proofs.YtjcpamjeekfblaaGreatDoor

namespace Go.Proofs.YtjcpamjeekfblaaGreatDoor
open Go.RowKit Go.Shelf
def vt0:Vt:=.mk 0 false ⟨#[]⟩ ⟨#[]⟩ [] []
def IsMem (t:Vt) (nm:ByteArray) (u:Vt) (B:Bool):Prop :=
 (B=true∧t.kind=6∧t.keys.length=t.kids.length∧∃ i:Nat,IsFst t.keys nm (i:Int)∧t.kids[i]? = some u) ∨
 (B=false∧u=vt0∧¬ (t.kind=6∧t.keys.length=t.kids.length∧∃ j:Nat,t.keys[j]? = some nm))
theorem ret_val2 {fn:Func} {p u:Tmp} {R:Ending→World→Prop} {a:Act} {w:World} {b:Nat} {cs:Array Value} (hres:fn.results = #[.cell p 59,.tmp u]) (hp:a.tmps.getD p undef = .pointer (some ⟨b,0,none⟩))
  (h:At w b cs 59) (hc:cs.size=6) (hd:a.defers=[]) (hR:R (.returned (.tuple #[.agg cs,a.tmps.getD u undef])) w):bodyPost Tryz.prog fn R .ret a w:=by
 refine bodyPost_ret (v:=.tuple #[.agg cs,a.tmps.getD u undef]) ?_ hd hR
 have hl:=run_loadVar_row (P:=Tryz.prog) w b 59 59 cs (0,0) _ h Tryz.underlying59 rfl (by rw [hc];exact sizeVl)
 rw [results_cell_tmp hres,hp]
 simp [asAddr,hl]
theorem At.six {w:World} {b:Nat} {x0 x1 x2 x3 x4 x5 y0 y1 y2 y3 y4 y5:Value} (h:At w b #[x0,x1,x2,x3,x4,x5] 59) :
  At ((((((w.setCell ⟨b,0,none⟩ y0).setCell ⟨b,1,none⟩ y1).setCell ⟨b,2,none⟩ y2).setCell ⟨b,3,none⟩ y3).setCell ⟨b,4,none⟩ y4).setCell ⟨b,5,none⟩ y5) b #[y0,y1,y2,y3,y4,y5] 59:=by
 have:=(((((h.set 0 y0).set 1 y1).set 2 y2).set 3 y3).set 4 y4).set 5 y5
 simpa using this
theorem below_six {w w':World} {n b:Nat} (h:Below n w w') (hb:n≤b) (y0 y1 y2 y3 y4 y5:Value):Below n w ((((((w'.setCell ⟨b,0,none⟩ y0).setCell ⟨b,1,none⟩ y1).setCell ⟨b,2,none⟩ y2).setCell ⟨b,3,none⟩ y3).setCell ⟨b,4,none⟩ y4).setCell ⟨b,5,none⟩ y5) :=
 (((((h.setCell hb _).setCell hb _).setCell hb _).setCell hb _).setCell hb _).setCell hb _
end Go.Proofs.YtjcpamjeekfblaaGreatDoor

namespace Go.Proofs.YtjcpamjeekfblaaGreatDoor
open Go.RowKit Go.Shelf
def takesC (b:Nat):Array Value:=#[.nilFunc,.func (.func 138) #[.pointer (some ⟨b,0,none⟩)] #[],.func (.func 139) #[.pointer (some ⟨b,0,none⟩)] #[],.func (.func 140) #[.pointer (some ⟨b,0,none⟩)] #[],.func (.func 141) #[.pointer (some ⟨b,0,none⟩)] #[],.func (.func 142) #[.pointer (some ⟨b,0,none⟩)] #[],.func (.func 143) #[.pointer (some ⟨b,0,none⟩)] #[]]
structure PaI (b g:Nat) (s:ByteArray) (i:Nat) (w:World):Prop where
 at_:At w b #[.string s,.int .i64 (i:Int),.slice (some ⟨g,0,none⟩) 7 7] 167
 tk:At w g (takesC b) 60
 ne:g≠b
structure PFr (b:Nat) (w w':World):Prop where
 os:w'.os=w.os
 tape:w'.tape=w.tape
 output:w'.output=w.output
 size:w.heap.size≤w'.heap.size
 block:∀ k,k<w.heap.size→k≠b→w'.heap[k]? = w.heap[k]?
theorem PFr.refl (b:Nat) (w:World):PFr b w w:=⟨rfl,rfl,rfl,Nat.le_refl _,fun _ _ _=>rfl⟩
theorem PFr.trans {b:Nat} {x y z:World} (h:PFr b x y) (k:PFr b y z):PFr b x z :=
 ⟨k.os.trans h.os,k.tape.trans h.tape,k.output.trans h.output,Nat.le_trans h.size k.size,fun i hi hb=>(k.block i (Nat.lt_of_lt_of_le hi h.size) hb).trans (h.block i hi hb)⟩
theorem PFr.of_below {b:Nat} {w w':World} (h:Below w.heap.size w w'):PFr b w w':=⟨h.os,h.tape,h.output,h.size,fun k hk _=>h.block k hk⟩
theorem PFr.set {b:Nat} {w w':World} (h:PFr b w w') (k:Nat) (v:Value):PFr b w (w'.setCell ⟨b,k,none⟩ v) :=
 ⟨h.os,h.tape,h.output,by simpa using h.size,fun i hi hb=>(Below.heap_setCell w' ⟨b,k,none⟩ v i hb).trans (h.block i hi hb)⟩
theorem PFr.at_ {b c:Nat} {w w':World} {cs:Array Value} {t:TypeId} (h:PFr b w w') (ha:At w c cs t) (hc:c≠b):At w' c cs t:=(h.block c ha.lt hc).trans ha
theorem PaI.kept {b g i:Nat} {s:ByteArray} {w w':World} (h:PaI b g s i w) (hb:Below w.heap.size w w'):PaI b g s i w':=⟨h.at_.keptAll hb,h.tk.keptAll hb,h.ne⟩
theorem PaI.go {b g i:Nat} {s:ByteArray} {w:World} (h:PaI b g s i w) (j:Int) (k:Nat) (hj:j=(k:Int)):PaI b g s k (w.setCell ⟨b,1,none⟩ (.int .i64 j)):=by
 subst hj
 exact ⟨by simpa using h.at_.set 1 (.int .i64 (k:Int)),h.tk.other (p:=⟨b,1,none⟩) h.ne _,h.ne⟩
theorem PaI.drew {b g i:Nat} {s:ByteArray} {w:World} (h:PaI b g s i w) (n:Nat):PaI b g s i (w.drewN n):=⟨h.at_.drewN n,h.tk.drewN n,h.ne⟩
def atP (b:Nat) (w:World):Nat:=match w.cell? ⟨b,1,none⟩ with
 | some (.int _ n)=>n.toNat
 | _=>0
theorem PaI.atP {b g i:Nat} {s:ByteArray} {w:World} (h:PaI b g s i w):atP b w=i:=by
 unfold Go.Proofs.YtjcpamjeekfblaaGreatDoor.atP
 rw [show w.cell? ⟨b,1,none⟩=some (.int .i64 (i:Int)) from h.at_.cell 1]
 simp
def kindC (c:Nat):Int:=if c=110 then 1 else if c=116∨c=102 then 2 else if c=34 then 4 else if c=91 then 5 else if c=123 then 6 else 3
set_option maxRecDepth 10000 in
set_option maxHeartbeats 4000000 in
theorem kind17_calls (c:Nat) (w:World):Calls Tryz.prog 145 #[.int .u8 (c:Int)] w fun e w'=>e = .returned (.int .i64 (kindC c))∧w'=w:=by
 unfold kindC
 by_cases h1:c=110
 ·subst h1
  go_enter Tryz.func145,Tryz.ntmps145
  go_wp2
  go_ret
  exact ⟨rfl,rfl⟩
 have e1:((c:Int) == 110)=false:=by simp;omega
 rw [if_neg h1]
 by_cases h2:c=116
 ·subst h2
  go_enter Tryz.func145,Tryz.ntmps145
  go_wp2
  go_ret
  exact ⟨rfl,rfl⟩
 have e2:((c:Int) == 116)=false:=by simp;omega
 by_cases h3:c=102
 ·subst h3
  go_enter Tryz.func145,Tryz.ntmps145
  go_wp2
  go_ret
  exact ⟨rfl,rfl⟩
 have e3:((c:Int) == 102)=false:=by simp;omega
 rw [if_neg (by omega)]
 by_cases h4:c=34
 ·subst h4
  go_enter Tryz.func145,Tryz.ntmps145
  go_wp2
  go_ret
  exact ⟨rfl,rfl⟩
 have e4:((c:Int) == 34)=false:=by simp;omega
 rw [if_neg h4]
 by_cases h5:c=91
 ·subst h5
  go_enter Tryz.func145,Tryz.ntmps145
  go_wp2
  go_ret
  exact ⟨rfl,rfl⟩
 have e5:((c:Int) == 91)=false:=by simp;omega
 rw [if_neg h5]
 by_cases h6:c=123
 ·subst h6
  go_enter Tryz.func145,Tryz.ntmps145
  go_wp2
  go_ret
  exact ⟨rfl,rfl⟩
 have e6:((c:Int) == 123)=false:=by simp;omega
 rw [if_neg h6]
 clear h1 h2 h3 h4 h5 h6
 go_enter Tryz.func145,Tryz.ntmps145
 go_wp2
 go_ret
 exact ⟨rfl,rfl⟩
set_option maxRecDepth 10000 in
set_option maxHeartbeats 4000000 in
theorem blanksP_calls (b g:Nat) (s:ByteArray) (hs:s.size≤281474976710656) (i k:Nat) (hk:Hid (IsSkip s i k)) (hks:k<s.size) (w:World) (hP:Hid (PaI b g s i w)) :
  Calls Tryz.prog 144 #[.pointer (some ⟨b,0,none⟩)] w fun e w'=>e = .returned (.tuple #[])∧PaI b g s k w'∧PFr b w w':=by
 have hsi:(s.size:Int)≤281474976710656:=by omega
 obtain ⟨k1,k2,k3,k4⟩:=hk.out
 have k3':=hid k3
 have k4':Hid (blankN (byteAt s k)=false):=by
  rcases k4 with h | h
  ·omega
  ·exact h
 clear k3 k4 hk
 have c0:w.cell? ⟨b,0,none⟩=some (.string s):=hP.out.at_.cell 0
 have c1:w.cell? ⟨b,1,none⟩=some (.int .i64 (i:Int)):=hP.out.at_.cell 1
 have his:i<s.size:=by omega
 have hii:(i:Int)<(s.size:Int):=by omega
 obtain ⟨y0,hY0⟩:∃ y,Hid (byteAt s i=y):=⟨_,rfl⟩
 have hy0:=byteAt_eq s i his
 rw [hY0.out] at hy0
 go_enter Tryz.func144,Tryz.ntmps144
 go_wp2
 go_quiet (fail)
 go_wp2_with fail
 clear c0 c1
 go_loopw [2] (fun x wr=>∃ (q y:Nat),i≤q∧q≤k∧x = .int .u8 (y:Int)∧Hid (byteAt s q=y)∧Hid (PaI b g s q wr)∧Hid (PFr b w wr)) (fun _ wr=>k-atP b wr)
 case atStart=>exact ⟨i,y0,Nat.le_refl _,k1,rfl,hY0,hid (hP.out.drew _),hid (PFr.of_below (below_drewN (Below.refl _ _) _))⟩
 case round =>
  obtain ⟨q,y,hq1,hq2,rfl,hY,hP,hF⟩:=hrel
  have hyl:y<256:=by rw [← hY.out,← byteAt_eq s q (by omega)];exact (s[q]'(by omega)).toNat_lt
  by_cases hqe:q=k
  ·subst hqe
   have hb0:blankN y=false:=by rw [← hY.out];exact k4'.out
   have hb1:¬ (y=32∨y=9∨y=10∨y=13):=by simpa [blankN] using hb0
   have e1:((y:Int) == 32)=false:=by simp;omega
   have e2:((y:Int) == 9)=false:=by simp;omega
   have e3:((y:Int) == 10)=false:=by simp;omega
   have e4:((y:Int) == 13)=false:=by simp;omega
   clear hb0 hb1
   go_wp2
   go_end0
   exact ⟨rfl,hP.out,hF.out⟩
  ·have hb0:blankN y=true:=by rw [← hY.out];exact k3'.out q hq1 (by omega)
   have hb1:y=32∨y=9∨y=10∨y=13:=by simpa [blankN] using hb0
   have hqs:q+1<s.size:=by omega
   have hqi:(q:Int)+1<(s.size:Int):=by omega
   obtain ⟨y1,hY1⟩:∃ y,Hid (byteAt s (q+1)=y):=⟨_,rfl⟩
   have hy1:=byteAt_eq s (q+1) hqs
   rw [hY1.out] at hy1
   have c0:wr.cell? ⟨b,0,none⟩=some (.string s):=hP.out.at_.cell 0
   have c1:wr.cell? ⟨b,1,none⟩=some (.int .i64 (q:Int)):=hP.out.at_.cell 1
   have f1:=hP.out.at_.frozen 1
   have P2:=hid (hP.out.go ((q:Int)+1) (q+1) (by omega))
   have F2:=hid (hF.out.set 1 (.int .i64 ((q:Int)+1)))
   have hat:=hid (hP.out.atP)
   clear hb0 hP hF
   rcases hb1 with rfl | rfl | rfl | rfl
   all_goals
    go_upto_region 2 with fail
    generalize wr.setCell ⟨b,1,none⟩ (.int .i64 ((q:Int)+1))=w2 at P2 F2 ⊢
    have d0:w2.cell? ⟨b,0,none⟩=some (.string s):=P2.out.at_.cell 0
    have d1:w2.cell? ⟨b,1,none⟩=some (.int .i64 ((q:Int)+1)):=by have:=P2.out.at_.cell 1;push_cast at this;exact this
    go_quiet (fail)
    go_wp2
    go_roundw
    case rel=>exact ⟨q+1,y1,by omega,by omega,rfl,hY1,hid (P2.out.drew _),hid (F2.out.trans (PFr.of_below (below_drewN (Below.refl _ _) _)))⟩
    case measure=>rw [hat.out,(P2.out.drew _).atP];omega
end Go.Proofs.YtjcpamjeekfblaaGreatDoor

namespace Go.Proofs.YtjcpamjeekfblaaGreatDoor
def hexC (d:Nat):Nat:=if d<10 then 48+d else 87+d
def oneL (c:Nat):List Nat :=
 if c=34 then [92,34] else if c=92 then [92,92] else if c=8 then [92,98] else if c=12 then [92,102] else if c=10 then [92,110] else if c=13 then [92,114] else if c=9 then [92,116]
 else if c<32 then [92,117,48,48,hexC (c / 16),hexC (c % 16)] else [c]
end Go.Proofs.YtjcpamjeekfblaaGreatDoor
