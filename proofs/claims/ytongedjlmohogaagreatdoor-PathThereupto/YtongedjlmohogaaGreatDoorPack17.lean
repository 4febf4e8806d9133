/-
  Texts of mine that others lean on, one behind the other.
-/
import Derived.Test.YtongedjlmohogaaGreatDoorPack16
import Derived.Test.YtongedjlmohogaaGreatDoorPack7
import Derived.Test.YtongedjlmohogaaGreatDoorPack11
import Derived.Test.YtongedjlmohogaaGreatDoorPack10
import Derived.Test.YtongedjlmohogaaGreatDoorPack9
import Derived.Deep.DeepCutAuto
import Derived.Deep.RegionHeld
import Derived.BigQuiet
namespace Go.Proofs.YtongedjlmohogaaGreatDoor
open Go.RowKit Go.Shelf
theorem isEnd_at {u:ByteArray} {k n:Nat} (hk:k≤u.size) (h:IsEnd (u.extract k u.size) 0 (n:Nat) 0):IsEnd u (k:Nat) ((k+n:Nat)) 0:=by
 rcases h with ⟨h,-,-⟩ | ⟨k',hk',-,⟨i,h1,h2,h3,h4,h5,-⟩ | ⟨-,-,h⟩⟩
 ·omega
 ·obtain rfl:k'=0:=by omega
  have hsz:(u.extract k u.size).size=u.size-k:=by rw [ByteArray.size_extract];omega
  have hex:(u.extract k u.size).extract 0 (u.extract k u.size).size=u.extract k u.size:=by
   apply byts_inj
   rw [(byts_from _ 0).1,List.drop_zero]
  rw [hex] at h3
  rw [hsz] at h1
  rw [Nat.zero_add,bAt_from] at h2
  rw [Nat.zero_add] at h5
  obtain rfl:n=i:=Int.ofNat_inj.1 h5
  refine .inr ⟨k,rfl,hk,.inl ⟨n,h1,h2,h3,fun j hj=>?_,rfl,rfl⟩⟩
  have h6:=h4 j hj
  rw [hex,Nat.zero_add,bAt_from] at h6
  exact h6
 ·cases h
theorem byts_cut {u:ByteArray} {a:Nat} {l r:List Nat} (h:(byts u).drop a=l++r):byts (u.extract a (a+l.length))=l:=by
 rw [byts_extract,h,show a+l.length-a=l.length by omega,List.take_left]
theorem qt_read {u s:ByteArray} {a:Nat} {rest:List Nat} (hb:badOf s = -1) (hu:(byts u).drop a=34 :: ((byts s).flatMap oneL++34 :: rest)):IsQt u a (some ⟨1,s,0⟩) (a+((byts s).flatMap oneL).length+2):=by
 have hub:unescL ((byts s).flatMap oneL)=some (byts s):=unesc_esc (byts_lt s)
 have hl:∀ x ∈ (byts s).flatMap oneL,x<256:=by
  intro x hx
  obtain ⟨c,hc,hx⟩:=List.mem_flatMap.1 hx
  exact (oneL_lt (byts_lt s c hc)).1 x hx
 have hok:badOf (mkS ((byts s).flatMap oneL)) = -1:=ok_bad (by rw [byts_mkS hl];exact esc_ok (bad_ok (by omega)))
 obtain ⟨k,hk,h5,hop⟩:=esc_doc hb
 have hq:=qe_run (byts s)
 have hbl:=byts_lt s
 generalize hF:(byts s).flatMap oneL=F at *
 have hsz:a+F.length+2≤u.size:=by
  have:=congrArg List.length hu
  rw [List.length_drop,byts_length,List.length_cons,List.length_append,List.length_cons] at this
  omega
 have hu1:(byts u).drop (a+1)=F++34 :: rest:=by rw [← List.drop_drop,hu];rfl
 have hsub:byts (u.extract a (a+F.length+2))=34 :: (F++[34]):=by
  have h:=byts_cut (u:=u) (a:=a) (l:=34 :: (F++[34])) (r:=rest) (by rw [hu];simp)
  rw [show a+(34 :: (F++[34])).length=a+F.length+2 by simp;omega] at h
  exact h
 have hss:(u.extract a (a+F.length+2)).size=F.length+2:=by rw [← byts_length,hsub];simp
 have h34:byteAt (u.extract a (a+F.length+2)) 0=34:=byts_byteAt (by rw [hsub];rfl)
 refine ⟨a+F.length+2,⟨((a+1+F.length:Nat):Int),0,isEnd_at (by omega) ?_,.inl ⟨rfl,by omega⟩⟩,1,(u.extract a (a+F.length+2)).size,0,.mk 4 false ⟨#[]⟩ s [] [],chk_q hsub hk h5 hop,.inl ⟨rfl,0,F.length+2,⟨Nat.le_refl _,Nat.zero_le _,fun q h1 h2=>by omega,.inr (by rw [h34];decide)⟩,.text 0 (F.length+2) s ⟨h34,1+F.length,?_,by omega,?_⟩⟩,.inl ⟨rfl,rfl,rfl⟩⟩
 ·exact end_right (b:=rest) (by rw [(byts_from u (a+1)).1];exact hu1) hl hub
 ·have h:=hq (u.extract a (a+F.length+2)) 1 [] hbl (by rw [hsub];rfl)
  exact h
 ·have hr:byts ((u.extract a (a+F.length+2)).extract (0+1) (1+F.length))=F:=by
   have h:=byts_cut (u:=u.extract a (a+F.length+2)) (a:=1) (l:=F) (r:=[34]) (by rw [hsub];rfl)
   exact h
  have hm:(u.extract a (a+F.length+2)).extract (0+1) (1+F.length)=mkS F:=byts_inj (by rw [hr,byts_mkS hl])
  rw [hm]
  unfold unS
  rw [hok,if_neg (by decide),byts_mkS hl,hub]
  exact mkS_byts s
end Go.Proofs.YtongedjlmohogaaGreatDoor

namespace Go.Proofs.YtongedjlmohogaaGreatDoor
open Go.RowKit Go.Shelf
def Cn22 (s:Stp):Prop:=(s.kind=1∧s.place=0)∨(s.kind=2∧s.name=⟨#[]⟩)∨(s.kind=3∧s.name=⟨#[]⟩∧s.place=0)
theorem Cn22.iface {s:Stp} (h:Cn22 s):∃ tt vv,ifV s = .iface tt vv:=by
 obtain ⟨k,n,p⟩:=s
 rcases h with ⟨h,-⟩ | ⟨h,-⟩ | ⟨h,-,-⟩ <;> (dsimp only at h;subst h)
 ·exact ⟨85,.string n,rfl⟩
 ·exact ⟨87,.int .i64 p,rfl⟩
 ·exact ⟨89,.agg #[],rfl⟩
def Rd22 (s:ByteArray) (a:Nat) (o:Option Stp) (e:Nat):Prop:=e≤s.size∧a≤e∧∀ x,o=some x→a<e∧Cn22 x
def IsBare (s:ByteArray) (a:Nat) (o:Option Stp) (e:Nat):Prop :=
 (hasB s a 34=true∧IsQt s a o e)∨(hasB s a 34=false∧hasB s a 42=true∧(o,e)=starF s a)∨(hasB s a 34=false∧hasB s a 42=false∧∃ n,IsNm s a n∧o=nmF s a n∧e=n)
theorem has_lt {s:ByteArray} {a x:Nat} (h:hasB s a x=true):a<s.size:=by
 unfold hasB at h
 exact of_decide_eq_true (Bool.and_eq_true_iff.1 h).1
theorem IsQt.cn {s:ByteArray} {a e:Nat} {o:Option Stp} (h:IsQt s a o e) (x:Stp) (hx:o=some x):Cn22 x:=by
 obtain ⟨z,-,C,A,E,t,-,-,h⟩:=h
 rcases h with ⟨-,h,-⟩ | ⟨-,h,-⟩
 ·rw [h] at hx
  cases hx
  exact .inl ⟨rfl,rfl⟩
 ·rw [h] at hx;cases hx
theorem star_rd {s:ByteArray} {a:Nat} (ha:a≤s.size):Rd22 s a (starF s a).1 (starF s a).2:=by
 unfold starF
 by_cases h:hasB s a 42
 ·rw [if_pos h]
  have:=has_lt h
  refine ⟨by dsimp only;omega,by dsimp only;omega,fun x hx=>?_⟩
  cases hx
  exact ⟨by dsimp only;omega,.inr (.inr ⟨rfl,rfl,rfl⟩)⟩
 ·rw [if_neg h]
  exact ⟨ha,Nat.le_refl _,fun x hx=>by cases hx⟩
theorem IsBare.rd {s:ByteArray} {a e:Nat} {o:Option Stp} (h:IsBare s a o e) (ha:a≤s.size):Rd22 s a o e:=by
 rcases h with ⟨h1,h⟩ | ⟨-,-,h⟩ | ⟨-,-,n,hn,h1,h2⟩
 ·have hl:=has_lt h1
  obtain ⟨b,c,d⟩:=h.le hl
  exact ⟨b,c,fun x hx=>⟨d (by rw [hx];simp),h.cn x hx⟩⟩
 ·have:=star_rd (s:=s) ha
  rw [← h] at this
  exact this
 ·subst h1 h2
  refine ⟨hn.2.1,hn.1,fun x hx=>?_⟩
  unfold nmF at hx
  by_cases q:a<e
  ·rw [if_pos q] at hx
   cases hx
   exact ⟨q,.inr (.inl ⟨rfl,rfl⟩)⟩
  ·rw [if_neg q] at hx;cases hx
set_option maxRecDepth 10000 in
set_option maxHeartbeats 4000000 in
theorem bare22_calls (s:ByteArray) (hs:s.size≤8388608) (a:Nat) (ha:a≤s.size) (w:World):Calls Tryz.prog 63 #[.string s,.int .i64 (a:Int)] w fun e w'=>(∃ o x,e = .returned (.tuple #[ifO o,.int .i64 ((x:Nat):Int)])∧IsBare s a o x)∧Below w.heap.size w w':=by
 have h34:=hid (fun u=>has22_calls s a 34 u)
 have h42:=hid (fun u=>has22_calls s a 42 u)
 cases e34:hasB s a 34 with
 | true =>
  have e34':=hid e34
  have hq:=hid (fun u=>quoted22_calls s hs a (has_lt e34) u)
  rw [e34] at h34
  clear e34 h42
  go_enter Tryz.func63,Tryz.ntmps63
  go_wp2_with fail
  refine Calls.mono (h34.out _) ?_
  rintro e w1 ⟨rfl,b1⟩
  have B1:=hid b1
  clear b1 h34
  go_wp2_with fail
  refine Calls.mono (hq.out _) ?_
  rintro e w2 ⟨⟨o,x,rfl,hQ⟩,b2⟩
  have B2:=hid (B1.out.trans (b2.mono B1.out.size))
  have hQ':=hid hQ
  clear b2 hq hQ
  generalize hX:ifO o=X
  have hX':=hid hX
  clear hX
  go_wp2_with fail
  go_ret2
  exact ⟨⟨o,x,by rw [hX'.out];rfl,.inl ⟨e34'.out,hQ'.out⟩⟩,B2.out⟩
 | false =>
  have e34':=hid e34
  rw [e34] at h34
  clear e34
  cases e42:hasB s a 42 with
  | true =>
   have e42':=hid e42
   have hq:=hid (fun u=>star22_calls s (by omega) a u)
   rw [e42] at h42
   clear e42
   go_enter Tryz.func63,Tryz.ntmps63
   go_wp2_with fail
   refine Calls.mono (h34.out _) ?_
   rintro e w1 ⟨rfl,b1⟩
   have B1:=hid b1
   clear b1 h34
   go_wp2_with fail
   refine Calls.mono (h42.out _) ?_
   rintro e w1' ⟨rfl,b1⟩
   have B1':=hid (B1.out.trans (b1.mono B1.out.size))
   clear b1 h42 B1
   go_wp2_with fail
   refine Calls.mono (hq.out _) ?_
   rintro e w2 ⟨rfl,b2⟩
   have B2:=hid (B1'.out.trans (b2.mono B1'.out.size))
   clear b2 hq
   generalize hx:starF s a=ox
   have hx':=hid hx
   clear hx
   obtain ⟨o,x⟩:=ox
   dsimp only
   generalize hX:ifO o=X
   have hX':=hid hX
   clear hX
   go_wp2_with fail
   go_ret2
   exact ⟨⟨o,x,by rw [hX'.out];rfl,.inr (.inl ⟨e34'.out,e42'.out,hx'.out.symm⟩)⟩,B2.out⟩
  | false =>
   have e42':=hid e42
   obtain ⟨n,hn⟩:=nm_ex s a ha
   have hn':=hid hn
   have hq:=hid (fun u=>number22_calls s (by omega) a ha n hn' u)
   rw [e42] at h42
   clear e42 hn
   generalize hX:nmF s a n=o at hq
   have hX':=hid hX
   clear hX
   go_enter Tryz.func63,Tryz.ntmps63
   go_wp2_with fail
   refine Calls.mono (h34.out _) ?_
   rintro e w1 ⟨rfl,b1⟩
   have B1:=hid b1
   clear b1 h34
   go_wp2_with fail
   refine Calls.mono (h42.out _) ?_
   rintro e w1' ⟨rfl,b1⟩
   have B1':=hid (B1.out.trans (b1.mono B1.out.size))
   clear b1 h42 B1
   go_wp2_with fail
   refine Calls.mono (hq.out _) ?_
   rintro e w2 ⟨rfl,b2⟩
   have B2:=hid (B1'.out.trans (b2.mono B1'.out.size))
   clear b2 hq
   generalize hY:ifO o=Y
   have hY':=hid hY
   clear hY
   go_wp2_with fail
   go_ret2
   exact ⟨⟨o,n,by rw [hY'.out];rfl,.inr (.inr ⟨e34'.out,e42'.out,n,hn'.out,hX'.out.symm,rfl⟩)⟩,B2.out⟩
def IsBr (s:ByteArray) (a:Nat) (o:Option Stp) (e:Nat):Prop:=∃ o' e',IsBare s a o' e'∧(((o'=none∨hasB s e' 93=false)∧o=none∧e=e')∨(hasB s e' 93=true∧o'≠none∧o=o'∧e=e'+1))
theorem IsBr.rd {s:ByteArray} {a e:Nat} {o:Option Stp} (h:IsBr s a o e) (ha:a≤s.size):Rd22 s a o e:=by
 obtain ⟨o',e',hb,h⟩:=h
 obtain ⟨h1,h2,h3⟩:=hb.rd ha
 rcases h with ⟨-,rfl,rfl⟩ | ⟨h4,-,rfl,rfl⟩
 ·exact ⟨h1,h2,fun x hx=>by cases hx⟩
 ·have:=has_lt h4
  exact ⟨by omega,by omega,fun x hx=>⟨by omega,(h3 x hx).2⟩⟩
set_option maxRecDepth 10000 in
set_option maxHeartbeats 4000000 in
theorem inBr22_calls (s:ByteArray) (hs:s.size≤8388608) (a:Nat) (ha:a≤s.size) (w:World):Calls Tryz.prog 39 #[.string s,.int .i64 (a:Int)] w fun e w'=>(∃ o x,e = .returned (.tuple #[ifO o,.int .i64 ((x:Nat):Int)])∧IsBr s a o x)∧Below w.heap.size w w':=by
 have hba:=hid (fun u=>bare22_calls s hs a ha u)
 have h93:=hid (fun x u=>has22_calls s x 93 u)
 go_enter Tryz.func39,Tryz.ntmps39
 go_wp2_with fail
 refine Calls.mono (hba.out _) ?_
 rintro e w1 ⟨⟨o,x,rfl,hB⟩,b1⟩
 have B1:=hid b1
 have hB':=hid hB
 obtain ⟨hx1,hx2,hx3⟩:=hB.rd ha
 have hx3':=hid hx3
 have hxi:(x:Int)≤(s.size:Int):=by omega
 have hsi:(s.size:Int)≤8388608:=by omega
 clear b1 hba hB hx3
 cases o with
 | none =>
  rw [show ifO none = .nilIface from rfl]
  go_wp2_with fail
  go_ret2
  exact ⟨⟨none,x,rfl,none,x,hB'.out,.inl ⟨.inl rfl,rfl,rfl⟩⟩,B1.out⟩
 | some st =>
  obtain ⟨tt,vv,hv⟩:=(hx3'.out st rfl).2.iface
  have hv':Hid (ifO (some st) = .iface tt vv):=hid hv
  clear hv
  rw [hv'.out]
  cases e93:hasB s x 93 with
  | true =>
   have h:=hid (fun u=>h93.out x u)
   rw [e93] at h
   have e93':=hid e93
   have hlt:=has_lt e93
   have hlti:(x:Int)<(s.size:Int):=by omega
   clear e93 h93
   go_wp2_with fail
   refine Calls.mono (h.out _) ?_
   rintro e w2 ⟨rfl,b2⟩
   have B2:=hid (B1.out.trans (b2.mono B1.out.size))
   clear b2 h
   go_wp2_with fail
   go_ret2
   exact ⟨⟨some st,x+1,by rw [hv'.out];rfl,some st,x,hB'.out,.inr ⟨e93'.out,by simp,rfl,rfl⟩⟩,B2.out⟩
  | false =>
   have h:=hid (fun u=>h93.out x u)
   rw [e93] at h
   have e93':=hid e93
   clear e93 h93
   go_wp2_with fail
   refine Calls.mono (h.out _) ?_
   rintro e w2 ⟨rfl,b2⟩
   have B2:=hid (B1.out.trans (b2.mono B1.out.size))
   clear b2 h
   go_wp2_with fail
   go_ret2
   exact ⟨⟨none,x,rfl,some st,x,hB'.out,.inl ⟨.inr e93'.out,rfl,rfl⟩⟩,B2.out⟩
end Go.Proofs.YtongedjlmohogaaGreatDoor

namespace Go.Proofs.YtongedjlmohogaaGreatDoor
open Go.RowKit Go.Shelf
def IsRead (s:ByteArray) (a:Nat) (o:Option Stp) (e:Nat):Prop :=
 (lk s a=46∧∃ n,IsWd (s.extract (a+1) s.size) n∧o=(bpF s (a+1) n).1∧e=(bpF s (a+1) n).2)∨(lk s a=91∧IsBr s (a+1) o e)∨((lk s a≠46∧lk s a≠91)∧o=none∧e=a)
theorem bp_rd {s:ByteArray} {a n:Nat} (ha:a≤s.size) (hn:IsWd (s.extract a s.size) n):Rd22 s a (bpF s a n).1 (bpF s a n).2:=by
 have h1:=hn.1
 rw [ByteArray.size_extract] at h1
 unfold bpF
 by_cases h:0<n
 ·rw [if_pos h]
  exact ⟨by dsimp only;omega,by dsimp only;omega,fun x hx=>by cases hx;exact ⟨by dsimp only;omega,.inl ⟨rfl,rfl⟩⟩⟩
 ·rw [if_neg h]
  exact star_rd ha
theorem IsRead.rd {s:ByteArray} {a e:Nat} {o:Option Stp} (h:IsRead s a o e) (ha:a<s.size):Rd22 s a o e:=by
 have up:Rd22 s (a+1) o e→Rd22 s a o e:=fun ⟨b,c,d⟩=>⟨b,by omega,fun x hx=>⟨by have:=(d x hx).1;omega,(d x hx).2⟩⟩
 rcases h with ⟨-,n,hn,rfl,rfl⟩ | ⟨-,h⟩ | ⟨-,rfl,rfl⟩
 ·exact up (bp_rd (by omega) hn)
 ·exact up (h.rd (by omega))
 ·exact ⟨by omega,Nat.le_refl _,fun x hx=>by cases hx⟩
set_option maxRecDepth 10000 in
set_option maxHeartbeats 4000000 in
theorem read22_calls (s:ByteArray) (hs:s.size≤8388608) (a:Nat) (ha:a<s.size) (w:World):Calls Tryz.prog 21 #[.string s,.int .i64 (a:Int)] w fun e w'=>(∃ o x,e = .returned (.tuple #[ifO o,.int .i64 ((x:Nat):Int)])∧IsRead s a o x)∧Below w.heap.size w w':=by
 have hsi:(s.size:Int)≤8388608:=by omega
 have hai:(a:Int)<(s.size:Int):=by omega
 have e1:=lk_at s a ha
 by_cases h46:lk s a=46
 ·have h46':=hid h46
  obtain ⟨n,hn⟩:=wd_ex (s.extract (a+1) s.size)
  have hn':=hid hn
  have hq:=hid (fun u=>behind22_calls s (by omega) (a+1) (by omega) n hn' u)
  generalize hX:bpF s (a+1) n=ox at hq
  have hX':=hid hX
  obtain ⟨o,x⟩:=ox
  dsimp only at hq
  have c1:((s[a]'ha).toNat:Int)=46:=by rw [← e1,h46];rfl
  have c2:(s[a]'ha).toNat=46:=by omega
  clear hn hX e1 h46 c1
  generalize hY:ifO o=Y at hq
  have hY':=hid hY
  clear hY
  go_enter Tryz.func21,Tryz.ntmps21
  go_wp2_with fail
  refine Calls.mono (hq.out _) ?_
  rintro e w2 ⟨rfl,b2⟩
  have B2:=hid b2
  clear b2 hq
  go_wp2_with fail
  go_ret2
  exact ⟨⟨o,x,by rw [hY'.out];rfl,.inl ⟨h46'.out,n,hn'.out,by rw [hX'.out],by rw [hX'.out]⟩⟩,B2.out⟩
 ·by_cases h91:lk s a=91
  ·have h91':=hid h91
   have hq:=hid (fun u=>inBr22_calls s hs (a+1) (by omega) u)
   have c2:(s[a]'ha).toNat=91:=by rw [← e1,h91]
   clear e1 h46 h91
   go_enter Tryz.func21,Tryz.ntmps21
   go_wp2_with fail
   refine Calls.mono (hq.out _) ?_
   rintro e w2 ⟨⟨o,x,rfl,hB⟩,b2⟩
   have B2:=hid b2
   have hB':=hid hB
   clear b2 hq hB
   generalize hY:ifO o=Y
   have hY':=hid hY
   clear hY
   go_wp2_with fail
   go_ret2
   exact ⟨⟨o,x,by rw [hY'.out];rfl,.inr (.inl ⟨h91'.out,hB'.out⟩)⟩,B2.out⟩
  ·have hh:=hid (And.intro h46 h91)
   rw [e1] at h46 h91
   have c1:(((s[a]'ha).toNat:Int) == 46)=false:=beq_eq_false_iff_ne.2 (by omega)
   have c2:(((s[a]'ha).toNat:Int) == 91)=false:=beq_eq_false_iff_ne.2 (by omega)
   clear e1 h46 h91
   go_enter Tryz.func21,Tryz.ntmps21
   go_wp2_with fail
   go_ret2
   exact ⟨⟨none,a,rfl,.inr (.inr ⟨hh.out,rfl,rfl⟩)⟩,by exact bw⟩
end Go.Proofs.YtongedjlmohogaaGreatDoor

namespace Go.Proofs.YtongedjlmohogaaGreatDoor
open Go.RowKit Go.Shelf
def stCs (s:Stp):List Value:=[.int .i64 s.kind,.string s.name,.int .i64 s.place]
theorem infoStp:(Tryz.prog.info? 34).map (fun i=>(i.zero,i.size,i.bytes))=some (some (.agg #[.int .i64 0,.string ⟨#[]⟩,.int .i64 0]),3,32):=by kernel_rfl
theorem stCs_get:∀ (ss:List Stp) (i:Nat) (s:Stp) (j:Nat),ss[i]? = some s→j<3→(ss.flatMap stCs)[i*3+j]? = (stCs s)[j]?
 | [],i,s,j,h,_=>by simp at h
 | x :: ss,0,s,j,h,hj=>by
  simp at h
  subst h
  rw [List.flatMap_cons,List.getElem?_append_left (by simp [stCs];omega),Nat.zero_mul,Nat.zero_add]
 | x :: ss,i+1,s,j,h,hj=>by
  rw [List.flatMap_cons,List.getElem?_append_right (by simp [stCs];omega)]
  have:=stCs_get ss i s j (by simpa using h) hj
  rw [← this]
  congr 1
  simp [stCs]
  omega
def StG (B:Nat) (w:World) (v:Value) (ss:List Stp):Prop:=w.ownsRow B 34 3 v ss.length (ss.flatMap stCs)∧∀ (i:Nat) (s:Stp),ss[i]? = some s→s.name.size≤capT
section
variable {B:Nat} {W W':World} {v:Value} {ss:List Stp}
theorem StG.nil (B:Nat) (W:World):StG B W (.slice none 0 0) []:=⟨by simpa using World.ownsRow_nil W B 34 3,fun i s h=>by simp at h⟩
theorem StG.kept (h:StG B W v ss) (hs:SameOn (fun c=>B≤c) W W'):StG B W' v ss:=⟨own_on h.1 (fun g _ hg hl=>hs.2 g hg hl),h.2⟩
theorem StG.keptB (h:StG B W v ss) (hb:Below W.heap.size W W'):StG B W' v ss:=h.kept (SameOn.below hb)
theorem StG.shape (h:StG B W v ss):∃ so cap,v = .slice so ss.length cap:=own_shape h.1
theorem StG.blk (h:StG B W v ss) {g:Nat} (hg:v.ownBlock=some g):B≤g∧g<W.heap.size:=h.1.lt g hg
theorem StG.row {vo:Option Addr} {n vc:Nat} (h:StG B W (.slice vo n vc) ss):n=ss.length∧StepsAt W vo ss:=by
 obtain ⟨h1,h2⟩:=h
 obtain ⟨so,cap,e⟩:=own_shape h1
 cases e
 refine ⟨rfl,fun i s hi=>⟨h2 i s hi,?_⟩⟩
 have hl:=(List.getElem?_eq_some_iff.1 hi).1
 rcases h1.2 with ⟨e,h0⟩ | ⟨g,cap,cur,e,hb,hg,-⟩
 ·omega
 ·cases e
  refine ⟨g,0,rfl,(h1.lt g rfl).2,?_⟩
  intro j y hj
  have hj3:j<3:=by have:=(List.getElem?_eq_some_iff.1 hj).1;simpa using this
  have:=h1.cellAt (i*3+j) (by omega)
  show W.cell? ⟨g,0+i*3+j,none⟩=some y
  rw [show 0+i*3+j=i*3+j by omega,this,stCs_get ss i s j hi hj3]
  exact hj
theorem StG.app {u:Stp} {ty:TypeId} (h:StG B W v ss) (hu:u.name.size≤capT) (ad:Addr) (c:Nat) (hC:∀ (j:Nat) (y:Value),(stCs u)[j]? = some y→W.cell? (ad.add j)=some y) (hn:ss.length<1099511627776) (hB:B≤W.heap.size) :
  ∃ v' W',(Builtin.append_ #[22,22] ty #[v,.slice (some ad) 1 c]).run Tryz.prog W = .ok v' W'∧StG B W' v' (ss++[u])∧W.grownBy W' v.ownBlock:=by
 obtain ⟨h1,h2⟩:=h
 obtain ⟨i0,hi,hz0,hz1,hz2⟩:=info_partsV infoStp
 obtain ⟨v',W',hr,r1,r2⟩:=appendV (P:=Tryz.prog) (ty:=ty) Tryz.underlying22 hi hz0 hz1 hz2 rfl (by decide) h1 ad 1 c (stCs u) (by simp [stCs]) hC (by simp [stCs];exact ⟨rfl,rfl,rfl⟩) (by unfold maxLen;omega) (by omega) hB
 refine ⟨v',W',hr,⟨?_,?_⟩,?_⟩
 ·rw [List.length_append,List.length_singleton,List.flatMap_append,List.flatMap_cons,List.flatMap_nil,List.append_nil]
  exact r1
 ·intro i s hs
  by_cases e:i=ss.length
  ·subst e
   rw [List.getElem?_append_right (Nat.le_refl _)] at hs
   simp at hs
   subst hs
   exact hu
  ·have hl:=(List.getElem?_eq_some_iff.1 hs).1
   rw [List.length_append,List.length_singleton] at hl
   rw [List.getElem?_append_left (by omega)] at hs
   exact h2 i s hs
 ·rcases r2 with ⟨g,cap,rfl,rfl,hg⟩ | ⟨-,hg⟩
  ·exact hg
  ·exact grown_weaken hg
end
end Go.Proofs.YtongedjlmohogaaGreatDoor

namespace Go.Proofs.YtongedjlmohogaaGreatDoor
open Go.RowKit Go.Shelf
structure WrF (m:Nat) (w w':World):Prop where
 low:Below m w w'
 at_:∀ b cs t,b≠m→t≠5→At w b cs t→At w' b cs t
theorem WrF.refl (m:Nat) (w:World):WrF m w w:=⟨Below.refl _ _,fun _ _ _ _ _ h=>h⟩
theorem WrF.trans {m:Nat} {x y z:World} (h:WrF m x y) (k:WrF m y z):WrF m x z:=⟨h.low.trans k.low,fun b cs t h1 h2 h3=>k.at_ b cs t h1 h2 (h.at_ b cs t h1 h2 h3)⟩
theorem WrF.of_below {m:Nat} {w w':World} (hb:Below w.heap.size w w') (hm:m≤w.heap.size):WrF m w w':=⟨hb.mono hm,fun _ _ _ _ _ h=>h.keptAll hb⟩
theorem WrF.set {m:Nat} {w:World} (k:Nat) (v:Value):WrF m w (w.setCell ⟨m,k,none⟩ v):=⟨(Below.refl _ _).setCell (p:=⟨m,k,none⟩) (Nat.le_refl _) _,fun _ _ _ h1 _ h3=>h3.other (p:=⟨m,k,none⟩) h1 v⟩
section
variable {W W':World} {m B:Nat} {cl ln:ByteArray} {ix:Int} {l:List UInt8}
end
end Go.Proofs.YtongedjlmohogaaGreatDoor

namespace Go.Proofs.YtongedjlmohogaaGreatDoor
open Go.RowKit Go.Shelf
theorem upon_method {P:Program} {o:Oper} {a:Act} {K:Act→World→Prop} {Q:Exit→Act→World→Prop} {n:Nat} {t:TypeId} {x v:Value} {nm:String} {w:World} {f:FuncId} (h:(method n t x nm).run P w = .ok (f,v) w) (g:Oper.upon P o a K Q ((callFunc f #[v]).run P w)) :
  Oper.upon P o a K Q (((method n t x nm).run P w).andThen fun a w'=>(callFunc a.fst #[a.snd]).run P w'):=by
 rw [h]
 exact g
end Go.Proofs.YtongedjlmohogaaGreatDoor
