/-
  Texts of mine that others lean on, one behind the other.
-/
import Derived.Test.YtongedjlmohogaaGreatDoorPack7
import Derived.Test.YtongedjlmohogaaGreatDoorPack15
import Derived.Test.YtongedjlmohogaaGreatDoorPack8
import Derived.Test.YtongedjlmohogaaGreatDoorPack14
import Derived.Test.YtongedjlmohogaaGreatDoorPack10
import Derived.Test.YtongedjlmohogaaGreatDoorPack6
namespace Go.Proofs.YtongedjlmohogaaGreatDoor
open Go.RowKit Go.Shelf
def ltrB (c:Nat):Bool:=decide (97≤c∧c≤122) || (decide (65≤c∧c≤90) || decide (c=95))
def dgtB (c:Nat):Bool:=decide (48≤c∧c≤57)
set_option maxRecDepth 10000 in
set_option maxHeartbeats 4000000 in
theorem letter22_calls (c:Nat) (w:World):Calls Tryz.prog 78 #[.int .u8 (c:Int)] w fun e w'=>e = .returned (.bool (ltrB c))∧Below w.heap.size w w':=by
 by_cases h1:97≤c
 ·by_cases h2:c≤122
  ·have e:ltrB c=true:=by unfold ltrB;rw [decide_eq_true (⟨h1,h2⟩:97≤c∧c≤122)];rfl
   rw [e]
   have ff:decide ((97:Int)≤(c:Int))=true:=decide_eq_true (by omega)
   have ff:decide ((c:Int)≤(122:Int))=true:=decide_eq_true (by omega)
   have ff:decide ((65:Int)≤(c:Int))=true:=decide_eq_true (by omega)
   have ff:decide ((c:Int)≤(90:Int))=false:=decide_eq_false (by omega)
   go_enter Tryz.func78,Tryz.ntmps78
   go_wp2
   go_ret
   exact ⟨rfl,by exact bw⟩
  ·have e:ltrB c=false:=by unfold ltrB;simp;omega
   have h3:¬ c≤90:=by omega
   have h4:65≤c:=by omega
   have h5:((c:Int) == 95)=false:=beq_eq_false_iff_ne.2 (by omega)
   rw [e]
   have ff:decide ((97:Int)≤(c:Int))=true:=decide_eq_true (by omega)
   have ff:decide ((c:Int)≤(122:Int))=false:=decide_eq_false (by omega)
   have ff:decide ((65:Int)≤(c:Int))=true:=decide_eq_true (by omega)
   have ff:decide ((c:Int)≤(90:Int))=false:=decide_eq_false (by omega)
   go_enter Tryz.func78,Tryz.ntmps78
   go_wp2
   go_ret
   exact ⟨rfl,by exact bw⟩
 ·by_cases h2:65≤c
  ·by_cases h3:c≤90
   ·have e:ltrB c=true:=by unfold ltrB;simp;omega
    rw [e]
    have ff:decide ((97:Int)≤(c:Int))=false:=decide_eq_false (by omega)
    have ff:decide ((c:Int)≤(122:Int))=true:=decide_eq_true (by omega)
    have ff:decide ((65:Int)≤(c:Int))=true:=decide_eq_true (by omega)
    have ff:decide ((c:Int)≤(90:Int))=true:=decide_eq_true (by omega)
    go_enter Tryz.func78,Tryz.ntmps78
    go_wp2
    go_ret
    exact ⟨rfl,by exact bw⟩
   ·by_cases h4:c=95
    ·subst h4
     go_enter Tryz.func78,Tryz.ntmps78
     go_wp2
     go_ret
     exact ⟨rfl,by exact bw⟩
    ·have e:ltrB c=false:=by unfold ltrB;simp;omega
     have h5:((c:Int) == 95)=false:=beq_eq_false_iff_ne.2 (by omega)
     rw [e]
     clear h4
     have ff:decide ((97:Int)≤(c:Int))=false:=decide_eq_false (by omega)
     have ff:decide ((c:Int)≤(122:Int))=true:=decide_eq_true (by omega)
     have ff:decide ((65:Int)≤(c:Int))=true:=decide_eq_true (by omega)
     have ff:decide ((c:Int)≤(90:Int))=false:=decide_eq_false (by omega)
     go_enter Tryz.func78,Tryz.ntmps78
     go_wp2
     go_ret
     exact ⟨rfl,by exact bw⟩
  ·have e:ltrB c=false:=by unfold ltrB;simp;omega
   have h5:((c:Int) == 95)=false:=beq_eq_false_iff_ne.2 (by omega)
   rw [e]
   have ff:decide ((97:Int)≤(c:Int))=false:=decide_eq_false (by omega)
   have ff:decide ((c:Int)≤(122:Int))=true:=decide_eq_true (by omega)
   have ff:decide ((65:Int)≤(c:Int))=false:=decide_eq_false (by omega)
   have ff:decide ((c:Int)≤(90:Int))=true:=decide_eq_true (by omega)
   go_enter Tryz.func78,Tryz.ntmps78
   go_wp2
   go_ret
   exact ⟨rfl,by exact bw⟩
set_option maxRecDepth 10000 in
set_option maxHeartbeats 4000000 in
theorem digit22_calls (c:Nat) (w:World):Calls Tryz.prog 79 #[.int .u8 (c:Int)] w fun e w'=>e = .returned (.bool (dgtB c))∧Below w.heap.size w w':=by
 by_cases h1:48≤c
 ·by_cases h2:c≤57
  ·have e:dgtB c=true:=decide_eq_true ⟨h1,h2⟩
   rw [e]
   have ff:decide ((48:Int)≤(c:Int))=true:=decide_eq_true (by omega)
   have ff:decide ((c:Int)≤(57:Int))=true:=decide_eq_true (by omega)
   go_enter Tryz.func79,Tryz.ntmps79
   go_wp2
   go_ret
   exact ⟨rfl,by exact bw⟩
  ·have e:dgtB c=false:=decide_eq_false (by omega)
   rw [e]
   have ff:decide ((48:Int)≤(c:Int))=true:=decide_eq_true (by omega)
   have ff:decide ((c:Int)≤(57:Int))=false:=decide_eq_false (by omega)
   go_enter Tryz.func79,Tryz.ntmps79
   go_wp2
   go_ret
   exact ⟨rfl,by exact bw⟩
 ·have e:dgtB c=false:=decide_eq_false (by omega)
  rw [e]
  have ff:decide ((48:Int)≤(c:Int))=false:=decide_eq_false (by omega)
  have ff:decide ((c:Int)≤(57:Int))=true:=decide_eq_true (by omega)
  go_enter Tryz.func79,Tryz.ntmps79
  go_wp2
  go_ret
  exact ⟨rfl,by exact bw⟩
def hasB (s:ByteArray) (a x:Nat):Bool:=decide (a<s.size) && decide (lk s a=x)
set_option maxRecDepth 10000 in
set_option maxHeartbeats 4000000 in
theorem has22_calls (s:ByteArray) (a x:Nat) (w:World):Calls Tryz.prog 64 #[.string s,.int .i64 (a:Int),.int .u8 (x:Int)] w fun e w'=>e = .returned (.bool (hasB s a x))∧Below w.heap.size w w':=by
 by_cases h:a<s.size
 ·have e1:=lk_at s a h
  have e:hasB s a x=(((s[a]'h).toNat:Int) == (x:Int)):=by
   unfold hasB
   rw [decide_eq_true h,e1]
   by_cases e':(s[a]'h).toNat=x
   ·rw [e'];simp
   ·rw [decide_eq_false e',Bool.and_false];exact (beq_eq_false_iff_ne.2 (by omega)).symm
  rw [e]
  clear e e1
  go_enter Tryz.func64,Tryz.ntmps64
  go_wp2
  go_ret
  exact ⟨rfl,by exact bw⟩
 ·have e:hasB s a x=false:=by unfold hasB;rw [decide_eq_false h];rfl
  rw [e]
  go_enter Tryz.func64,Tryz.ntmps64
  go_wp2
  go_ret
  exact ⟨rfl,by exact bw⟩
def ifO (o:Option Stp):Value:=match o with | none=>.nilIface | some s=>ifV s
def starF (s:ByteArray) (a:Nat):Option Stp × Nat:=if hasB s a 42 then (some ⟨3,⟨#[]⟩,0⟩,a+1) else (none,a)
set_option maxRecDepth 10000 in
set_option maxHeartbeats 4000000 in
theorem star22_calls (s:ByteArray) (hs:s.size≤9223372036854775807) (a:Nat) (w:World):Calls Tryz.prog 62 #[.string s,.int .i64 (a:Int)] w fun e w'=>e = .returned (.tuple #[ifO (starF s a).1,.int .i64 ((starF s a).2:Int)])∧Below w.heap.size w w':=by
 have hh:=hid (has22_calls s a 42 w)
 by_cases h:hasB s a 42
 ·have e:starF s a=(some ⟨3,⟨#[]⟩,0⟩,a+1):=by unfold starF;rw [if_pos h]
  have hlt:a<s.size:=by
   unfold hasB at h
   exact of_decide_eq_true (Bool.and_eq_true_iff.1 h).1
  rw [e]
  rw [h] at hh
  clear e h
  show Calls Tryz.prog 62 #[.string s,.int .i64 (a:Int)] w fun e w'=>e = .returned (.tuple #[.iface 89 (.agg #[]),.int .i64 ((a+1:Nat):Int)])∧Below w.heap.size w w'
  go_enter Tryz.func62,Tryz.ntmps62
  go_wp2_with fail
  refine Calls.mono hh.out ?_
  rintro e w' ⟨rfl,hb⟩
  go_wp2_with fail
  go_ret2
  exact ⟨rfl,hb⟩
 ·have e:starF s a=(none,a):=by unfold starF;rw [if_neg h]
  rw [e]
  rw [Bool.eq_false_iff.2 h] at hh
  clear e h
  show Calls Tryz.prog 62 #[.string s,.int .i64 (a:Int)] w fun e w'=>e = .returned (.tuple #[.nilIface,.int .i64 (a:Int)])∧Below w.heap.size w w'
  go_enter Tryz.func62,Tryz.ntmps62
  go_wp2_with fail
  refine Calls.mono hh.out ?_
  rintro e w' ⟨rfl,hb⟩
  go_wp2_with fail
  go_ret2
  exact ⟨rfl,hb⟩
end Go.Proofs.YtongedjlmohogaaGreatDoor

namespace Go.Proofs.YtongedjlmohogaaGreatDoor
open Go.RowKit Go.Shelf
def StepsAt (w:World) (ao:Option Addr) (ss:List Stp):Prop:=∀ (i:Nat) (s:Stp),ss[i]? = some s→s.name.size≤capT∧∃ b off,ao=some ⟨b,off,none⟩∧b<w.heap.size ∧
 w.rangeAt b (off+i*3) [.int .i64 s.kind,.string s.name,.int .i64 s.place]
theorem StepsAt.kept {w w':World} {ao:Option Addr} {ss:List Stp} (h:StepsAt w ao ss) (hb:Below w.heap.size w w'):StepsAt w' ao ss:=fun i s hi=>by
 obtain ⟨h0,b,off,h1,h2,h3⟩:=h i s hi
 exact ⟨h0,b,off,h1,Nat.lt_of_lt_of_le h2 hb.size,range_kept h3 hb⟩
theorem steps_at {w:World} {ao:Option Addr} {ss:List Stp} {i:Nat} {s:Stp} (h:StepsAt w ao ss) (hi:ss[i]? = some s):∃ b off,ao=some ⟨b,off,none⟩∧b<w.heap.size∧w.rangeAt b (off+i*3) [.int .i64 s.kind,.string s.name,.int .i64 s.place]:=(h i s hi).2
set_option maxRecDepth 10000 in
set_option maxHeartbeats 4000000 in
theorem formedL_calls (ss:List Stp) (ao:Option Addr) (N cap:Nat) (hN:Hid (ss.length=N)) (hNi:N≤140737488351232) (w:World) (hk:Hid (StepsAt w ao ss)) (hT:Hid (TabU w)) :
  Calls Tryz.prog 15 #[.slice ao N cap] w fun e w'=>e = .returned (.bool (ss.all fmS))∧Below w.heap.size w w':=by
 have hNi':(N:Int)≤140737488351232:=by omega
 go_enter Tryz.func15,Tryz.ntmps15
 go_wp2
 go_loopw [7] (fun ii wr=>∃ i:Nat,i≤N∧ii = .int .i64 (i:Int)∧Hid ((ss.take i).all fmS=true)∧Hid (Below w.heap.size w wr)) (fun ii _=>N-(intOf ii).toNat)
 case atStart=>exact ⟨0,Nat.zero_le _,rfl,hid (by simp),hid (Below.refl _ _)⟩
 case round =>
  obtain ⟨i,hi,rfl,hall,hb⟩:=hrel
  by_cases hlt:i<N
  ·have hli:(i:Int)<(N:Int):=by omega
   obtain ⟨s,hs⟩:∃ s,Hid (ss[i]? = some s):=⟨_,List.getElem?_eq_getElem (by rw [hN.out];exact hlt)⟩
   have hk2:=hk.out.kept hb.out
   have hsz:=(hk2 i s hs.out).1
   obtain ⟨g,o,rfl,hg,hrg⟩:=steps_at hk2 hs.out
   have htk:=hid (show (ss.take (i+1)).all fmS=((ss.take i).all fmS && fmS s) by rw [List.take_add_one,hs.out];simp)
   have hf:=hid (fun u h=>formed22_calls s (by unfold capT at hsz;omega) u h)
   have hfin:=hid (fun (h:fmS s=false)=>(show ss.all fmS=false by rw [List.all_eq_false];exact ⟨s,List.mem_of_getElem? hs.out,by rw [h];simp⟩))
   obtain ⟨k,nm,pl⟩:=s
   have hrg':=hid hrg
   have A1:=hid (At.new wr #[.int .i64 k,.string nm,.int .i64 pl] 34)
   have B1:=hid (show Below w.heap.size w (wr.alloc (.cells #[.int .i64 k,.string nm,.int .i64 pl] 34)) from hb.out.alloc hb.out.size _)
   have T1:=hid (hT.out.below B1.out)
   have z1:(Tryz.prog.info? 34).map (·.size)=some ([.int .i64 k,.string nm,.int .i64 pl]:List Value).length:=sizeStp
   obtain ⟨q,hq⟩:∃ q,wr.heap.size=q:=⟨_,rfl⟩
   rw [hq] at A1
   obtain ⟨W1,hW1⟩:∃ W,wr.alloc (.cells #[.int .i64 k,.string nm,.int .i64 pl] 34)=W:=⟨_,rfl⟩
   rw [hW1] at A1 B1 T1
   have c0:=A1.out.cell 0
   have c1:=A1.out.cell 1
   have c2:=A1.out.cell 2
   simp only [List.getElem?_toArray,List.getElem?_cons_zero,List.getElem?_cons_succ] at c0 c1 c2
   dsimp only at hf
   have hlt':=hid (show i+1≤N by omega)
   cases hfm:fmS ⟨k,nm,pl⟩ with
   | true =>
    rw [hfm] at hf htk
    clear hs hk2 hsz hg hrg hb hfin
    go_wp2_with (first | refine wpList_load_want 34 _ g (o+i*3) [.int .i64 k,.string nm,.int .i64 pl] _ hrg'.out Tryz.underlying34 z1 rfl rfl rfl (by rfl) ?_ | fail)
    refine Calls.mono (hf.out _ T1.out) ?_
    rintro e w3 ⟨rfl,b3⟩
    have B3:=hid (B1.out.trans (b3.mono B1.out.size))
    clear b3 hf A1 B1 T1 c0 c1 c2 hW1
    go_wp2
    go_roundw
    case rel=>exact ⟨i+1,hlt'.out,by simp,hid (by rw [htk.out,hall.out];rfl),B3⟩
    case measure=>simp [intOf];have:=hlt'.out;omega
   | false =>
    rw [hfm] at hf
    have hres:=hid (hfin.out hfm)
    clear hs hk2 hsz hg hrg hb hfin htk
    go_wp2_with (first | refine wpList_load_want 34 _ g (o+i*3) [.int .i64 k,.string nm,.int .i64 pl] _ hrg'.out Tryz.underlying34 z1 rfl rfl rfl (by rfl) ?_ | fail)
    refine Calls.mono (hf.out _ T1.out) ?_
    rintro e w3 ⟨rfl,b3⟩
    have B3:=hid (B1.out.trans (b3.mono B1.out.size))
    clear b3 hf A1 B1 T1 c0 c1 c2 hW1
    go_wp2
    go_ret
    exact ⟨by rw [hres.out];rfl,B3.out⟩
  ·obtain rfl:i=N:=by omega
   have hfin:Hid (ss.all fmS=true):=hid (by have:=hall.out;rwa [List.take_of_length_le (by rw [hN.out];exact Nat.le_refl _)] at this)
   go_wp2
   go_ret
   exact ⟨by rw [hfin.out];rfl,hb.out⟩
end Go.Proofs.YtongedjlmohogaaGreatDoor

namespace Go.Proofs.YtongedjlmohogaaGreatDoor
open Go.RowKit Go.Shelf
def wdOk (t:ByteArray) (i:Nat):Bool:=ltrB (lk t i) || (decide (i≠0) && dgtB (lk t i))
def IsWd (t:ByteArray) (n:Nat):Prop:=n≤t.size∧(∀ j,j<n→wdOk t j=true)∧(n<t.size→wdOk t n=false)
theorem IsWd.uniq {t:ByteArray} {n m:Nat} (h:IsWd t n) (h':IsWd t m):n=m:=by
 obtain ⟨a,b,c⟩:=h
 obtain ⟨a',b',c'⟩:=h'
 rcases Nat.lt_trichotomy n m with q | q | q
 ·have:=b' n q
  rw [c (by omega)] at this
  cases this
 ·exact q
 ·have:=b m q
  rw [c' (by omega)] at this
  cases this
theorem wd_from (t:ByteArray):∀ k q:Nat,q+k=t.size→(∀ j,j<q→wdOk t j=true)→∃ n,IsWd t n
 | 0,q,hq,h=>⟨q,by omega,h,fun h'=>by omega⟩
 | k+1,q,hq,h=>by
  cases e:wdOk t q with
  | true=>exact wd_from t k (q+1) (by omega) (fun j hj=>by
    rcases Nat.lt_or_ge j q with h1 | h1
    ·exact h j h1
    ·obtain rfl:j=q:=by omega
     exact e)
  | false=>exact ⟨q,by omega,h,fun _=>e⟩
theorem wd_ex (t:ByteArray):∃ n,IsWd t n:=wd_from t t.size 0 (by omega) (fun j hj=>by omega)
set_option maxRecDepth 10000 in
set_option maxHeartbeats 4000000 in
theorem word22_calls (t:ByteArray) (ht:t.size≤140737488351232) (n:Nat) (hn:Hid (IsWd t n)) (w:World):Calls Tryz.prog 49 #[.string t] w fun e w'=>e = .returned (.int .i64 (n:Int))∧Below w.heap.size w w':=by
 have hti:(t.size:Int)≤140737488351232:=by omega
 go_enter Tryz.func49,Tryz.ntmps49
 go_wp2
 go_loopw [6] (fun ii wr=>∃ q:Nat,q≤t.size∧ii = .int .i64 (q:Int)∧Hid (∀ j,j<q→wdOk t j=true)∧Hid (Below w.heap.size w wr)) (fun ii _=>t.size-(intOf ii).toNat)
 case atStart=>exact ⟨0,Nat.zero_le _,rfl,hid (fun j hj=>by omega),hid (Below.refl _ _)⟩
 case round =>
  obtain ⟨q,hq,rfl,hall,hb⟩:=hrel
  by_cases hlt:q<t.size
  ·have hli:(q:Int)<(t.size:Int):=by omega
   have e1:=lk_at t q hlt
   have hL:=hid (fun u=>letter22_calls (t[q]'hlt).toNat u)
   have hD:=hid (fun u=>digit22_calls (t[q]'hlt).toNat u)
   have hw:Hid (wdOk t q=(ltrB (t[q]'hlt).toNat || (decide (q≠0) && dgtB (t[q]'hlt).toNat))):=hid (by unfold wdOk;rw [e1])
   have hnxt:=hid (fun (h:wdOk t q=true)=>show ∀ j,j<q+1→wdOk t j=true from fun j hj=>by
    rcases Nat.lt_or_ge j q with h1 | h1
    ·exact hall.out j h1
    ·obtain rfl:j=q:=by omega
     exact h)
   have hend:=hid (fun (h:wdOk t q=false)=>show q=n from IsWd.uniq (t:=t) ⟨by omega,hall.out,fun _=>h⟩ hn.out)
   have hlt':=hid (show q+1≤t.size by omega)
   clear e1
   cases hl:ltrB (t[q]'hlt).toNat with
   | true =>
    rw [hl] at hL hw
    clear hl hend hD
    go_wp2_with fail
    refine Calls.mono (hL.out _) ?_
    rintro e w3 ⟨rfl,b3⟩
    have B3:=hid (hb.out.trans (b3.mono hb.out.size))
    clear b3 hL
    go_wp2_with fail
    go_roundw
    case rel=>exact ⟨q+1,hlt'.out,by simp,hid (hnxt.out (by rw [hw.out];rfl)),B3⟩
    case measure=>simp [intOf];have:=hlt'.out;omega
   | false =>
    rw [hl] at hL hw
    clear hl
    by_cases h0:q=0
    ·subst h0
     go_wp2_with fail
     refine Calls.mono (hL.out _) ?_
     rintro e w3 ⟨rfl,b3⟩
     have B3:=hid (hb.out.trans (b3.mono hb.out.size))
     clear b3 hL
     go_wp2_with fail
     go_ret
     exact ⟨by rw [← hend.out (by rw [hw.out];rfl)];rfl,B3.out⟩
    ·have h00:((q:Int) == 0)=false:=beq_eq_false_iff_ne.2 (by omega)
     have h01:=hid h0
     cases hd:dgtB (t[q]'hlt).toNat with
     | true =>
      rw [hd] at hD hw
      clear hd hend h0
      go_wp2_with fail
      refine Calls.mono (hL.out _) ?_
      rintro e w3 ⟨rfl,b3⟩
      have B3:=hid (hb.out.trans (b3.mono hb.out.size))
      clear b3 hL
      go_wp2_with fail
      refine Calls.mono (hD.out _) ?_
      rintro e w4 ⟨rfl,b4⟩
      have B4:=hid (B3.out.trans (b4.mono B3.out.size))
      clear b4 hD
      go_wp2_with fail
      go_roundw
      case rel=>exact ⟨q+1,hlt'.out,by simp,hid (hnxt.out (by rw [hw.out,decide_eq_true h01.out];rfl)),B4⟩
      case measure=>simp [intOf];have:=hlt'.out;omega
     | false =>
      rw [hd] at hD hw
      clear hd h0
      go_wp2_with fail
      refine Calls.mono (hL.out _) ?_
      rintro e w3 ⟨rfl,b3⟩
      have B3:=hid (hb.out.trans (b3.mono hb.out.size))
      clear b3 hL
      go_wp2_with fail
      refine Calls.mono (hD.out _) ?_
      rintro e w4 ⟨rfl,b4⟩
      have B4:=hid (B3.out.trans (b4.mono B3.out.size))
      clear b4 hD
      go_wp2_with fail
      go_ret
      exact ⟨by rw [← hend.out (by rw [hw.out];simp)];rfl,B4.out⟩
  ·obtain rfl:q=t.size:=by omega
   have hfin:Hid (t.size=n):=hid (IsWd.uniq (t:=t) ⟨Nat.le_refl _,hall.out,fun h=>absurd h (Nat.lt_irrefl _)⟩ hn.out)
   go_wp2
   go_ret
   exact ⟨by rw [← hfin.out];rfl,hb.out⟩
end Go.Proofs.YtongedjlmohogaaGreatDoor

namespace Go.Proofs.YtongedjlmohogaaGreatDoor
open Go.RowKit Go.Shelf
def bpF (s:ByteArray) (a n:Nat):Option Stp × Nat:=if 0<n then (some ⟨1,s.extract a (a+n),0⟩,a+n) else starF s a
set_option maxRecDepth 10000 in
set_option maxHeartbeats 4000000 in
theorem behind22_calls (s:ByteArray) (hs:s.size≤140737488351232) (a:Nat) (ha:a≤s.size) (n:Nat) (hn:Hid (IsWd (s.extract a s.size) n)) (w:World):Calls Tryz.prog 38 #[.string s,.int .i64 (a:Int)] w fun e w'=>e = .returned (.tuple #[ifO (bpF s a n).1,.int .i64 ((bpF s a n).2:Int)])∧Below w.heap.size w w':=by
 have hsi:(s.size:Int)≤140737488351232:=by omega
 have hai:(a:Int)≤(s.size:Int):=by omega
 have hxs:(s.extract a s.size).size=s.size-a:=by rw [ByteArray.size_extract];omega
 have hna:a+n≤s.size:=by have:=hn.out.1;omega
 have hnai:(a:Int)+(n:Int)≤(s.size:Int):=by omega
 have hw:=hid (fun u=>word22_calls (s.extract a s.size) (by omega) n hn u)
 have hst:=hid (fun u=>star22_calls s (by omega) a u)
 have hcl:=hid (fun u=>cloneT_calls (s.extract a (a+n)) (by rw [ByteArray.size_extract];omega) u)
 clear hxs hn
 by_cases h0:0<n
 ·have e:bpF s a n=(some ⟨1,s.extract a (a+n),0⟩,a+n):=by unfold bpF;rw [if_pos h0]
  rw [e]
  clear e hst
  have h0i:(0:Int)<(n:Int):=by omega
  show Calls Tryz.prog 38 #[.string s,.int .i64 (a:Int)] w fun e w'=>e = .returned (.tuple #[.iface 85 (.string (s.extract a (a+n))),.int .i64 ((a+n:Nat):Int)])∧Below w.heap.size w w'
  go_enter Tryz.func38,Tryz.ntmps38
  go_wp2_with fail
  refine Calls.mono (hw.out _) ?_
  rintro e w1 ⟨rfl,b1⟩
  have B1:=hid b1
  clear b1 hw
  go_wp2_with fail
  refine Calls.mono (hcl.out _) ?_
  rintro e w2 ⟨rfl,b2⟩
  have B2:=hid (B1.out.trans (b2.mono B1.out.size))
  clear b2 hcl
  go_wp2_with fail
  go_ret2
  exact ⟨rfl,B2.out⟩
 ·obtain rfl:n=0:=by omega
  have e:bpF s a 0=starF s a:=rfl
  rw [e]
  clear e hcl h0 hna hnai
  generalize starF s a=ox at hst ⊢
  obtain ⟨o,x⟩:=ox
  dsimp only at hst ⊢
  generalize ifO o=X at hst ⊢
  go_enter Tryz.func38,Tryz.ntmps38
  go_wp2_with fail
  refine Calls.mono (hw.out _) ?_
  rintro e w1 ⟨rfl,b1⟩
  have B1:=hid b1
  clear b1 hw
  go_wp2_with fail
  refine Calls.mono (hst.out _) ?_
  rintro e w2 ⟨rfl,b2⟩
  have B2:=hid (B1.out.trans (b2.mono B1.out.size))
  clear b2 hst
  go_wp2_with fail
  go_ret2
  exact ⟨rfl,B2.out⟩
def IsNm (s:ByteArray) (a e:Nat):Prop:=a≤e∧e≤s.size∧(∀ j,a<j→j≤e→plB (s.extract a j)=true)∧(e<s.size→plB (s.extract a (e+1))=false)
theorem IsNm.uniq {s:ByteArray} {a n m:Nat} (h:IsNm s a n) (h':IsNm s a m):n=m:=by
 obtain ⟨x,y,b,c⟩:=h
 obtain ⟨x',y',b',c'⟩:=h'
 rcases Nat.lt_trichotomy n m with q | q | q
 ·have:=b' (n+1) (by omega) (by omega)
  rw [c (by omega)] at this
  cases this
 ·exact q
 ·have:=b (m+1) (by omega) (by omega)
  rw [c' (by omega)] at this
  cases this
theorem nm_from (s:ByteArray) (a:Nat):∀ k q:Nat,q+k=s.size→a≤q→(∀ j,a<j→j≤q→plB (s.extract a j)=true)→∃ n,IsNm s a n
 | 0,q,hq,ha,h=>⟨q,ha,by omega,h,fun h'=>by omega⟩
 | k+1,q,hq,ha,h=>by
  cases e:plB (s.extract a (q+1)) with
  | true=>exact nm_from s a k (q+1) (by omega) (by omega) (fun j h1 h2=>by
    rcases Nat.lt_or_ge j (q+1) with h3 | h3
    ·exact h j h1 (by omega)
    ·obtain rfl:j=q+1:=by omega
     exact e)
  | false=>exact ⟨q,ha,by omega,h,fun _=>e⟩
theorem nm_ex (s:ByteArray) (a:Nat) (ha:a≤s.size):∃ n,IsNm s a n:=nm_from s a (s.size-a) a (by omega) (Nat.le_refl _) (fun j h1 h2=>by omega)
def nmF (s:ByteArray) (a e:Nat):Option Stp:=if a<e then some ⟨2,⟨#[]⟩,plV (s.extract a e)⟩ else none
set_option maxRecDepth 10000 in
set_option maxHeartbeats 4000000 in
theorem number22_calls (s:ByteArray) (hs:s.size≤140737488351232) (a:Nat) (ha:a≤s.size) (n:Nat) (hn:Hid (IsNm s a n)) (w:World):Calls Tryz.prog 88 #[.string s,.int .i64 (a:Int)] w fun e w'=>e = .returned (.tuple #[ifO (nmF s a n),.int .i64 (n:Int)])∧Below w.heap.size w w':=by
 have hsi:(s.size:Int)≤140737488351232:=by omega
 have hai:(a:Int)≤(s.size:Int):=by omega
 go_enter Tryz.func88,Tryz.ntmps88
 go_wp2
 go_loopw [6,7] (fun xx ii wr=>∃ q:Nat,a≤q∧q≤s.size∧xx=ifO (nmF s a q)∧ii = .int .i64 (q:Int)∧Hid (∀ j,a<j→j≤q→plB (s.extract a j)=true)∧Hid (Below w.heap.size w wr)) (fun _ ii _=>s.size-(intOf ii).toNat)
 case atStart=>exact ⟨a,Nat.le_refl _,ha,by unfold nmF;rw [if_neg (Nat.lt_irrefl _)];rfl,rfl,hid (fun j h1 h2=>by omega),hid (Below.refl _ _)⟩
 case round =>
  obtain ⟨q,haq,hq,rfl,rfl,hall,hb⟩:=hrel
  by_cases hlt:q<s.size
  ·have hli:(q:Int)<(s.size:Int):=by omega
   have hq1:q+1≤s.size:=by omega
   have hP:=hid (fun u=>plc_calls (s.extract a (q+1)) (by rw [ByteArray.size_extract];omega) u)
   have hnxt:=hid (fun (h:plB (s.extract a (q+1))=true)=>show ∀ j,a<j→j≤q+1→plB (s.extract a j)=true from fun j h1 h2=>by
    rcases Nat.lt_or_ge j (q+1) with h3 | h3
    ·exact hall.out j h1 (by omega)
    ·obtain rfl:j=q+1:=by omega
     exact h)
   have hend:=hid (fun (h:plB (s.extract a (q+1))=false)=>show q=n from IsNm.uniq (s:=s) ⟨haq,hq,hall.out,fun _=>h⟩ hn.out)
   have hlt':=hid (show q+1≤s.size by omega)
   have hX:Hid (ifO (nmF s a (q+1)) = .iface 87 (.int .i64 (plV (s.extract a (q+1))))):=hid (by unfold nmF;rw [if_pos (by omega)];rfl)
   have haq':=hid haq
   cases hl:plB (s.extract a (q+1)) with
   | true =>
    rw [hl] at hP
    have hnx:=hid (hnxt.out hl)
    clear hl hend hnxt
    generalize ifO (nmF s a q)=X at *
    go_wp2_with fail
    refine Calls.mono (hP.out _) ?_
    rintro e w3 ⟨rfl,b3⟩
    have B3:=hid (hb.out.trans (b3.mono hb.out.size))
    clear b3 hP
    go_wp2_with fail
    go_roundw
    case rel=>exact ⟨q+1,by have:=haq'.out;omega,hlt'.out,hX.out.symm,by simp,hnx,B3⟩
    case measure=>simp [intOf];have:=hlt'.out;omega
   | false =>
    rw [hl] at hP
    obtain rfl:=hend.out hl
    clear hl hend hnxt hX
    generalize hx:ifO (nmF s a q)=X at *
    have hx':=hid hx
    clear hx
    go_wp2_with fail
    refine Calls.mono (hP.out _) ?_
    rintro e w3 ⟨rfl,b3⟩
    have B3:=hid (hb.out.trans (b3.mono hb.out.size))
    clear b3 hP
    go_wp2_with fail
    go_ret2
    exact ⟨by rw [hx'.out];rfl,B3.out⟩
  ·obtain rfl:q=s.size:=by omega
   obtain rfl:s.size=n:=IsNm.uniq (s:=s) ⟨haq,Nat.le_refl _,hall.out,fun h=>absurd h (Nat.lt_irrefl _)⟩ hn.out
   generalize hx:ifO (nmF s a s.size)=X at *
   have hx':=hid hx
   clear hx
   go_wp2
   go_ret2
   exact ⟨by rw [hx'.out];rfl,hb.out⟩
end Go.Proofs.YtongedjlmohogaaGreatDoor

namespace Go.Proofs.YtongedjlmohogaaGreatDoor
open Go.RowKit Go.Shelf
def QEnd (s:ByteArray) (a z:Nat):Prop:=∃ n E:Int,IsEnd s ((a+1:Nat):Int) n E∧((E=0∧(z:Int)=n+1)∨(E≠0∧z=s.size))
def IsQt (s:ByteArray) (a:Nat) (o:Option Stp) (e:Nat):Prop :=
 ∃ z,QEnd s a z∧∃ (C A:Nat) (E:Int) (t:Vt),IsChk (s.extract a z) 1 C A E∧IsPar (s.extract a z) C t∧((C=1∧o=some ⟨1,t.text,0⟩∧e=z)∨(C≠1∧o=none∧e=a+A))
theorem chk_leA {s:ByteArray} {d:Int} {C A:Nat} {E:Int} (h:IsChk s d C A E):A≤s.size:=by
 rcases h with ⟨-,-,h,-⟩ | ⟨-,-,k,m,hr,h⟩
 ·omega
 ·have h1:=(run_take mc0 (byts s)).2.2
  rw [hr] at h1
  have h2:(byts s).length=s.size:=by simp [byts]
  rcases h with ⟨-,-,h⟩ | ⟨h0,-,⟨i,hi,-,-,-,h⟩ | ⟨-,-,h⟩⟩
  ·dsimp only at h1;omega
  ·omega
  ·omega
theorem qend_le {s:ByteArray} {a z:Nat} (h:QEnd s a z):z≤s.size:=by
 obtain ⟨n,E,h,h' | ⟨-,h'⟩⟩:=h
 ·rcases h with ⟨-,-,e⟩ | ⟨k,hk,hks,⟨i,hi,-,-,-,e,-⟩ | ⟨-,-,e⟩⟩ <;> omega
 ·omega
theorem qend_gt {s:ByteArray} {a z:Nat} (h:QEnd s a z) (ha:a<s.size):a<z:=by
 obtain ⟨n,E,h,h' | ⟨-,h'⟩⟩:=h
 ·rcases h with ⟨-,-,e⟩ | ⟨k,hk,hks,⟨i,hi,-,-,-,e,-⟩ | ⟨-,-,e⟩⟩ <;> omega
 ·omega
theorem IsQt.le {s:ByteArray} {a e:Nat} {o:Option Stp} (h:IsQt s a o e) (ha:a<s.size):e≤s.size∧a≤e∧(o≠none→a<e):=by
 obtain ⟨z,hz,C,A,E,t,hc,-,h⟩:=h
 have h1:=qend_le hz
 have h2:=qend_gt hz ha
 have h3:=chk_leA hc
 rw [ByteArray.size_extract] at h3
 rcases h with ⟨-,-,rfl⟩ | ⟨-,rfl,rfl⟩
 ·exact ⟨h1,by omega,fun _=>h2⟩
 ·exact ⟨by omega,by omega,fun h=>absurd rfl h⟩
set_option maxRecDepth 10000 in
set_option maxHeartbeats 4000000 in
theorem quoted22_calls (s:ByteArray) (hs:s.size≤8388608) (a:Nat) (ha:a<s.size) (w:World):Calls Tryz.prog 87 #[.string s,.int .i64 (a:Int)] w fun e w'=>(∃ o x,e = .returned (.tuple #[ifO o,.int .i64 ((x:Nat):Int)])∧IsQt s a o x)∧Below w.heap.size w w':=by
 have hsi:(s.size:Int)≤8388608:=by omega
 have hai:(a:Int)<(s.size:Int):=by omega
 have hE:=hid (fun u=>end_calls s (by omega) ((a+1:Nat):Int) (WalkArith.wf_i64 (by omega)) u trivial)
 have hP:=hid (fun (z:Nat) (_:z≤s.size)=>show ∃ (C A:Nat) (E:Int) (t:Vt),IsChk (s.extract a z) 1 C A E∧IsPar (s.extract a z) C t∧A≤s.size∧∀ u,Calls Tryz.prog 105 #[.string (s.extract a z),.int .i64 1] u fun e w'=>∃ x:Value,e = .returned (.tuple #[x,.agg #[.int .i64 (C:Int),.int .i64 (A:Int)],.int .i64 E])∧ValOn (fun c=>u.heap.size≤c) w' t x∧Below u.heap.size u w' from by
  obtain ⟨C,A,E,hc⟩:=chk_ex (s.extract a z) 1
  obtain ⟨t,ht⟩:=par_ex hc
  have h3:=chk_leA hc
  rw [ByteArray.size_extract] at h3
  exact ⟨C,A,E,t,hc,ht,by omega,fun u=>parse_calls _ (by rw [ByteArray.size_extract];omega) 1 (by decide) C A E (hid hc) t (hid ht) u⟩)
 go_enter Tryz.func87,Tryz.ntmps87
 go_wp2_with fail
 refine Calls.mono (hE.out _) ?_
 rintro e w1 ⟨⟨n,E,rfl,hn⟩,b1⟩
 have B1:=hid b1
 clear b1 hE
 by_cases h0:E=0
 ·subst h0
  obtain ⟨z,hz⟩:∃ z:Nat,(z:Int)=n+1:=by
   rcases hn with ⟨-,-,e⟩ | ⟨k,hk,hks,⟨i,hi,-,-,-,e,-⟩ | ⟨-,-,e⟩⟩
   ·cases e
   ·exact ⟨k+i+1,by rw [e];rfl⟩
   ·cases e
  have hQ:=hid (show QEnd s a z from ⟨n,0,hn,.inl ⟨rfl,hz⟩⟩)
  have hzl:=qend_le hQ.out
  have hzg:=qend_gt hQ.out ha
  obtain ⟨C,A,E,t,hc,ht,hA,hp⟩:=hP.out z hzl
  have hc':=hid hc
  have ht':=hid ht
  have hp':=hid hp
  obtain rfl:n=(z:Int)-1:=by omega
  clear hn hP hz hc ht hp
  have hzi:(z:Int)≤(s.size:Int):=by omega
  have hzgi:(a:Int)<(z:Int):=by omega
  have hz1:(z:Int)-1+1=(z:Int):=by omega
  go_wp2_with fail
  refine Calls.mono (hp'.out _) ?_
  rintro e w2 ⟨x,rfl,hV,hb⟩
  obtain ⟨ko,kc,vo,vc,rfl⟩:=hV.six
  have q1:Below w2.heap.size w2 ((w2.alloc (.cells #[.int .i64 t.kind,.bool t.b,.string t.raw,.string t.text,.slice ko t.keys.length kc,.slice vo t.kids.length vc] 59)).alloc (.cells #[.int .i64 (C:Int),.int .i64 (A:Int)] 137)):=by exact bw
  obtain ⟨p,hpp⟩:∃ p,Hid (w2.heap.size=p):=⟨_,rfl⟩
  have A1:Hid (At ((w2.alloc (.cells #[.int .i64 t.kind,.bool t.b,.string t.raw,.string t.text,.slice ko t.keys.length kc,.slice vo t.kids.length vc] 59)).alloc (.cells #[.int .i64 (C:Int),.int .i64 (A:Int)] 137)) p #[.int .i64 t.kind,.bool t.b,.string t.raw,.string t.text,.slice ko t.keys.length kc,.slice vo t.kids.length vc] 59):=by
   have h:=(At.new w2 #[.int .i64 t.kind,.bool t.b,.string t.raw,.string t.text,.slice ko t.keys.length kc,.slice vo t.kids.length vc] 59).alloc (.cells #[.int .i64 (C:Int),.int .i64 (A:Int)] 137)
   rw [hpp.out] at h
   exact h
  have V1:Hid (At ((w2.alloc (.cells #[.int .i64 t.kind,.bool t.b,.string t.raw,.string t.text,.slice ko t.keys.length kc,.slice vo t.kids.length vc] 59)).alloc (.cells #[.int .i64 (C:Int),.int .i64 (A:Int)] 137)) (p+1) #[.int .i64 (C:Int),.int .i64 (A:Int)] 137):=by
   have h:=At.new (w2.alloc (.cells #[.int .i64 t.kind,.bool t.b,.string t.raw,.string t.text,.slice ko t.keys.length kc,.slice vo t.kids.length vc] 59)) #[.int .i64 (C:Int),.int .i64 (A:Int)] 137
   rw [World.size_alloc,hpp.out] at h
   exact h
  have B3:=hid (B1.out.trans ((hb.trans (q1.mono hb.size)).mono B1.out.size))
  go_upto_region 6 with fail
  rw [hpp.out]
  clear hV hb q1 B1 hp'
  generalize ((w2.alloc (.cells #[.int .i64 t.kind,.bool t.b,.string t.raw,.string t.text,.slice ko t.keys.length kc,.slice vo t.kids.length vc] 59)).alloc (.cells #[.int .i64 (C:Int),.int .i64 (A:Int)] 137))=W3 at A1 V1 B3 ⊢
  have d3:=A1.out.cell 3
  have e0:=V1.out.cell 0
  have e1:=V1.out.cell 1
  simp only [List.getElem?_toArray,List.getElem?_cons_zero,List.getElem?_cons_succ] at d3 e0 e1
  by_cases hC:C=1
  ·subst hC
   go_wp2_with fail
   go_ret2
   exact ⟨⟨some ⟨1,t.text,0⟩,z,rfl,z,hQ.out,1,A,E,t,hc'.out,ht'.out,.inl ⟨rfl,rfl,rfl⟩⟩,B3.out⟩
  ·have ec:((C:Int) != 1)=true:=by simp;omega
   have hC':=hid hC
   have hAi:(A:Int)≤(s.size:Int):=by omega
   clear hC d3
   go_upto_region 7 with fail
   go_region
   go_wp2_with fail
   go_ret2
   exact ⟨⟨none,a+A,rfl,z,hQ.out,C,A,E,t,hc'.out,ht'.out,.inr ⟨hC'.out,rfl,rfl⟩⟩,B3.out.drew⟩
 ·obtain ⟨z,hz⟩:∃ z:Nat,z=s.size:=⟨_,rfl⟩
  have hQ:=hid (show QEnd s a z from ⟨n,E,hn,.inr ⟨h0,hz⟩⟩)
  have hzl:=qend_le hQ.out
  have hzg:=qend_gt hQ.out ha
  have h00:(E == 0)=false:=beq_eq_false_iff_ne.2 h0
  obtain ⟨C,A,E',t,hc,ht,hA,hp⟩:=hP.out z hzl
  have hc':=hid hc
  have ht':=hid ht
  have hp':=hid hp
  clear hn hP hzl hzg hc ht hp h0
  subst hz
  go_wp2_with fail
  refine Calls.mono (hp'.out _) ?_
  rintro e w2 ⟨x,rfl,hV,hb⟩
  obtain ⟨ko,kc,vo,vc,rfl⟩:=hV.six
  have q1:Below w2.heap.size w2 ((w2.alloc (.cells #[.int .i64 t.kind,.bool t.b,.string t.raw,.string t.text,.slice ko t.keys.length kc,.slice vo t.kids.length vc] 59)).alloc (.cells #[.int .i64 (C:Int),.int .i64 (A:Int)] 137)):=by exact bw
  obtain ⟨p,hpp⟩:∃ p,Hid (w2.heap.size=p):=⟨_,rfl⟩
  have A1:Hid (At ((w2.alloc (.cells #[.int .i64 t.kind,.bool t.b,.string t.raw,.string t.text,.slice ko t.keys.length kc,.slice vo t.kids.length vc] 59)).alloc (.cells #[.int .i64 (C:Int),.int .i64 (A:Int)] 137)) p #[.int .i64 t.kind,.bool t.b,.string t.raw,.string t.text,.slice ko t.keys.length kc,.slice vo t.kids.length vc] 59):=by
   have h:=(At.new w2 #[.int .i64 t.kind,.bool t.b,.string t.raw,.string t.text,.slice ko t.keys.length kc,.slice vo t.kids.length vc] 59).alloc (.cells #[.int .i64 (C:Int),.int .i64 (A:Int)] 137)
   rw [hpp.out] at h
   exact h
  have V1:Hid (At ((w2.alloc (.cells #[.int .i64 t.kind,.bool t.b,.string t.raw,.string t.text,.slice ko t.keys.length kc,.slice vo t.kids.length vc] 59)).alloc (.cells #[.int .i64 (C:Int),.int .i64 (A:Int)] 137)) (p+1) #[.int .i64 (C:Int),.int .i64 (A:Int)] 137):=by
   have h:=At.new (w2.alloc (.cells #[.int .i64 t.kind,.bool t.b,.string t.raw,.string t.text,.slice ko t.keys.length kc,.slice vo t.kids.length vc] 59)) #[.int .i64 (C:Int),.int .i64 (A:Int)] 137
   rw [World.size_alloc,hpp.out] at h
   exact h
  have B3:=hid (B1.out.trans ((hb.trans (q1.mono hb.size)).mono B1.out.size))
  go_upto_region 6 with fail
  rw [hpp.out]
  clear hV hb q1 B1 hp'
  generalize ((w2.alloc (.cells #[.int .i64 t.kind,.bool t.b,.string t.raw,.string t.text,.slice ko t.keys.length kc,.slice vo t.kids.length vc] 59)).alloc (.cells #[.int .i64 (C:Int),.int .i64 (A:Int)] 137))=W3 at A1 V1 B3 ⊢
  have d3:=A1.out.cell 3
  have e0:=V1.out.cell 0
  have e1:=V1.out.cell 1
  simp only [List.getElem?_toArray,List.getElem?_cons_zero,List.getElem?_cons_succ] at d3 e0 e1
  by_cases hC:C=1
  ·subst hC
   go_wp2_with fail
   go_ret2
   exact ⟨⟨some ⟨1,t.text,0⟩,s.size,rfl,s.size,hQ.out,1,A,E',t,hc'.out,ht'.out,.inl ⟨rfl,rfl,rfl⟩⟩,B3.out⟩
  ·have ec:((C:Int) != 1)=true:=by simp;omega
   have hC':=hid hC
   have hAi:(A:Int)≤(s.size:Int):=by omega
   clear hC d3
   go_upto_region 7 with fail
   go_region
   go_wp2_with fail
   go_ret2
   exact ⟨⟨none,a+A,rfl,s.size,hQ.out,C,A,E',t,hc'.out,ht'.out,.inr ⟨hC'.out,rfl,rfl⟩⟩,B3.out.drew⟩
end Go.Proofs.YtongedjlmohogaaGreatDoor

namespace Go.Proofs.YtongedjlmohogaaGreatDoor
open Go.RowKit Go.Shelf
def InQ (m:Mc):Prop:=m.op=[]∧(((m.st=6∨m.st=7∨m.st=8)∧m.nm=false)∨m.st=5)
theorem inQ_step {m k:Mc} {c:Nat} (h:InQ m) (hs:stepM m c=some k):InQ k:=by
 obtain ⟨h1,⟨h2,h3⟩ | h2⟩:=h
 ·by_cases h6:m.st=6
  ·rw [step_text h6] at hs
   unfold charM at hs
   repeat' split at hs
   all_goals first
    | (cases hs;done)
    | (rename_i hx;exact absurd hx.2 (by rw [h3];simp))
    | (cases hs;exact ⟨h1,.inl ⟨.inl h6,h3⟩⟩)
    | (cases hs;exact ⟨h1,.inr rfl⟩)
    | (cases hs;exact ⟨h1,.inl ⟨.inr (.inl rfl),h3⟩⟩)
  ·rw [step_esc (by omega)] at hs
   unfold escM at hs
   repeat' split at hs
   all_goals first
    | (cases hs;done)
    | (cases hs;refine ⟨h1,.inl ⟨?_,h3⟩⟩;dsimp only;first | exact .inl rfl | exact .inr (.inr rfl) | (split <;> omega))
 ·unfold stepM at hs
  rw [if_neg (by omega),if_neg (by omega),if_neg (by omega),if_neg (by omega)] at hs
  split at hs
  ·cases hs
   exact ⟨h1,.inr h2⟩
  ·unfold afterM at hs
   have ht:topN m=0:=by unfold topN;rw [h1];rfl
   rename_i hb
   rw [if_neg hb,if_neg (by rw [ht];omega),if_neg (by rw [ht];omega),if_neg (by rw [ht];omega)] at hs
   cases hs
theorem inQ_take:∀ {l:List Nat} {m k:Mc},InQ m→takeM m l=some k→InQ k
 | [],m,k,h,e=>by cases e;exact h
 | x :: l,m,k,h,e=>by
  unfold takeM at e
  split at e
  ·cases e
  ·rename_i q hq
   exact inQ_take (inQ_step h hq) e
theorem chk_q {Q:ByteArray} {F:List Nat} (hQ:byts Q=34 :: (F++[34])) {k:Mc} (ht:takeM mc0 (34 :: (F++[34]))=some k) (h5:k.st=5) (hop:k.op=[]):IsChk Q 1 1 Q.size 0:=by
 obtain ⟨r1,r2,-⟩:=run_take mc0 (byts Q)
 rw [hQ] at r1 r2
 have e1:(runM mc0 (34 :: (F++[34]))).1=(34 :: (F++[34])).length:=r1.2 (by rw [ht];rfl)
 have hl:(34 :: (F++[34])).length=Q.size:=by rw [← hQ,byts_length]
 refine chk_validT k (by decide) (by decide) ?_ ?_ ?_
 ·rw [hQ,← hl,← e1,← r2 k ht]
 ·unfold wholeM
  rw [hop,h5]
  rfl
 ·intro j hj
  have hpre:∃ n,takeM mc0 ((byts Q).take (j+1))=some n:=by
   have e:(byts Q).take (j+1)++(byts Q).drop (j+1)=34 :: (F++[34]):=by rw [List.take_append_drop,hQ]
   rw [← e,takeM_app] at ht
   cases h:takeM mc0 ((byts Q).take (j+1)) with
   | none=>rw [h] at ht;cases ht
   | some n=>exact ⟨n,rfl⟩
  obtain ⟨n,hn⟩:=hpre
  obtain ⟨-,-,hd⟩:=take_marks (isDep Q) (j+1) (by omega) hn
  have hi:InQ n:=by
   rw [hQ,List.take_succ_cons,takeM_cons (show stepM mc0 34=some { mc0 with nm:=false,st:=6 } from rfl)] at hn
   exact inQ_take (m:={ mc0 with nm:=false,st:=6 }) ⟨rfl,.inl ⟨.inl rfl,rfl⟩⟩ hn
  rw [hd,hi.1]
  decide
theorem byts_byteAt {s:ByteArray} {i x:Nat} (h:(byts s)[i]? = some x):byteAt s i=x:=by
 have hi:i<s.size:=by have:=(List.getElem?_eq_some_iff.1 h).1;rwa [byts_length] at this
 rw [byts_get s i hi,byt_byteAt] at h
 exact Option.some.inj h
theorem qe_run:∀ (L:List Nat) (u:ByteArray) (p:Nat) (rest:List Nat),(∀ x ∈ L,x<256)→(byts u).drop p=L.flatMap oneL++34 :: rest→QE u p (p+(L.flatMap oneL).length)
 | [],u,p,rest,hL,h=>by
  have h0:(byts u)[p]? = some 34:=by
   have:=congrArg (fun l=>l[0]?) h
   simpa using this
  have hp:p<u.size:=by have:=(List.getElem?_eq_some_iff.1 h0).1;rwa [byts_length] at this
  exact .stop p hp (byts_byteAt h0)
 | c :: L,u,p,rest,hL,h=>by
  have hc:=hL c (List.mem_cons_self ..)
  have hL':∀ x ∈ L,x<256:=fun x hx=>hL x (List.mem_cons_of_mem _ hx)
  have hat:∀ (j x:Nat),((c :: L).flatMap oneL++34 :: rest)[j]? = some x→p+j<u.size∧byteAt u (p+j)=x:=fun j x hj=>by
   rw [← h,List.getElem?_drop] at hj
   exact ⟨by have:=(List.getElem?_eq_some_iff.1 hj).1;rwa [byts_length] at this,byts_byteAt hj⟩
  have hdr:∀ k,(oneL c).length=k→(byts u).drop (p+k)=L.flatMap oneL++34 :: rest:=fun k hk=>by
   rw [← List.drop_drop,h,List.flatMap_cons,List.append_assoc,← hk,List.drop_left]
  have ih:=fun k (hk:(oneL c).length=k)=>qe_run L u (p+k) rest hL' (hdr k hk)
  rw [List.flatMap_cons] at hat ⊢
  rw [List.length_append]
  have two:∀ x,oneL c=[92,x]→QE u p (p+((oneL c).length+(L.flatMap oneL).length)):=fun x hx=>by
   rw [hx] at hat ⊢
   obtain ⟨a1,a2⟩:=hat 0 92 rfl
   have:=ih 2 (by rw [hx];rfl)
   rw [show p+([92,x].length+(L.flatMap oneL).length)=p+2+(L.flatMap oneL).length by simp;omega]
   exact .esc p _ a1 a2 this
  by_cases hp:32≤c∧c≠34∧c≠92
  ·have h1:oneL c=[c]:=by
    unfold oneL
    rw [if_neg hp.2.1,if_neg hp.2.2,if_neg (by omega),if_neg (by omega),if_neg (by omega),if_neg (by omega),if_neg (by omega),if_neg (by omega)]
   rw [h1] at hat ⊢
   obtain ⟨a1,a2⟩:=hat 0 c rfl
   have:=ih 1 (by rw [h1];rfl)
   rw [show p+([c].length+(L.flatMap oneL).length)=p+1+(L.flatMap oneL).length by simp;omega]
   exact .step p _ a1 (by rw [show p+0=p from rfl] at a2;rw [a2];exact hp.2.1) (by rw [show p+0=p from rfl] at a2;rw [a2];exact hp.2.2) this
  ·have hcase:(∃ x,oneL c=[92,x])∨oneL c=[92,117,48,48,hexC (c / 16),hexC (c % 16)]:=by
    unfold oneL
    repeat' split
    all_goals first
     | exact .inl ⟨_,rfl⟩
     | exact .inr rfl
     | (exfalso;omega)
   rcases hcase with ⟨x,hx⟩ | hx
   ·exact two x hx
   ·have h16:∀ y,y<16→hexC y≠34∧hexC y≠92:=fun y hy=>by unfold hexC;split <;> omega
    have i6:=ih 6 (by rw [hx];rfl)
    rw [hx] at hat ⊢
    obtain ⟨a1,a2⟩:=hat 0 92 rfl
    obtain ⟨b1,b2⟩:=hat 2 48 rfl
    obtain ⟨c1,c2⟩:=hat 3 48 rfl
    obtain ⟨d1,d2⟩:=hat 4 (hexC (c / 16)) rfl
    obtain ⟨e1,e2⟩:=hat 5 (hexC (c % 16)) rfl
    have hlt:c<128:=by omega
    rw [show p+([92,117,48,48,hexC (c / 16),hexC (c % 16)].length+(L.flatMap oneL).length)=p+6+(L.flatMap oneL).length by simp;omega]
    refine .esc p _ a1 a2 (.step (p+2) _ b1 (by omega) (by omega) (.step (p+3) _ c1 (by omega) (by omega) (.step (p+4) _ d1 (by rw [d2];exact (h16 _ (by omega)).1) (by rw [d2];exact (h16 _ (by omega)).2) (.step (p+5) _ e1 (by rw [e2];exact (h16 _ (by omega)).1) (by rw [e2];exact (h16 _ (by omega)).2) i6))))
end Go.Proofs.YtongedjlmohogaaGreatDoor
