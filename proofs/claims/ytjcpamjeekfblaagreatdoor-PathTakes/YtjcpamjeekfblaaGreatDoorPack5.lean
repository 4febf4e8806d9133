/-
  Texts of mine that others lean on, one behind the other.
-/
import Derived.Test.YtjcpamjeekfblaaGreatDoorPack1
import Derived.Test.YtjcpamjeekfblaaGreatDoorPack4
namespace Go.Proofs.YtjcpamjeekfblaaGreatDoor
open Go.RowKit Go.Shelf
def ltrB (c:Nat):Bool:=decide (97≤c∧c≤122) || (decide (65≤c∧c≤90) || decide (c=95))
def dgtB (c:Nat):Bool:=decide (48≤c∧c≤57)
set_option maxRecDepth 10000 in
set_option maxHeartbeats 4000000 in
theorem letter22_calls (c:Nat) (w:World):Calls Tryz.prog 78 #[.int .u8 (c:Int)] w fun e w'=>e = .returned (.bool (ltrB c))∧Below w.heap.size w w':=by
 by_cases h1:97≤c
 ·by_cases h2:c≤122
  ·have e:ltrB c=true:=by unfold ltrB;rw [decide_eq_true (⟨h1,h2⟩:97≤c∧c≤122)];rfl
   rw [e]
   have ff:decide ((97:Int)≤(c:Int))=true:=decide_eq_true (by omega)
   have ff:decide ((c:Int)≤(122:Int))=true:=decide_eq_true (by omega)
   have ff:decide ((65:Int)≤(c:Int))=true:=decide_eq_true (by omega)
   have ff:decide ((c:Int)≤(90:Int))=false:=decide_eq_false (by omega)
   go_enter Tryz.func78,Tryz.ntmps78
   go_wp2
   go_ret
   exact ⟨rfl,by exact bw⟩
  ·have e:ltrB c=false:=by unfold ltrB;simp;omega
   have h3:¬ c≤90:=by omega
   have h4:65≤c:=by omega
   have h5:((c:Int) == 95)=false:=beq_eq_false_iff_ne.2 (by omega)
   rw [e]
   have ff:decide ((97:Int)≤(c:Int))=true:=decide_eq_true (by omega)
   have ff:decide ((c:Int)≤(122:Int))=false:=decide_eq_false (by omega)
   have ff:decide ((65:Int)≤(c:Int))=true:=decide_eq_true (by omega)
   have ff:decide ((c:Int)≤(90:Int))=false:=decide_eq_false (by omega)
   go_enter Tryz.func78,Tryz.ntmps78
   go_wp2
   go_ret
   exact ⟨rfl,by exact bw⟩
 ·by_cases h2:65≤c
  ·by_cases h3:c≤90
   ·have e:ltrB c=true:=by unfold ltrB;simp;omega
    rw [e]
    have ff:decide ((97:Int)≤(c:Int))=false:=decide_eq_false (by omega)
    have ff:decide ((c:Int)≤(122:Int))=true:=decide_eq_true (by omega)
    have ff:decide ((65:Int)≤(c:Int))=true:=decide_eq_true (by omega)
    have ff:decide ((c:Int)≤(90:Int))=true:=decide_eq_true (by omega)
    go_enter Tryz.func78,Tryz.ntmps78
    go_wp2
    go_ret
    exact ⟨rfl,by exact bw⟩
   ·by_cases h4:c=95
    ·subst h4
     go_enter Tryz.func78,Tryz.ntmps78
     go_wp2
     go_ret
     exact ⟨rfl,by exact bw⟩
    ·have e:ltrB c=false:=by unfold ltrB;simp;omega
     have h5:((c:Int) == 95)=false:=beq_eq_false_iff_ne.2 (by omega)
     rw [e]
     clear h4
     have ff:decide ((97:Int)≤(c:Int))=false:=decide_eq_false (by omega)
     have ff:decide ((c:Int)≤(122:Int))=true:=decide_eq_true (by omega)
     have ff:decide ((65:Int)≤(c:Int))=true:=decide_eq_true (by omega)
     have ff:decide ((c:Int)≤(90:Int))=false:=decide_eq_false (by omega)
     go_enter Tryz.func78,Tryz.ntmps78
     go_wp2
     go_ret
     exact ⟨rfl,by exact bw⟩
  ·have e:ltrB c=false:=by unfold ltrB;simp;omega
   have h5:((c:Int) == 95)=false:=beq_eq_false_iff_ne.2 (by omega)
   rw [e]
   have ff:decide ((97:Int)≤(c:Int))=false:=decide_eq_false (by omega)
   have ff:decide ((c:Int)≤(122:Int))=true:=decide_eq_true (by omega)
   have ff:decide ((65:Int)≤(c:Int))=false:=decide_eq_false (by omega)
   have ff:decide ((c:Int)≤(90:Int))=true:=decide_eq_true (by omega)
   go_enter Tryz.func78,Tryz.ntmps78
   go_wp2
   go_ret
   exact ⟨rfl,by exact bw⟩
set_option maxRecDepth 10000 in
set_option maxHeartbeats 4000000 in
theorem digit22_calls (c:Nat) (w:World):Calls Tryz.prog 79 #[.int .u8 (c:Int)] w fun e w'=>e = .returned (.bool (dgtB c))∧Below w.heap.size w w':=by
 by_cases h1:48≤c
 ·by_cases h2:c≤57
  ·have e:dgtB c=true:=decide_eq_true ⟨h1,h2⟩
   rw [e]
   have ff:decide ((48:Int)≤(c:Int))=true:=decide_eq_true (by omega)
   have ff:decide ((c:Int)≤(57:Int))=true:=decide_eq_true (by omega)
   go_enter Tryz.func79,Tryz.ntmps79
   go_wp2
   go_ret
   exact ⟨rfl,by exact bw⟩
  ·have e:dgtB c=false:=decide_eq_false (by omega)
   rw [e]
   have ff:decide ((48:Int)≤(c:Int))=true:=decide_eq_true (by omega)
   have ff:decide ((c:Int)≤(57:Int))=false:=decide_eq_false (by omega)
   go_enter Tryz.func79,Tryz.ntmps79
   go_wp2
   go_ret
   exact ⟨rfl,by exact bw⟩
 ·have e:dgtB c=false:=decide_eq_false (by omega)
  rw [e]
  have ff:decide ((48:Int)≤(c:Int))=false:=decide_eq_false (by omega)
  have ff:decide ((c:Int)≤(57:Int))=true:=decide_eq_true (by omega)
  go_enter Tryz.func79,Tryz.ntmps79
  go_wp2
  go_ret
  exact ⟨rfl,by exact bw⟩
def hasB (s:ByteArray) (a x:Nat):Bool:=decide (a<s.size) && decide (lk s a=x)
set_option maxRecDepth 10000 in
set_option maxHeartbeats 4000000 in
theorem has22_calls (s:ByteArray) (a x:Nat) (w:World):Calls Tryz.prog 64 #[.string s,.int .i64 (a:Int),.int .u8 (x:Int)] w fun e w'=>e = .returned (.bool (hasB s a x))∧Below w.heap.size w w':=by
 by_cases h:a<s.size
 ·have e1:=lk_at s a h
  have e:hasB s a x=(((s[a]'h).toNat:Int) == (x:Int)):=by
   unfold hasB
   rw [decide_eq_true h,e1]
   by_cases e':(s[a]'h).toNat=x
   ·rw [e'];simp
   ·rw [decide_eq_false e',Bool.and_false];exact (beq_eq_false_iff_ne.2 (by omega)).symm
  rw [e]
  clear e e1
  go_enter Tryz.func64,Tryz.ntmps64
  go_wp2
  go_ret
  exact ⟨rfl,by exact bw⟩
 ·have e:hasB s a x=false:=by unfold hasB;rw [decide_eq_false h];rfl
  rw [e]
  go_enter Tryz.func64,Tryz.ntmps64
  go_wp2
  go_ret
  exact ⟨rfl,by exact bw⟩
def ifO (o:Option Stp):Value:=match o with | none=>.nilIface | some s=>ifV s
def starF (s:ByteArray) (a:Nat):Option Stp × Nat:=if hasB s a 42 then (some ⟨3,⟨#[]⟩,0⟩,a+1) else (none,a)
set_option maxRecDepth 10000 in
set_option maxHeartbeats 4000000 in
theorem star22_calls (s:ByteArray) (hs:s.size≤9223372036854775807) (a:Nat) (w:World):Calls Tryz.prog 62 #[.string s,.int .i64 (a:Int)] w fun e w'=>e = .returned (.tuple #[ifO (starF s a).1,.int .i64 ((starF s a).2:Int)])∧Below w.heap.size w w':=by
 have hh:=hid (has22_calls s a 42 w)
 by_cases h:hasB s a 42
 ·have e:starF s a=(some ⟨3,⟨#[]⟩,0⟩,a+1):=by unfold starF;rw [if_pos h]
  have hlt:a<s.size:=by
   unfold hasB at h
   exact of_decide_eq_true (Bool.and_eq_true_iff.1 h).1
  rw [e]
  rw [h] at hh
  clear e h
  show Calls Tryz.prog 62 #[.string s,.int .i64 (a:Int)] w fun e w'=>e = .returned (.tuple #[.iface 89 (.agg #[]),.int .i64 ((a+1:Nat):Int)])∧Below w.heap.size w w'
  go_enter Tryz.func62,Tryz.ntmps62
  go_wp2_with fail
  refine Calls.mono hh.out ?_
  rintro e w' ⟨rfl,hb⟩
  go_wp2_with fail
  go_ret2
  exact ⟨rfl,hb⟩
 ·have e:starF s a=(none,a):=by unfold starF;rw [if_neg h]
  rw [e]
  rw [Bool.eq_false_iff.2 h] at hh
  clear e h
  show Calls Tryz.prog 62 #[.string s,.int .i64 (a:Int)] w fun e w'=>e = .returned (.tuple #[.nilIface,.int .i64 (a:Int)])∧Below w.heap.size w w'
  go_enter Tryz.func62,Tryz.ntmps62
  go_wp2_with fail
  refine Calls.mono hh.out ?_
  rintro e w' ⟨rfl,hb⟩
  go_wp2_with fail
  go_ret2
  exact ⟨rfl,hb⟩
end Go.Proofs.YtjcpamjeekfblaaGreatDoor

namespace Go.Proofs.YtjcpamjeekfblaaGreatDoor
open Go.RowKit Go.Shelf
def StepsAt (w:World) (ao:Option Addr) (ss:List Stp):Prop:=∀ (i:Nat) (s:Stp),ss[i]? = some s→s.name.size≤capT∧∃ b off,ao=some ⟨b,off,none⟩∧b<w.heap.size ∧
 w.rangeAt b (off+i*3) [.int .i64 s.kind,.string s.name,.int .i64 s.place]
theorem StepsAt.kept {w w':World} {ao:Option Addr} {ss:List Stp} (h:StepsAt w ao ss) (hb:Below w.heap.size w w'):StepsAt w' ao ss:=fun i s hi=>by
 obtain ⟨h0,b,off,h1,h2,h3⟩:=h i s hi
 exact ⟨h0,b,off,h1,Nat.lt_of_lt_of_le h2 hb.size,range_kept h3 hb⟩
theorem steps_at {w:World} {ao:Option Addr} {ss:List Stp} {i:Nat} {s:Stp} (h:StepsAt w ao ss) (hi:ss[i]? = some s):∃ b off,ao=some ⟨b,off,none⟩∧b<w.heap.size∧w.rangeAt b (off+i*3) [.int .i64 s.kind,.string s.name,.int .i64 s.place]:=(h i s hi).2
set_option maxRecDepth 10000 in
set_option maxHeartbeats 4000000 in
theorem formedL_calls (ss:List Stp) (ao:Option Addr) (N cap:Nat) (hN:Hid (ss.length=N)) (hNi:N≤140737488351232) (w:World) (hk:Hid (StepsAt w ao ss)) (hT:Hid (TabU w)) :
  Calls Tryz.prog 15 #[.slice ao N cap] w fun e w'=>e = .returned (.bool (ss.all fmS))∧Below w.heap.size w w':=by
 have hNi':(N:Int)≤140737488351232:=by omega
 go_enter Tryz.func15,Tryz.ntmps15
 go_wp2
 go_loopw [7] (fun ii wr=>∃ i:Nat,i≤N∧ii = .int .i64 (i:Int)∧Hid ((ss.take i).all fmS=true)∧Hid (Below w.heap.size w wr)) (fun ii _=>N-(intOf ii).toNat)
 case atStart=>exact ⟨0,Nat.zero_le _,rfl,hid (by simp),hid (Below.refl _ _)⟩
 case round =>
  obtain ⟨i,hi,rfl,hall,hb⟩:=hrel
  by_cases hlt:i<N
  ·have hli:(i:Int)<(N:Int):=by omega
   obtain ⟨s,hs⟩:∃ s,Hid (ss[i]? = some s):=⟨_,List.getElem?_eq_getElem (by rw [hN.out];exact hlt)⟩
   have hk2:=hk.out.kept hb.out
   have hsz:=(hk2 i s hs.out).1
   obtain ⟨g,o,rfl,hg,hrg⟩:=steps_at hk2 hs.out
   have htk:=hid (show (ss.take (i+1)).all fmS=((ss.take i).all fmS && fmS s) by rw [List.take_add_one,hs.out];simp)
   have hf:=hid (fun u h=>formed22_calls s (by unfold capT at hsz;omega) u h)
   have hfin:=hid (fun (h:fmS s=false)=>(show ss.all fmS=false by rw [List.all_eq_false];exact ⟨s,List.mem_of_getElem? hs.out,by rw [h];simp⟩))
   obtain ⟨k,nm,pl⟩:=s
   have hrg':=hid hrg
   have A1:=hid (At.new wr #[.int .i64 k,.string nm,.int .i64 pl] 34)
   have B1:=hid (show Below w.heap.size w (wr.alloc (.cells #[.int .i64 k,.string nm,.int .i64 pl] 34)) from hb.out.alloc hb.out.size _)
   have T1:=hid (hT.out.below B1.out)
   have z1:(Tryz.prog.info? 34).map (·.size)=some ([.int .i64 k,.string nm,.int .i64 pl]:List Value).length:=sizeStp
   obtain ⟨q,hq⟩:∃ q,wr.heap.size=q:=⟨_,rfl⟩
   rw [hq] at A1
   obtain ⟨W1,hW1⟩:∃ W,wr.alloc (.cells #[.int .i64 k,.string nm,.int .i64 pl] 34)=W:=⟨_,rfl⟩
   rw [hW1] at A1 B1 T1
   have c0:=A1.out.cell 0
   have c1:=A1.out.cell 1
   have c2:=A1.out.cell 2
   simp only [List.getElem?_toArray,List.getElem?_cons_zero,List.getElem?_cons_succ] at c0 c1 c2
   dsimp only at hf
   have hlt':=hid (show i+1≤N by omega)
   cases hfm:fmS ⟨k,nm,pl⟩ with
   | true =>
    rw [hfm] at hf htk
    clear hs hk2 hsz hg hrg hb hfin
    go_wp2_with (first | refine wpList_load_want 34 _ g (o+i*3) [.int .i64 k,.string nm,.int .i64 pl] _ hrg'.out Tryz.underlying34 z1 rfl rfl rfl (by rfl) ?_ | fail)
    refine Calls.mono (hf.out _ T1.out) ?_
    rintro e w3 ⟨rfl,b3⟩
    have B3:=hid (B1.out.trans (b3.mono B1.out.size))
    clear b3 hf A1 B1 T1 c0 c1 c2 hW1
    go_wp2
    go_roundw
    case rel=>exact ⟨i+1,hlt'.out,by simp,hid (by rw [htk.out,hall.out];rfl),B3⟩
    case measure=>simp [intOf];have:=hlt'.out;omega
   | false =>
    rw [hfm] at hf
    have hres:=hid (hfin.out hfm)
    clear hs hk2 hsz hg hrg hb hfin htk
    go_wp2_with (first | refine wpList_load_want 34 _ g (o+i*3) [.int .i64 k,.string nm,.int .i64 pl] _ hrg'.out Tryz.underlying34 z1 rfl rfl rfl (by rfl) ?_ | fail)
    refine Calls.mono (hf.out _ T1.out) ?_
    rintro e w3 ⟨rfl,b3⟩
    have B3:=hid (B1.out.trans (b3.mono B1.out.size))
    clear b3 hf A1 B1 T1 c0 c1 c2 hW1
    go_wp2
    go_ret
    exact ⟨by rw [hres.out];rfl,B3.out⟩
  ·obtain rfl:i=N:=by omega
   have hfin:Hid (ss.all fmS=true):=hid (by have:=hall.out;rwa [List.take_of_length_le (by rw [hN.out];exact Nat.le_refl _)] at this)
   go_wp2
   go_ret
   exact ⟨by rw [hfin.out];rfl,hb.out⟩
end Go.Proofs.YtjcpamjeekfblaaGreatDoor

namespace Go.Proofs.YtjcpamjeekfblaaGreatDoor
open Go.RowKit Go.Shelf
def wdOk (t:ByteArray) (i:Nat):Bool:=ltrB (lk t i) || (decide (i≠0) && dgtB (lk t i))
def IsWd (t:ByteArray) (n:Nat):Prop:=n≤t.size∧(∀ j,j<n→wdOk t j=true)∧(n<t.size→wdOk t n=false)
theorem IsWd.uniq {t:ByteArray} {n m:Nat} (h:IsWd t n) (h':IsWd t m):n=m:=by
 obtain ⟨a,b,c⟩:=h
 obtain ⟨a',b',c'⟩:=h'
 rcases Nat.lt_trichotomy n m with q | q | q
 ·have:=b' n q
  rw [c (by omega)] at this
  cases this
 ·exact q
 ·have:=b m q
  rw [c' (by omega)] at this
  cases this
theorem wd_from (t:ByteArray):∀ k q:Nat,q+k=t.size→(∀ j,j<q→wdOk t j=true)→∃ n,IsWd t n
 | 0,q,hq,h=>⟨q,by omega,h,fun h'=>by omega⟩
 | k+1,q,hq,h=>by
  cases e:wdOk t q with
  | true=>exact wd_from t k (q+1) (by omega) (fun j hj=>by
    rcases Nat.lt_or_ge j q with h1 | h1
    ·exact h j h1
    ·obtain rfl:j=q:=by omega
     exact e)
  | false=>exact ⟨q,by omega,h,fun _=>e⟩
theorem wd_ex (t:ByteArray):∃ n,IsWd t n:=wd_from t t.size 0 (by omega) (fun j hj=>by omega)
set_option maxRecDepth 10000 in
set_option maxHeartbeats 4000000 in
theorem word22_calls (t:ByteArray) (ht:t.size≤140737488351232) (n:Nat) (hn:Hid (IsWd t n)) (w:World):Calls Tryz.prog 49 #[.string t] w fun e w'=>e = .returned (.int .i64 (n:Int))∧Below w.heap.size w w':=by
 have hti:(t.size:Int)≤140737488351232:=by omega
 go_enter Tryz.func49,Tryz.ntmps49
 go_wp2
 go_loopw [6] (fun ii wr=>∃ q:Nat,q≤t.size∧ii = .int .i64 (q:Int)∧Hid (∀ j,j<q→wdOk t j=true)∧Hid (Below w.heap.size w wr)) (fun ii _=>t.size-(intOf ii).toNat)
 case atStart=>exact ⟨0,Nat.zero_le _,rfl,hid (fun j hj=>by omega),hid (Below.refl _ _)⟩
 case round =>
  obtain ⟨q,hq,rfl,hall,hb⟩:=hrel
  by_cases hlt:q<t.size
  ·have hli:(q:Int)<(t.size:Int):=by omega
   have e1:=lk_at t q hlt
   have hL:=hid (fun u=>letter22_calls (t[q]'hlt).toNat u)
   have hD:=hid (fun u=>digit22_calls (t[q]'hlt).toNat u)
   have hw:Hid (wdOk t q=(ltrB (t[q]'hlt).toNat || (decide (q≠0) && dgtB (t[q]'hlt).toNat))):=hid (by unfold wdOk;rw [e1])
   have hnxt:=hid (fun (h:wdOk t q=true)=>show ∀ j,j<q+1→wdOk t j=true from fun j hj=>by
    rcases Nat.lt_or_ge j q with h1 | h1
    ·exact hall.out j h1
    ·obtain rfl:j=q:=by omega
     exact h)
   have hend:=hid (fun (h:wdOk t q=false)=>show q=n from IsWd.uniq (t:=t) ⟨by omega,hall.out,fun _=>h⟩ hn.out)
   have hlt':=hid (show q+1≤t.size by omega)
   clear e1
   cases hl:ltrB (t[q]'hlt).toNat with
   | true =>
    rw [hl] at hL hw
    clear hl hend hD
    go_wp2_with fail
    refine Calls.mono (hL.out _) ?_
    rintro e w3 ⟨rfl,b3⟩
    have B3:=hid (hb.out.trans (b3.mono hb.out.size))
    clear b3 hL
    go_wp2_with fail
    go_roundw
    case rel=>exact ⟨q+1,hlt'.out,by simp,hid (hnxt.out (by rw [hw.out];rfl)),B3⟩
    case measure=>simp [intOf];have:=hlt'.out;omega
   | false =>
    rw [hl] at hL hw
    clear hl
    by_cases h0:q=0
    ·subst h0
     go_wp2_with fail
     refine Calls.mono (hL.out _) ?_
     rintro e w3 ⟨rfl,b3⟩
     have B3:=hid (hb.out.trans (b3.mono hb.out.size))
     clear b3 hL
     go_wp2_with fail
     go_ret
     exact ⟨by rw [← hend.out (by rw [hw.out];rfl)];rfl,B3.out⟩
    ·have h00:((q:Int) == 0)=false:=beq_eq_false_iff_ne.2 (by omega)
     have h01:=hid h0
     cases hd:dgtB (t[q]'hlt).toNat with
     | true =>
      rw [hd] at hD hw
      clear hd hend h0
      go_wp2_with fail
      refine Calls.mono (hL.out _) ?_
      rintro e w3 ⟨rfl,b3⟩
      have B3:=hid (hb.out.trans (b3.mono hb.out.size))
      clear b3 hL
      go_wp2_with fail
      refine Calls.mono (hD.out _) ?_
      rintro e w4 ⟨rfl,b4⟩
      have B4:=hid (B3.out.trans (b4.mono B3.out.size))
      clear b4 hD
      go_wp2_with fail
      go_roundw
      case rel=>exact ⟨q+1,hlt'.out,by simp,hid (hnxt.out (by rw [hw.out,decide_eq_true h01.out];rfl)),B4⟩
      case measure=>simp [intOf];have:=hlt'.out;omega
     | false =>
      rw [hd] at hD hw
      clear hd h0
      go_wp2_with fail
      refine Calls.mono (hL.out _) ?_
      rintro e w3 ⟨rfl,b3⟩
      have B3:=hid (hb.out.trans (b3.mono hb.out.size))
      clear b3 hL
      go_wp2_with fail
      refine Calls.mono (hD.out _) ?_
      rintro e w4 ⟨rfl,b4⟩
      have B4:=hid (B3.out.trans (b4.mono B3.out.size))
      clear b4 hD
      go_wp2_with fail
      go_ret
      exact ⟨by rw [← hend.out (by rw [hw.out];simp)];rfl,B4.out⟩
  ·obtain rfl:q=t.size:=by omega
   have hfin:Hid (t.size=n):=hid (IsWd.uniq (t:=t) ⟨Nat.le_refl _,hall.out,fun h=>absurd h (Nat.lt_irrefl _)⟩ hn.out)
   go_wp2
   go_ret
   exact ⟨by rw [← hfin.out];rfl,hb.out⟩
end Go.Proofs.YtjcpamjeekfblaaGreatDoor

namespace Go.Proofs.YtjcpamjeekfblaaGreatDoor
open Go.RowKit Go.Shelf
def bpF (s:ByteArray) (a n:Nat):Option Stp × Nat:=if 0<n then (some ⟨1,s.extract a (a+n),0⟩,a+n) else starF s a
set_option maxRecDepth 10000 in
set_option maxHeartbeats 4000000 in
theorem behind22_calls (s:ByteArray) (hs:s.size≤140737488351232) (a:Nat) (ha:a≤s.size) (n:Nat) (hn:Hid (IsWd (s.extract a s.size) n)) (w:World):Calls Tryz.prog 38 #[.string s,.int .i64 (a:Int)] w fun e w'=>e = .returned (.tuple #[ifO (bpF s a n).1,.int .i64 ((bpF s a n).2:Int)])∧Below w.heap.size w w':=by
 have hsi:(s.size:Int)≤140737488351232:=by omega
 have hai:(a:Int)≤(s.size:Int):=by omega
 have hxs:(s.extract a s.size).size=s.size-a:=by rw [ByteArray.size_extract];omega
 have hna:a+n≤s.size:=by have:=hn.out.1;omega
 have hnai:(a:Int)+(n:Int)≤(s.size:Int):=by omega
 have hw:=hid (fun u=>word22_calls (s.extract a s.size) (by omega) n hn u)
 have hst:=hid (fun u=>star22_calls s (by omega) a u)
 have hcl:=hid (fun u=>cloneT_calls (s.extract a (a+n)) (by rw [ByteArray.size_extract];omega) u)
 clear hxs hn
 by_cases h0:0<n
 ·have e:bpF s a n=(some ⟨1,s.extract a (a+n),0⟩,a+n):=by unfold bpF;rw [if_pos h0]
  rw [e]
  clear e hst
  have h0i:(0:Int)<(n:Int):=by omega
  show Calls Tryz.prog 38 #[.string s,.int .i64 (a:Int)] w fun e w'=>e = .returned (.tuple #[.iface 85 (.string (s.extract a (a+n))),.int .i64 ((a+n:Nat):Int)])∧Below w.heap.size w w'
  go_enter Tryz.func38,Tryz.ntmps38
  go_wp2_with fail
  refine Calls.mono (hw.out _) ?_
  rintro e w1 ⟨rfl,b1⟩
  have B1:=hid b1
  clear b1 hw
  go_wp2_with fail
  refine Calls.mono (hcl.out _) ?_
  rintro e w2 ⟨rfl,b2⟩
  have B2:=hid (B1.out.trans (b2.mono B1.out.size))
  clear b2 hcl
  go_wp2_with fail
  go_ret2
  exact ⟨rfl,B2.out⟩
 ·obtain rfl:n=0:=by omega
  have e:bpF s a 0=starF s a:=rfl
  rw [e]
  clear e hcl h0 hna hnai
  generalize starF s a=ox at hst ⊢
  obtain ⟨o,x⟩:=ox
  dsimp only at hst ⊢
  generalize ifO o=X at hst ⊢
  go_enter Tryz.func38,Tryz.ntmps38
  go_wp2_with fail
  refine Calls.mono (hw.out _) ?_
  rintro e w1 ⟨rfl,b1⟩
  have B1:=hid b1
  clear b1 hw
  go_wp2_with fail
  refine Calls.mono (hst.out _) ?_
  rintro e w2 ⟨rfl,b2⟩
  have B2:=hid (B1.out.trans (b2.mono B1.out.size))
  clear b2 hst
  go_wp2_with fail
  go_ret2
  exact ⟨rfl,B2.out⟩
def IsNm (s:ByteArray) (a e:Nat):Prop:=a≤e∧e≤s.size∧(∀ j,a<j→j≤e→plB (s.extract a j)=true)∧(e<s.size→plB (s.extract a (e+1))=false)
theorem IsNm.uniq {s:ByteArray} {a n m:Nat} (h:IsNm s a n) (h':IsNm s a m):n=m:=by
 obtain ⟨x,y,b,c⟩:=h
 obtain ⟨x',y',b',c'⟩:=h'
 rcases Nat.lt_trichotomy n m with q | q | q
 ·have:=b' (n+1) (by omega) (by omega)
  rw [c (by omega)] at this
  cases this
 ·exact q
 ·have:=b (m+1) (by omega) (by omega)
  rw [c' (by omega)] at this
  cases this
theorem nm_from (s:ByteArray) (a:Nat):∀ k q:Nat,q+k=s.size→a≤q→(∀ j,a<j→j≤q→plB (s.extract a j)=true)→∃ n,IsNm s a n
 | 0,q,hq,ha,h=>⟨q,ha,by omega,h,fun h'=>by omega⟩
 | k+1,q,hq,ha,h=>by
  cases e:plB (s.extract a (q+1)) with
  | true=>exact nm_from s a k (q+1) (by omega) (by omega) (fun j h1 h2=>by
    rcases Nat.lt_or_ge j (q+1) with h3 | h3
    ·exact h j h1 (by omega)
    ·obtain rfl:j=q+1:=by omega
     exact e)
  | false=>exact ⟨q,ha,by omega,h,fun _=>e⟩
theorem nm_ex (s:ByteArray) (a:Nat) (ha:a≤s.size):∃ n,IsNm s a n:=nm_from s a (s.size-a) a (by omega) (Nat.le_refl _) (fun j h1 h2=>by omega)
def nmF (s:ByteArray) (a e:Nat):Option Stp:=if a<e then some ⟨2,⟨#[]⟩,plV (s.extract a e)⟩ else none
set_option maxRecDepth 10000 in
set_option maxHeartbeats 4000000 in
theorem number22_calls (s:ByteArray) (hs:s.size≤140737488351232) (a:Nat) (ha:a≤s.size) (n:Nat) (hn:Hid (IsNm s a n)) (w:World):Calls Tryz.prog 88 #[.string s,.int .i64 (a:Int)] w fun e w'=>e = .returned (.tuple #[ifO (nmF s a n),.int .i64 (n:Int)])∧Below w.heap.size w w':=by
 have hsi:(s.size:Int)≤140737488351232:=by omega
 have hai:(a:Int)≤(s.size:Int):=by omega
 go_enter Tryz.func88,Tryz.ntmps88
 go_wp2
 go_loopw [6,7] (fun xx ii wr=>∃ q:Nat,a≤q∧q≤s.size∧xx=ifO (nmF s a q)∧ii = .int .i64 (q:Int)∧Hid (∀ j,a<j→j≤q→plB (s.extract a j)=true)∧Hid (Below w.heap.size w wr)) (fun _ ii _=>s.size-(intOf ii).toNat)
 case atStart=>exact ⟨a,Nat.le_refl _,ha,by unfold nmF;rw [if_neg (Nat.lt_irrefl _)];rfl,rfl,hid (fun j h1 h2=>by omega),hid (Below.refl _ _)⟩
 case round =>
  obtain ⟨q,haq,hq,rfl,rfl,hall,hb⟩:=hrel
  by_cases hlt:q<s.size
  ·have hli:(q:Int)<(s.size:Int):=by omega
   have hq1:q+1≤s.size:=by omega
   have hP:=hid (fun u=>plc_calls (s.extract a (q+1)) (by rw [ByteArray.size_extract];omega) u)
   have hnxt:=hid (fun (h:plB (s.extract a (q+1))=true)=>show ∀ j,a<j→j≤q+1→plB (s.extract a j)=true from fun j h1 h2=>by
    rcases Nat.lt_or_ge j (q+1) with h3 | h3
    ·exact hall.out j h1 (by omega)
    ·obtain rfl:j=q+1:=by omega
     exact h)
   have hend:=hid (fun (h:plB (s.extract a (q+1))=false)=>show q=n from IsNm.uniq (s:=s) ⟨haq,hq,hall.out,fun _=>h⟩ hn.out)
   have hlt':=hid (show q+1≤s.size by omega)
   have hX:Hid (ifO (nmF s a (q+1)) = .iface 87 (.int .i64 (plV (s.extract a (q+1))))):=hid (by unfold nmF;rw [if_pos (by omega)];rfl)
   have haq':=hid haq
   cases hl:plB (s.extract a (q+1)) with
   | true =>
    rw [hl] at hP
    have hnx:=hid (hnxt.out hl)
    clear hl hend hnxt
    generalize ifO (nmF s a q)=X at *
    go_wp2_with fail
    refine Calls.mono (hP.out _) ?_
    rintro e w3 ⟨rfl,b3⟩
    have B3:=hid (hb.out.trans (b3.mono hb.out.size))
    clear b3 hP
    go_wp2_with fail
    go_roundw
    case rel=>exact ⟨q+1,by have:=haq'.out;omega,hlt'.out,hX.out.symm,by simp,hnx,B3⟩
    case measure=>simp [intOf];have:=hlt'.out;omega
   | false =>
    rw [hl] at hP
    obtain rfl:=hend.out hl
    clear hl hend hnxt hX
    generalize hx:ifO (nmF s a q)=X at *
    have hx':=hid hx
    clear hx
    go_wp2_with fail
    refine Calls.mono (hP.out _) ?_
    rintro e w3 ⟨rfl,b3⟩
    have B3:=hid (hb.out.trans (b3.mono hb.out.size))
    clear b3 hP
    go_wp2_with fail
    go_ret2
    exact ⟨by rw [hx'.out];rfl,B3.out⟩
  ·obtain rfl:q=s.size:=by omega
   obtain rfl:s.size=n:=IsNm.uniq (s:=s) ⟨haq,Nat.le_refl _,hall.out,fun h=>absurd h (Nat.lt_irrefl _)⟩ hn.out
   generalize hx:ifO (nmF s a s.size)=X at *
   have hx':=hid hx
   clear hx
   go_wp2
   go_ret2
   exact ⟨by rw [hx'.out];rfl,hb.out⟩
end Go.Proofs.YtjcpamjeekfblaaGreatDoor

/- A machine that takes a text byte by byte,in numbers. -/
namespace Go.Proofs.YtjcpamjeekfblaaGreatDoor
structure Mc where
  op:List Nat
  st:Nat
  nm:Bool
  wd:List Nat
  lf:Nat
  lo:Nat
  hi:Nat
def mc0:Mc:=⟨[],0,false,[],0,0,0⟩
def blankN (c:Nat):Bool:=decide (c=32∨c=9∨c=10∨c=13)
def digN (c:Nat):Bool:=decide (48≤c∧c≤57)
def hexN (c:Nat):Bool:=decide ((48≤c∧c≤57)∨(97≤c∧c≤102)∨(65≤c∧c≤70))
def topN (m:Mc):Nat:=m.op.getLastD 0
def valueM (m:Mc) (c:Nat):Option Mc :=
  if c=91 then some { m with nm:=false,op:=m.op++[91],st:=1 }
  else if c=123 then some { m with nm:=false,op:=m.op++[123],st:=2 }
  else if c=34 then some { m with nm:=false,st:=6 }
  else if c=45 then some { m with nm:=false,st:=10 }
  else if c=48 then some { m with nm:=false,st:=11 }
  else if digN c=true then some { m with nm:=false,st:=12 }
  else if c=110 then some { m with nm:=false,st:=9,wd:=[117,108,108] }
  else if c=116 then some { m with nm:=false,st:=9,wd:=[114,117,101] }
  else if c=102 then some { m with nm:=false,st:=9,wd:=[97,108,115,101] }
  else none
def afterM (m:Mc) (c:Nat):Option Mc :=
  if blankN c=true then some { m with st:=5 }
  else if c=44∧topN m=91 then some { m with st:=0 }
  else if c=44∧topN m=123 then some { m with st:=3 }
  else if (c=93∧topN m=91)∨(c=125∧topN m=123) then some { m with st:=5,op:=m.op.dropLast }
  else none
def lowB (c:Nat):Nat:=if c=224 then 160 else if c=240 then 144 else 128
def highB (c:Nat):Nat:=if c=237 then 159 else if c=244 then 143 else 191
def charM (m:Mc) (c:Nat):Option Mc :=
  if 0<m.lf then (if c<m.lo∨m.hi<c then none else some { m with lf:=m.lf-1,lo:=128,hi:=191 })
  else if c=34∧m.nm=true then some { m with st:=4,lo:=128,hi:=191 }
  else if c=34 then some { m with st:=5,lo:=128,hi:=191 }
  else if c=92 then some { m with st:=7,lo:=128,hi:=191 }
  else if 32≤c∧c<128 then some { m with lo:=128,hi:=191 }
  else if 194≤c∧c<224 then some { m with lf:=1,lo:=128,hi:=191 }
  else if 224≤c∧c<240 then some { m with lf:=2,lo:=lowB c,hi:=highB c }
  else if 240≤c∧c<245 then some { m with lf:=3,lo:=lowB c,hi:=highB c }
  else none
def escM (m:Mc) (c:Nat):Option Mc :=
  if m.st=8 then (if hexN c=true then some { m with lf:=m.lf-1,st:=if m.lf=1 then 6 else 8 } else none)
  else if c=34∨c=92∨c=47∨c=98∨c=102∨c=110∨c=114∨c=116 then some { m with st:=6 }
  else if c=117 then some { m with st:=8,lf:=4 }
  else none
def numM (m:Mc) (c:Nat):Option Mc :=
  if m.st=10∧c=48 then some { m with st:=11 }
  else if m.st=10∧digN c=true then some { m with st:=12 }
  else if m.st=10 then none
  else if (m.st=12∨m.st=14∨m.st=17)∧digN c=true then some m
  else if (m.st=11∨m.st=12)∧c=46 then some { m with st:=13 }
  else if m.st=13 then (if digN c=true then some { m with st:=14 } else none)
  else if (m.st=11∨m.st=12∨m.st=14)∧(c=101∨c=69) then some { m with st:=15 }
  else if m.st=15∧(c=43∨c=45) then some { m with st:=16 }
  else if m.st=15∨m.st=16 then (if digN c=true then some { m with st:=17 } else none)
  else afterM m c
def stepM (m:Mc) (c:Nat):Option Mc :=
  if 10≤m.st then numM m c
  else if m.st=6 then charM m c
  else if m.st=7∨m.st=8 then escM m c
  else if m.st=9 then (match m.wd with
    | []=>none
    | x :: r=>if x=c then some { m with wd:=r,st:=if r=[] then 5 else 9 } else none)
  else if blankN c=true then some m
  else if m.st=5 then afterM m c
  else if m.st=4 then (if c=58 then some { m with st:=0 } else none)
  else if m.st=0 then valueM m c
  else if (m.st=1∧c=93)∨(m.st=2∧c=125) then some { m with op:=m.op.dropLast,st:=5 }
  else if m.st=1 then valueM m c
  else if c=34 then some { m with nm:=true,st:=6 } else none
def runM (m:Mc):List Nat→Nat × Mc
  | []=>(0,m)
  | x :: l=>match stepM m x with
    | none=>(0,m)
    | some m'=>((runM m' l).1+1,(runM m' l).2)
def wholeM (m:Mc):Bool:=m.op.isEmpty && decide (m.st=5∨m.st=11∨m.st=12∨m.st=14∨m.st=17)
end Go.Proofs.YtjcpamjeekfblaaGreatDoor
/- The machine: what holds of it at all times;and a text that is taken within brackets. -/
namespace Go.Proofs.YtjcpamjeekfblaaGreatDoor
structure Fit (m:Mc):Prop where
  st:m.st≤17
  lf:m.st≠6→m.st≠8→m.lf=0
  wd:∀ x ∈ m.wd,97≤x∧x≤122
  s1:m.st=1→topN m=91
  s2:m.st=2∨m.st=3∨m.st=4→topN m=123
  s6:(m.st=6∨m.st=7∨m.st=8)→m.nm=true→topN m=123
theorem fit0:Fit mc0:=⟨by decide,fun _ _=>rfl,(by simp [mc0]),(by simp [mc0]),(by simp [mc0]),(by simp [mc0])⟩
theorem value_fit {m m':Mc} {c:Nat} (f:Fit m) (h0:m.lf=0) (h:valueM m c=some m'):Fit m':=by
  unfold valueM at h
  repeat' split at h
  all_goals first
    | (cases h;done)
    | (injection h with h;subst h
       refine ⟨by simp,by simp [h0],?_,?_,?_,?_⟩ <;> first
        | (intro x hx;exact f.wd x hx)
        | (simp [topN];done)
        | (simp;done))
theorem after_fit {m m':Mc} {c:Nat} (f:Fit m) (h0:m.lf=0) (h:afterM m c=some m'):Fit m':=by
  unfold afterM at h
  repeat' split at h
  all_goals first
    | (cases h;done)
    | (injection h with h;subst h
       refine ⟨by simp,by simp [h0],fun x hx=>f.wd x hx,by simp,?_,by simp⟩ <;> first
        | (simp;done)
        | (rename_i hc;intro _;exact hc.2))
theorem char_fit {m m':Mc} {c:Nat} (f:Fit m) (hs:m.st=6) (h:charM m c=some m'):Fit m':=by
  unfold charM at h
  have hn:=f.s6 (Or.inl hs)
  repeat' split at h
  all_goals first
    | (cases h;done)
    | (injection h with h;subst h
       refine ⟨by simp [hs],?_,fun x hx=>f.wd x hx,by simp [hs],?_,?_⟩ <;> first
        | (simp [hs];done)
        | (intro _ _;simp at *;omega)
        | (intro _ hh;exact hn hh)
        | (intro _;exact hn (by simp_all)))
theorem esc_fit {m m':Mc} {c:Nat} (f:Fit m) (hs:m.st=7∨m.st=8) (h:escM m c=some m'):Fit m':=by
  unfold escM at h
  have hn:=f.s6 (Or.inr hs)
  have h7:m.st=7→m.lf=0:=fun h=>f.lf (by omega) (by omega)
  repeat' split at h
  all_goals first
    | (cases h;done)
    | (injection h with h;subst h
       refine ⟨?_,?_,fun x hx=>f.wd x hx,?_,?_,?_⟩ <;> first
        | (intro _ hh;exact hn hh)
        | (simp;done)
        | (simp;split <;> simp;done)
        | (simp;split <;> omega))
theorem num_fit {m m':Mc} {c:Nat} (f:Fit m) (hs:10≤m.st) (h:numM m c=some m'):Fit m':=by
  unfold numM at h
  have h0:m.lf=0:=f.lf (by omega) (by omega)
  repeat' split at h
  all_goals first
    | (cases h;done)
    | (exact after_fit f h0 h)
    | (injection h with h;subst h;exact f)
    | (injection h with h;subst h
       exact ⟨by simp,by simp [h0],fun x hx=>f.wd x hx,by simp,by simp,by simp⟩)
theorem step_fit {m m':Mc} {c:Nat} (f:Fit m) (h:stepM m c=some m'):Fit m':=by
  unfold stepM at h
  split at h
  · exact num_fit f (by assumption) h
  split at h
  · exact char_fit f (by assumption) h
  split at h
  · exact esc_fit f (by assumption) h
  have h0:m.lf=0:=f.lf (by omega) (by omega)
  split at h
  · split at h
    · exact absurd h (by simp)
    · rename_i x r hw
      split at h
      · injection h with h;subst h
        refine ⟨?_,by simp [h0],fun y hy=>f.wd y (by rw [hw];exact List.mem_cons_of_mem _ hy),?_,?_,?_⟩ <;> (simp;split <;> simp)
      · exact absurd h (by simp)
  split at h
  · injection h with h;subst h;exact f
  split at h
  · exact after_fit f h0 h
  split at h
  · split at h
    · injection h with h;subst h
      exact ⟨by simp,by simp [h0],fun x hx=>f.wd x hx,by simp,by simp,by simp⟩
    · exact absurd h (by simp)
  split at h
  · exact value_fit f h0 h
  split at h
  · injection h with h;subst h
    exact ⟨by simp,by simp [h0],fun x hx=>f.wd x hx,by simp,by simp,by simp⟩
  split at h
  · exact value_fit f h0 h
  split at h
  · injection h with h;subst h
    have hst:=f.st
    refine ⟨by simp,by simp [h0],fun x hx=>f.wd x hx,by simp,by simp,fun _ _=>?_⟩
    exact f.s2 (by omega)
  · exact absurd h (by simp)
def takeM (m:Mc):List Nat→Option Mc
  | []=>some m
  | x :: l=>match stepM m x with
    | none=>none
    | some m'=>takeM m' l
theorem takeM_cons {m m1:Mc} {x:Nat} {l:List Nat} (h:stepM m x=some m1):takeM m (x :: l)=takeM m1 l:=by
  simp [takeM,h]
theorem takeM_app (m:Mc) (a b:List Nat):takeM m (a++b)=(takeM m a).bind (fun k=>takeM k b):=by
  induction a generalizing m with
  | nil=>rfl
  | cons x a ih =>
    simp only [List.cons_append,takeM]
    cases stepM m x with
    | none=>rfl
    | some k=>exact ih k
theorem take_fit {m m':Mc} {l:List Nat} (f:Fit m) (h:takeM m l=some m'):Fit m':=by
  induction l generalizing m with
  | nil=>simp [takeM] at h;subst h;exact f
  | cons x l ih =>
    simp only [takeM] at h
    cases hs:stepM m x with
    | none=>rw [hs] at h;exact absurd h (by simp)
    | some k=>rw [hs] at h;exact ih (step_fit f hs) h
theorem run_take (m:Mc) (l:List Nat):((runM m l).1=l.length ↔ (takeM m l).isSome=true)∧(∀ m',takeM m l=some m'→(runM m l).2=m')∧(runM m l).1≤l.length:=by
  induction l generalizing m with
  | nil=>simp [runM,takeM]
  | cons x l ih =>
    simp only [runM,takeM]
    cases hs:stepM m x with
    | none=>simp
    | some k =>
      have:=ih k
      simp only [List.length_cons]
      refine ⟨?_,this.2.1,by omega⟩
      rw [← this.1];omega
def docM (l:List Nat):Prop:=∃ m,takeM mc0 l=some m∧wholeM m=true
end Go.Proofs.YtjcpamjeekfblaaGreatDoor
/- The machine within brackets takes what the machine alone takes. -/
namespace Go.Proofs.YtjcpamjeekfblaaGreatDoor
theorem op_ne {m:Mc} (h:topN m≠0):m.op≠[]:=by
  intro e;exact h (by simp [topN,e])
end Go.Proofs.YtjcpamjeekfblaaGreatDoor
/- Documents with blanks and brackets around them. -/
namespace Go.Proofs.YtjcpamjeekfblaaGreatDoor
theorem whole_of {m:Mc} (h:m.op=[]) (hs:m.st=5∨m.st=11∨m.st=12∨m.st=14∨m.st=17):wholeM m=true:=by
  simp [wholeM,h,hs]
theorem step_behind {m : Mc} {c : Nat} (hs : m.st = 5 ∨ m.st = 11 ∨ m.st = 12 ∨ m.st = 14 ∨ m.st = 17)
    (hd:digN c=false) (h1:c≠46) (h2:c≠101) (h3:c≠69):stepM m c=afterM m c:=by
  have hb:¬ (digN c=true):=by simp [hd]
  unfold stepM
  by_cases h10:10≤m.st
  · rw [if_pos h10]
    unfold numM
    rw [if_neg (by omega),if_neg (by omega),if_neg (by omega),if_neg (fun h=>hb h.2),if_neg (by omega),if_neg (by omega),if_neg (by omega),if_neg (by omega),if_neg (by omega)]
  · rw [if_neg h10,if_neg (by omega),if_neg (by omega),if_neg (by omega)]
    by_cases h5:blankN c=true
    · rw [if_pos h5]
      unfold afterM
      rw [if_pos h5]
      have:m.st=5:=by omega
      rw [← this]
    · rw [if_neg h5,if_pos (by omega)]
def mostM (m:Mc):List Nat→Nat
  | []=>m.op.length
  | x :: l=>match stepM m x with
    | none=>m.op.length
    | some k=>max m.op.length (mostM k l)
theorem most_cons {m k:Mc} {x:Nat} {l:List Nat} (h:stepM m x=some k):mostM m (x :: l)=max m.op.length (mostM k l):=by
  simp [mostM,h]
theorem shut {k : Mc} {a c : Nat} (ho : k.op = [a]) (hs : k.st = 5 ∨ k.st = 11 ∨ k.st = 12 ∨ k.st = 14 ∨ k.st = 17)
    (hc:(a=91∧c=93)∨(a=123∧c=125)):∃ q,takeM k [c]=some q∧wholeM q=true∧mostM k [c]=1:=by
  have ht:topN k=a:=by simp [topN,ho]
  have e:stepM k c=some { k with st:=5,op:=k.op.dropLast }:=by
    rw [step_behind hs (by simp only [digN,decide_eq_false_iff_not];omega) (by omega) (by omega) (by omega)]
    unfold afterM
    rw [if_neg (by simp only [blankN,decide_eq_true_eq];omega),if_neg (by omega),if_neg (by omega),if_pos (by rw [ht];omega)]
  refine ⟨_,takeM_cons e,whole_of (by simp [ho]) (Or.inl rfl),?_⟩
  rw [most_cons e]
  simp [mostM,ho]
end Go.Proofs.YtjcpamjeekfblaaGreatDoor
/- A beginning of a document can be brought to its end. -/
namespace Go.Proofs.YtjcpamjeekfblaaGreatDoor
structure Fit2 (m:Mc):Prop where
  op:∀ x ∈ m.op,x=91∨x=123
  l8:m.st=8→1≤m.lf
  l6:m.st=6→0<m.lf→m.lo≤m.hi
  w9:m.st=9→m.wd≠[]
theorem fit20:Fit2 mc0:=⟨by simp [mc0],by simp [mc0],by simp [mc0],by simp [mc0]⟩
theorem value_fit2 {m m':Mc} {c:Nat} (f:Fit2 m) (h0:m.lf=0) (h:valueM m c=some m'):Fit2 m':=by
  unfold valueM at h
  repeat' split at h
  all_goals first
    | (cases h;done)
    | (injection h with h;subst h
       refine ⟨?_,by simp,by simp [h0],by simp⟩
       intro x hx
       simp only [List.mem_append,List.mem_singleton] at hx
       rcases hx with hx | hx
       · exact f.op x hx
       · omega)
    | (injection h with h;subst h
       exact ⟨fun x hx=>f.op x hx,by simp,by simp [h0],by simp⟩)
theorem after_fit2 {m m':Mc} {c:Nat} (f:Fit2 m) (h:afterM m c=some m'):Fit2 m':=by
  unfold afterM at h
  repeat' split at h
  all_goals first
    | (cases h;done)
    | (injection h with h;subst h
       exact ⟨fun x hx=>f.op x ((List.dropLast_sublist _).mem hx),by simp,by simp,by simp⟩)
    | (injection h with h;subst h
       exact ⟨fun x hx=>f.op x hx,by simp,by simp,by simp⟩)
theorem low_high (c:Nat):lowB c≤highB c:=by
  unfold lowB highB
  repeat' split
  all_goals omega
theorem char_fit2 {m m':Mc} {c:Nat} (f:Fit2 m) (hs:m.st=6) (h:charM m c=some m'):Fit2 m':=by
  unfold charM at h
  have hb:=low_high c
  repeat' split at h
  all_goals first
    | (cases h;done)
    | (injection h with h;subst h
       refine ⟨fun x hx=>f.op x hx,by simp [hs],?_,by simp [hs]⟩
       intro _ _
       simp only
       omega)
theorem esc_fit2 {m m':Mc} {c:Nat} (f:Fit2 m) (g:Fit m) (hs:m.st=7∨m.st=8) (h:escM m c=some m'):Fit2 m':=by
  unfold escM at h
  have h7:m.st=7→m.lf=0:=fun h=>g.lf (by omega) (by omega)
  have h8:=f.l8
  by_cases e:m.st=8
  · rw [if_pos e] at h
    by_cases e2:hexN c=true
    · rw [if_pos e2] at h
      injection h with h;subst h
      have:=h8 e
      refine ⟨fun x hx=>f.op x hx,?_,?_,?_⟩ <;> (simp only;split <;> omega)
    · rw [if_neg e2] at h;cases h
  · rw [if_neg e] at h
    have:=h7 (by omega)
    repeat' split at h
    all_goals first
      | (cases h;done)
      | (injection h with h;subst h
         refine ⟨fun x hx=>f.op x hx,?_,?_,?_⟩ <;> (simp only;omega))
theorem num_fit2 {m m':Mc} {c:Nat} (f:Fit2 m) (h:numM m c=some m'):Fit2 m':=by
  unfold numM at h
  repeat' split at h
  all_goals first
    | (cases h;done)
    | (exact after_fit2 f h)
    | (injection h with h;subst h;exact f)
    | (injection h with h;subst h
       exact ⟨fun x hx=>f.op x hx,by simp,by simp,by simp⟩)
theorem step_fit2 {m m':Mc} {c:Nat} (f:Fit2 m) (g:Fit m) (h:stepM m c=some m'):Fit2 m':=by
  unfold stepM at h
  by_cases h1:10≤m.st
  · rw [if_pos h1] at h;exact num_fit2 f h
  rw [if_neg h1] at h
  by_cases h2:m.st=6
  · rw [if_pos h2] at h;exact char_fit2 f h2 h
  rw [if_neg h2] at h
  by_cases h3:m.st=7∨m.st=8
  · rw [if_pos h3] at h;exact esc_fit2 f g h3 h
  rw [if_neg h3] at h
  have h0:m.lf=0:=g.lf (by omega) (by omega)
  by_cases h4:m.st=9
  · rw [if_pos h4] at h
    cases hw:m.wd with
    | nil=>rw [hw] at h;cases h
    | cons x r =>
      rw [hw] at h
      simp only at h
      by_cases h5:x=c
      · rw [if_pos h5] at h
        injection h with h;subst h
        refine ⟨fun x hx=>f.op x hx,?_,?_,?_⟩
        · simp only;split <;> omega
        · simp only;split <;> omega
        · intro h hr
          simp only at h hr
          rw [if_pos hr] at h;omega
      · rw [if_neg h5] at h;cases h
  rw [if_neg h4] at h
  by_cases h5:blankN c=true
  · rw [if_pos h5] at h;injection h with h;subst h;exact f
  rw [if_neg h5] at h
  by_cases h6:m.st=5
  · rw [if_pos h6] at h;exact after_fit2 f h
  rw [if_neg h6] at h
  by_cases h7:m.st=4
  · rw [if_pos h7] at h
    by_cases h8:c=58
    · rw [if_pos h8] at h;injection h with h;subst h
      exact ⟨fun x hx=>f.op x hx,by simp,by simp,by simp⟩
    · rw [if_neg h8] at h;cases h
  rw [if_neg h7] at h
  by_cases h8:m.st=0
  · rw [if_pos h8] at h;exact value_fit2 f h0 h
  rw [if_neg h8] at h
  by_cases h9:(m.st=1∧c=93)∨(m.st=2∧c=125)
  · rw [if_pos h9] at h;injection h with h;subst h
    exact ⟨fun x hx=>f.op x ((List.dropLast_sublist _).mem hx),by simp,by simp,by simp⟩
  rw [if_neg h9] at h
  by_cases h10:m.st=1
  · rw [if_pos h10] at h;exact value_fit2 f h0 h
  rw [if_neg h10] at h
  by_cases h11:c=34
  · rw [if_pos h11] at h;injection h with h;subst h
    exact ⟨fun x hx=>f.op x hx,by simp,by simp [h0],by simp⟩
  · rw [if_neg h11] at h;cases h
theorem take_fit2 {m m':Mc} {l:List Nat} (f:Fit2 m) (g:Fit m) (h:takeM m l=some m'):Fit2 m':=by
  induction l generalizing m with
  | nil=>simp only [takeM] at h;injection h with h;subst h;exact f
  | cons x l ih =>
    simp only [takeM] at h
    cases hs:stepM m x with
    | none=>rw [hs] at h;cases h
    | some k=>rw [hs] at h;exact ih (step_fit2 f g hs) (step_fit g hs) h
theorem run_parts (m:Mc) (l:List Nat):takeM m (l.take (runM m l).1)=some (runM m l).2:=by
  induction l generalizing m with
  | nil=>rfl
  | cons x l ih =>
    simp only [runM]
    cases hs:stepM m x with
    | none=>rfl
    | some k =>
      simp only [List.take_succ_cons]
      rw [takeM_cons hs];exact ih k
theorem char_keeps {m k:Mc} {c:Nat} (h:charM m c=some k):k.op=m.op∧k.wd=m.wd:=by
  unfold charM at h
  repeat' split at h
  all_goals first
    | (cases h;done)
    | (injection h with h;subst h;exact ⟨rfl,rfl⟩)
theorem esc_keeps {m k:Mc} {c:Nat} (h:escM m c=some k):k.op=m.op∧k.wd=m.wd:=by
  unfold escM at h
  repeat' split at h
  all_goals first
    | (cases h;done)
    | (injection h with h;subst h;exact ⟨rfl,rfl⟩)
end Go.Proofs.YtjcpamjeekfblaaGreatDoor

/-
 Of no program: the backslashes of a text;which bytes are escaped;rows of backslashes.
-/
namespace Go.Proofs.YtjcpamjeekfblaaGreatDoor
def slash (s:ByteArray) (i:Nat):Bool:=decide ((s.data[i]?.getD 0).toNat=92)
theorem slash_at (s:ByteArray) (i:Nat) (h:i<s.size):slash s i=decide ((s[i]'h).toNat=92):=by
 unfold slash
 rw [Array.getElem?_eq_getElem (show i<s.data.size from h)]
 rfl
def escG (q:Nat→Bool) (c:Bool):Nat→Bool
 | 0=>c
 | n+1=>q n && !escG q c n
theorem escG_succ (q:Nat→Bool) (c:Bool) (n:Nat):escG q c (n+1)=(q n && !escG q c n):=rfl
def runE (q:Nat→Bool):Nat→Nat
 | 0=>0
 | n+1=>if q n then runE q n+1 else 0
theorem runE_succ (q:Nat→Bool) (n:Nat):runE q (n+1)=if q n then runE q n+1 else 0:=rfl
theorem runE_of {q:Nat→Bool} {n k:Nat} (hk:k≤n) (h:∀ j,n-k≤j→j<n→q j=true) (he:k=n∨q (n-k-1)=false):runE q n=k:=by
 induction n generalizing k with
 | zero=>simp [runE];omega
 | succ n ih =>
  rw [runE_succ]
  cases k with
  | zero =>
   rcases he with he | he
   ·omega
   ·simp at he
    rw [he];rfl
  | succ k =>
   rw [h n (by omega) (by omega),if_pos rfl,ih (k:=k) (by omega) (fun j h1 h2=>h j (by omega) (by omega))]
   rcases he with he | he
   ·exact .inl (by omega)
   ·exact .inr (by rw [← he];congr 1;omega)
end Go.Proofs.YtjcpamjeekfblaaGreatDoor
/-
 What escape.Odd answers.
-/
namespace Go.Proofs.YtjcpamjeekfblaaGreatDoor
open Go.RowKit
set_option maxRecDepth 10000 in
set_option maxHeartbeats 1000000 in
theorem odd_nat (s:ByteArray) (a f:Nat) (o:Bool) (hs:s.size≤9223372036854775807) (ha:a≤s.size) (hf:Hid (a-runE (slash s) a=f∧decide (runE (slash s) a % 2=1)=o)) (w:World) :
  Calls Tryz.prog 123 #[.string s,.int .i64 (a:Int)] w fun e w'=>e = .returned (.tuple #[.int .i64 (f:Int),.bool o])∧w'=w:=by
 go_enter Tryz.func123,Tryz.ntmps123
 have e0:decide ((a:Int)<0)=false:=by simp
 have e1:decide ((s.size:Int)<(a:Int))=false:=by simp;omega
 go_wp2
 go_loop [6] (fun ff=>∃ i:Nat,i≤a∧ff = .int .i64 (i:Int)∧Hid (∀ j,i≤j→j<a→slash s j=true)) (fun ff=>(intOf ff).toNat)
 case atStart=>exact ⟨a,Nat.le_refl _,rfl,fun j h1 h2=>by omega⟩
 case round =>
  obtain ⟨i,hi,rfl,hall⟩:=hrel
  have fin:Hid (i=0∨slash s (i-1)=false→i=f∧decide ((a-i) % 2=1)=o):=by
   intro h
   have hr:=runE_of (q:=slash s) (n:=a) (k:=a-i) (by omega) (fun j h1 h2=>hall.out j (by omega) h2) (by
    rcases h with h | h
    ·exact .inl (by omega)
    ·by_cases h0:a-i=a
     ·exact .inl h0
     ·exact .inr (by rw [show a-(a-i)-1=i-1 by omega];exact h))
   obtain ⟨h1,h2⟩:=hf.out
   rw [hr] at h1 h2
   exact ⟨by omega,h2⟩
  clear hf
  have done:Hid (i=f→decide ((a-i) % 2=1)=o→(((a:Int)-(i:Int)) % 2 == 1)=o):=by
   intro _ h
   rw [← h,show (a:Int)-(i:Int)=((a-i:Nat):Int) by omega]
   generalize a-i=d
   rw [show ((d:Int) % 2)=((d % 2:Nat):Int) by simp]
   rcases Nat.mod_two_eq_zero_or_one d with h | h <;> simp [h]
  by_cases h0:i=0
  ·subst h0
   obtain ⟨h1,h2⟩:=fin.out (.inl rfl)
   have h3:=done.out h1 h2
   subst h1
   clear h2 fin done hall e0 e1
   go_wp2
   refine bodyPost_ret (results_tmp2 rfl _ _ _) rfl ?_
   exact ⟨by rw [← h3];simp,rfl⟩
  ·have hp:decide ((0:Int)<(i:Int))=true:=by simp;omega
   have hlt:i-1<s.size:=by omega
   have hx:=slash_at s (i-1) hlt
   obtain ⟨j,rfl⟩:∃ j,i=j+1:=⟨i-1,by omega⟩
   have ej:((j+1:Nat):Int)-1=(j:Int):=by omega
   simp only [Nat.add_sub_cancel] at hlt hx
   have hjl:(j:Int)<(s.size:Int):=by omega
   obtain ⟨x,hxe⟩:∃ x,s[j].toNat=x:=⟨_,rfl⟩
   rw [hxe] at hx
   by_cases h92:x=92
   ·subst h92
    have hall':=hall
    clear hall fin done e0 e1
    have hx':=hid hx
    clear hx
    go_wp2
    go_round
    case rel => exact ⟨j, by omega, by simp, fun k h1 h2 => by
           by_cases hk:k=j
           ·rw [hk,hx'.out];rfl
           ·exact hall'.out k (by omega) h2⟩
    case measure=>simp [intOf]
   ·have hne:((x:Int) == 92)=false:=by simp;omega
    rw [decide_eq_false h92] at hx
    obtain ⟨h1,h2⟩:=fin.out (.inr hx)
    have h3:=done.out h1 h2
    subst h1
    clear h2 fin done hall e0 e1 hx
    go_wp2
    refine bodyPost_ret (results_tmp2 rfl _ _ _) rfl ?_
    exact ⟨by rw [← h3];simp,rfl⟩
def behindS (s:ByteArray) (c:Bool):Bool:=escG (slash s) c s.size
end Go.Proofs.YtjcpamjeekfblaaGreatDoor
