import Derived.Test.YtjcpamjeekfblaaGreatDoorPack1
import Derived.Test.YtjcpamjeekfblaaGreatDoorPack18
import Derived.Test.YtjcpamjeekfblaaGreatDoorPack12
namespace Go.Proofs.YtjcpamjeekfblaaGreatDoor
open Go.RowKit Go.Shelf
set_option maxRecDepth 10000 in
set_option maxHeartbeats 4000000 in
theorem letterR22_calls (c:Nat) (w:World):Calls Tryz.prog 52 #[.int .u8 (c:Int)] w fun e w'=>e = .returned (.bool (ltrB c))∧Below w.heap.size w w':=by
 by_cases h95:c=95
 ·subst h95
  go_enter Tryz.func52,Tryz.ntmps52
  go_wp2
  go_ret
  exact ⟨rfl,by exact bw⟩
 ·have h5:((c:Int) == 95)=false:=beq_eq_false_iff_ne.2 (by omega)
  by_cases h1:97≤c
  ·by_cases h2:c≤122
   ·skip
    have e:ltrB c=true:=by unfold ltrB;simp;omega
    rw [e]
    have f1:decide ((97:Int)≤(c:Int))=true:=decide_eq_true (by omega)
    have f2:decide ((c:Int)≤(122:Int))=true:=decide_eq_true (by omega)
    have f3:decide ((65:Int)≤(c:Int))=true:=decide_eq_true (by omega)
    have f4:decide ((c:Int)≤(90:Int))=false:=decide_eq_false (by omega)
    go_enter Tryz.func52,Tryz.ntmps52
    go_wp2
    go_ret
    exact ⟨rfl,by exact bw⟩
   ·skip
    have e:ltrB c=false:=by unfold ltrB;simp;omega
    rw [e]
    have f1:decide ((97:Int)≤(c:Int))=true:=decide_eq_true (by omega)
    have f2:decide ((c:Int)≤(122:Int))=false:=decide_eq_false (by omega)
    have f3:decide ((65:Int)≤(c:Int))=true:=decide_eq_true (by omega)
    have f4:decide ((c:Int)≤(90:Int))=false:=decide_eq_false (by omega)
    go_enter Tryz.func52,Tryz.ntmps52
    go_wp2
    go_ret
    exact ⟨rfl,by exact bw⟩
  ·by_cases h3:65≤c
   ·by_cases h4:c≤90
    ·skip
     have e:ltrB c=true:=by unfold ltrB;simp;omega
     rw [e]
     have f1:decide ((97:Int)≤(c:Int))=false:=decide_eq_false (by omega)
     have f2:decide ((c:Int)≤(122:Int))=true:=decide_eq_true (by omega)
     have f3:decide ((65:Int)≤(c:Int))=true:=decide_eq_true (by omega)
     have f4:decide ((c:Int)≤(90:Int))=true:=decide_eq_true (by omega)
     go_enter Tryz.func52,Tryz.ntmps52
     go_wp2
     go_ret
     exact ⟨rfl,by exact bw⟩
    ·skip
     have e:ltrB c=false:=by unfold ltrB;simp;omega
     rw [e]
     have f1:decide ((97:Int)≤(c:Int))=false:=decide_eq_false (by omega)
     have f2:decide ((c:Int)≤(122:Int))=true:=decide_eq_true (by omega)
     have f3:decide ((65:Int)≤(c:Int))=true:=decide_eq_true (by omega)
     have f4:decide ((c:Int)≤(90:Int))=false:=decide_eq_false (by omega)
     go_enter Tryz.func52,Tryz.ntmps52
     go_wp2
     go_ret
     exact ⟨rfl,by exact bw⟩
   ·skip
    have e:ltrB c=false:=by unfold ltrB;simp;omega
    rw [e]
    have f1:decide ((97:Int)≤(c:Int))=false:=decide_eq_false (by omega)
    have f2:decide ((c:Int)≤(122:Int))=true:=decide_eq_true (by omega)
    have f3:decide ((65:Int)≤(c:Int))=false:=decide_eq_false (by omega)
    have f4:decide ((c:Int)≤(90:Int))=true:=decide_eq_true (by omega)
    go_enter Tryz.func52,Tryz.ntmps52
    go_wp2
    go_ret
    exact ⟨rfl,by exact bw⟩
set_option maxRecDepth 10000 in
set_option maxHeartbeats 4000000 in
theorem digitR22_calls (c:Nat) (w:World):Calls Tryz.prog 53 #[.int .u8 (c:Int)] w fun e w'=>e = .returned (.bool (dgtB c))∧Below w.heap.size w w':=by
 by_cases h1:48≤c
 ·by_cases h2:c≤57
  ·have e:dgtB c=true:=decide_eq_true ⟨h1,h2⟩
   rw [e]
   have f1:decide ((48:Int)≤(c:Int))=true:=decide_eq_true (by omega)
   have f2:decide ((c:Int)≤(57:Int))=true:=decide_eq_true (by omega)
   go_enter Tryz.func53,Tryz.ntmps53
   go_wp2
   go_ret
   exact ⟨rfl,by exact bw⟩
  ·have e:dgtB c=false:=decide_eq_false (by omega)
   rw [e]
   have f1:decide ((48:Int)≤(c:Int))=true:=decide_eq_true (by omega)
   have f2:decide ((c:Int)≤(57:Int))=false:=decide_eq_false (by omega)
   go_enter Tryz.func53,Tryz.ntmps53
   go_wp2
   go_ret
   exact ⟨rfl,by exact bw⟩
 ·have e:dgtB c=false:=decide_eq_false (by omega)
  rw [e]
  have f1:decide ((48:Int)≤(c:Int))=false:=decide_eq_false (by omega)
  have f2:decide ((c:Int)≤(57:Int))=true:=decide_eq_true (by omega)
  go_enter Tryz.func53,Tryz.ntmps53
  go_wp2
  go_ret
  exact ⟨rfl,by exact bw⟩
theorem ne_empty22 {s:ByteArray} (h:0<s.size):(s.toList == [])=false:=by
 rw [eq_const s []]
 apply decide_eq_false
 intro h2
 have h3:=congrArg List.length h2
 rw [Array.length_toList] at h3
 have h4:s.data.size=s.size:=rfl
 have h5:s.data.size=0:=h3
 omega
set_option maxRecDepth 10000 in
set_option maxHeartbeats 4000000 in
theorem plainR22_calls (t:ByteArray) (ht:t.size≤140737488351232) (n:Nat) (hn:Hid (IsWd t n)) (P:Bool) (hP:Hid (decide (0<n∧n=t.size)=P)) (w:World):Calls Tryz.prog 33 #[.string t] w fun e w'=>e = .returned (.bool P)∧Below w.heap.size w w':=by
 have hti:(t.size:Int)≤140737488351232:=by omega
 go_enter Tryz.func33,Tryz.ntmps33
 go_wp2
 go_loopw [3] (fun ii wr=>∃ q:Nat,q≤t.size∧ii = .int .i64 (q:Int)∧Hid (∀ j,j<q→wdOk t j=true)∧Hid (Below w.heap.size w wr)) (fun ii _=>t.size-(intOf ii).toNat)
 case atStart=>exact ⟨0,Nat.zero_le _,rfl,hid (fun j hj=>by omega),hid (Below.refl _ _)⟩
 case round =>
  obtain ⟨q,hq,rfl,hall,hb⟩:=hrel
  by_cases hlt:q<t.size
  ·have hli:(q:Int)<(t.size:Int):=by omega
   have e1:=lk_at t q hlt
   have hL:=hid (fun u=>letterR22_calls (t[q]'hlt).toNat u)
   have hD:=hid (fun u=>digitR22_calls (t[q]'hlt).toNat u)
   have hw:Hid (wdOk t q=(ltrB (t[q]'hlt).toNat || (decide (q≠0) && dgtB (t[q]'hlt).toNat))):=hid (by unfold wdOk;rw [e1])
   have hnxt:=hid (fun (h:wdOk t q=true)=>show ∀ j,j<q+1→wdOk t j=true from fun j hj=>by
    rcases Nat.lt_or_ge j q with h1 | h1
    ·exact hall.out j h1
    ·obtain rfl:j=q:=by omega
     exact h)
   have hend:=hid (fun (h:wdOk t q=false)=>show P=false by
    have hqn:q=n:=IsWd.uniq (t:=t) ⟨by omega,hall.out,fun _=>h⟩ hn.out
    rw [← hP.out]
    exact decide_eq_false (by omega))
   have hlt':=hid (show q+1≤t.size by omega)
   clear e1
   cases hl:ltrB (t[q]'hlt).toNat with
   | true =>
    rw [hl] at hL hw
    clear hl hend hD
    go_wp2_with fail
    refine Calls.mono (hL.out _) ?_
    rintro e w3 ⟨rfl,b3⟩
    have B3:=hid (hb.out.trans (b3.mono hb.out.size))
    clear b3 hL
    go_wp2_with fail
    go_roundw
    case rel=>exact ⟨q+1,hlt'.out,by simp,hid (hnxt.out (by rw [hw.out];rfl)),B3⟩
    case measure=>simp [intOf];have:=hlt'.out;omega
   | false =>
    rw [hl] at hL hw
    clear hl
    by_cases h0:q=0
    ·subst h0
     go_wp2_with fail
     refine Calls.mono (hL.out _) ?_
     rintro e w3 ⟨rfl,b3⟩
     have B3:=hid (hb.out.trans (b3.mono hb.out.size))
     clear b3 hL
     go_wp2_with fail
     go_ret
     exact ⟨by rw [hend.out (by rw [hw.out];rfl)];rfl,B3.out⟩
    ·have h00:((q:Int) == 0)=false:=beq_eq_false_iff_ne.2 (by omega)
     have h01:=hid h0
     cases hd:dgtB (t[q]'hlt).toNat with
     | true =>
      rw [hd] at hD hw
      clear hd hend h0
      go_wp2_with fail
      refine Calls.mono (hL.out _) ?_
      rintro e w3 ⟨rfl,b3⟩
      have B3:=hid (hb.out.trans (b3.mono hb.out.size))
      clear b3 hL
      go_wp2_with fail
      refine Calls.mono (hD.out _) ?_
      rintro e w4 ⟨rfl,b4⟩
      have B4:=hid (B3.out.trans (b4.mono B3.out.size))
      clear b4 hD
      go_wp2_with fail
      go_roundw
      case rel=>exact ⟨q+1,hlt'.out,by simp,hid (hnxt.out (by rw [hw.out,decide_eq_true h01.out];rfl)),B4⟩
      case measure=>simp [intOf];have:=hlt'.out;omega
     | false =>
      rw [hd] at hD hw
      clear hd h0
      go_wp2_with fail
      refine Calls.mono (hL.out _) ?_
      rintro e w3 ⟨rfl,b3⟩
      have B3:=hid (hb.out.trans (b3.mono hb.out.size))
      clear b3 hL
      go_wp2_with fail
      refine Calls.mono (hD.out _) ?_
      rintro e w4 ⟨rfl,b4⟩
      have B4:=hid (B3.out.trans (b4.mono B3.out.size))
      clear b4 hD
      go_wp2_with fail
      go_ret
      exact ⟨by rw [hend.out (by rw [hw.out];simp)];rfl,B4.out⟩
  ·obtain rfl:q=t.size:=by omega
   have hfin:Hid (t.size=n):=hid (IsWd.uniq (t:=t) ⟨Nat.le_refl _,hall.out,fun h=>absurd h (Nat.lt_irrefl _)⟩ hn.out)
   by_cases hz:0<t.size
   ·have hPt:=hid (show P=true by rw [← hP.out];exact decide_eq_true ⟨by rw [← hfin.out];exact hz,hfin.out.symm⟩)
    have ne:=ne_empty22 hz
    clear hz
    go_wp2
    go_ret
    exact ⟨by rw [hPt.out];rfl,hb.out⟩
   ·have hPf:=hid (show P=false by rw [← hP.out];exact decide_eq_false (by have:=hfin.out;omega))
    obtain rfl:t=ByteArray.empty:=by
     apply ByteArray.ext
     apply Array.eq_empty_of_size_eq_zero
     have:t.data.size=t.size:=rfl
     omega
    clear hz hlt hti ht
    go_wp2
    go_ret
    exact ⟨by rw [hPf.out];rfl,hb.out⟩
theorem wrS_code (s:ByteArray):(wrS s).2=if 0≤badOf s then 50 else 0:=by
 unfold wrS
 split <;> rfl
theorem bad_code22 (s:ByteArray):decide (badOf s = -1)=((wrS s).2 == 0):=by
 rw [wrS_code]
 have hb:badOf s = -1∨0≤badOf s:=by
  unfold badOf badI
  split <;> omega
 rcases hb with h | h
 ·rw [if_neg (by omega),decide_eq_true h];rfl
 ·rw [if_pos h,decide_eq_false (by omega)];rfl
set_option maxRecDepth 10000 in
set_option maxHeartbeats 4000000 in
theorem utf8R22_calls (s:ByteArray) (hs:s.size≤4294967296) (w:World):Calls Tryz.prog 60 #[.string s] w fun e w'=>e = .returned (.bool (decide (badOf s = -1)))∧Below w.heap.size w w':=by
 obtain ⟨T,E,hU⟩:∃ T E,wrS s=(T,E):=⟨_,_,rfl⟩
 have hb:decide (badOf s = -1)=(E == 0):=by rw [bad_code22,hU]
 rw [hb]
 have he:=hid (refEs_calls s hs T E (hid hU) w)
 clear hb hU
 go_enter Tryz.func60,Tryz.ntmps60
 go_wp2_with fail
 refine Calls.mono he.out ?_
 rintro e w1 ⟨rfl,b1⟩
 have B1:=hid b1
 clear b1 he
 go_wp2
 go_ret
 exact ⟨rfl,B1.out⟩
set_option maxRecDepth 10000 in
set_option maxHeartbeats 4000000 in
theorem stepR22_calls (s:Stp) (hs:s.name.size≤4294967296) (w:World):Calls Tryz.prog 36 #[.agg #[.int .i64 s.kind,.string s.name,.int .i64 s.place]] w fun e w'=>e = .returned (.bool (fmS s))∧Below w.heap.size w w':=by
 obtain ⟨k,nm,pl⟩:=s
 dsimp only at hs ⊢
 have B1:=hid (show Below w.heap.size w (w.alloc (.cells #[.int .i64 k,.string nm,.int .i64 pl] 34)) from (Below.refl _ w).alloc (Nat.le_refl _) _)
 by_cases h1:k=1
 ·subst h1
  have e:fmS ⟨1,nm,pl⟩=(decide (pl=0) && decide (badOf nm = -1)):=rfl
  rw [e]
  have hu:=hid (fun u=>utf8R22_calls nm hs u)
  generalize decide (badOf nm = -1)=V at hu ⊢
  cases hp:pl == 0 with
  | true =>
   rw [show decide (pl=0)=true from decide_eq_true (beq_iff_eq.1 hp),Bool.true_and]
   clear e hs
   go_enter Tryz.func36,Tryz.ntmps36
   go_wp2_with fail
   refine Calls.mono (hu.out _) ?_
   rintro e w2 ⟨rfl,b2⟩
   have B2:=hid (B1.out.trans (b2.mono B1.out.size))
   clear b2 hu
   go_wp2
   go_ret
   exact ⟨rfl,B2.out⟩
  | false =>
   rw [show decide (pl=0)=false from decide_eq_false (beq_eq_false_iff_ne.1 hp),Bool.false_and]
   clear e hs hu
   go_enter Tryz.func36,Tryz.ntmps36
   go_wp2
   go_ret
   exact ⟨rfl,B1.out⟩
 ·have b1:(k == 1)=false:=beq_eq_false_iff_ne.2 h1
  by_cases h2:k=2
  ·subst h2
   have e:fmS ⟨2,nm,pl⟩=(decide (nm=⟨#[]⟩) && (decide (0≤pl) && decide (pl≤999999999999999999))):=rfl
   have en:=eq_str nm ⟨#[]⟩
   rw [e,← en]
   have e0:(⟨#[]⟩:ByteArray).toList=[]:=(ByteArray.toList_eq _).trans rfl
   rw [e0]
   cases hn:nm.toList == [] with
   | false =>
    rw [Bool.false_and]
    clear e en e0 hs
    go_enter Tryz.func36,Tryz.ntmps36
    go_wp2
    go_ret
    exact ⟨rfl,B1.out⟩
   | true =>
    rw [Bool.true_and]
    by_cases h0:0≤pl
    ·have f0:decide ((0:Int)≤pl)=true:=decide_eq_true h0
     by_cases h9:pl<1000000000000000000
     ·have f9:decide (pl<(1000000000000000000:Int))=true:=decide_eq_true h9
      rw [f0,show decide (pl≤999999999999999999)=true from decide_eq_true (by omega)]
      clear e en e0 hs
      go_enter Tryz.func36,Tryz.ntmps36
      go_wp2
      go_ret
      exact ⟨rfl,B1.out⟩
     ·have f9:decide (pl<(1000000000000000000:Int))=false:=decide_eq_false h9
      rw [f0,show decide (pl≤999999999999999999)=false from decide_eq_false (by omega)]
      clear e en e0 hs
      go_enter Tryz.func36,Tryz.ntmps36
      go_wp2
      go_ret
      exact ⟨rfl,B1.out⟩
    ·have f0:decide ((0:Int)≤pl)=false:=decide_eq_false h0
     rw [f0,Bool.false_and]
     clear e en e0 hs
     go_enter Tryz.func36,Tryz.ntmps36
     go_wp2
     go_ret
     exact ⟨rfl,B1.out⟩
  ·have b2:(k == 2)=false:=beq_eq_false_iff_ne.2 h2
   by_cases h3:k=3
   ·subst h3
    have e:fmS ⟨3,nm,pl⟩=(decide (nm=⟨#[]⟩) && decide (pl=0)):=rfl
    have en:=eq_str nm ⟨#[]⟩
    rw [e,← en]
    have e0:(⟨#[]⟩:ByteArray).toList=[]:=(ByteArray.toList_eq _).trans rfl
    rw [e0,show decide (pl=0)=(pl == 0) from rfl]
    cases hn:nm.toList == [] with
    | false =>
     rw [Bool.false_and]
     clear e en e0 hs
     go_enter Tryz.func36,Tryz.ntmps36
     go_wp2
     go_ret
     exact ⟨rfl,B1.out⟩
    | true =>
     rw [Bool.true_and]
     clear e en e0 hs
     go_enter Tryz.func36,Tryz.ntmps36
     go_wp2
     go_ret
     exact ⟨rfl,B1.out⟩
   ·have b3:(k == 3)=false:=beq_eq_false_iff_ne.2 h3
    have e:fmS ⟨k,nm,pl⟩=false:=by unfold fmS;rw [if_neg h1,if_neg h2,if_neg h3]
    rw [e]
    clear e hs h1 h2 h3
    go_enter Tryz.func36,Tryz.ntmps36
    go_wp2
    go_ret
    exact ⟨rfl,B1.out⟩
set_option maxRecDepth 10000 in
set_option maxHeartbeats 4000000 in
theorem formedR22_calls (ss:List Stp) (ao:Option Addr) (N cap:Nat) (hN:Hid (ss.length=N)) (hNi:N≤140737488351232) (hsz:Hid (∀ s ∈ ss,s.name.size≤4294967296)) (w:World) (hk:Hid (StepsAt w ao ss)) :
  Calls Tryz.prog 16 #[.slice ao N cap] w fun e w'=>e = .returned (.bool (ss.all fmS))∧Below w.heap.size w w':=by
 have hNi':(N:Int)≤140737488351232:=by omega
 go_enter Tryz.func16,Tryz.ntmps16
 go_wp2
 go_loopw [3] (fun ii wr=>∃ i:Nat,i≤N∧ii = .int .i64 (i:Int)∧Hid ((ss.take i).all fmS=true)∧Hid (Below w.heap.size w wr)) (fun ii _=>N-(intOf ii).toNat)
 case atStart=>exact ⟨0,Nat.zero_le _,rfl,hid (by simp),hid (Below.refl _ _)⟩
 case round =>
  obtain ⟨i,hi,rfl,hall,hb⟩:=hrel
  by_cases hlt:i<N
  ·have hli:(i:Int)<(N:Int):=by omega
   obtain ⟨s,hs⟩:∃ s,Hid (ss[i]? = some s):=⟨_,List.getElem?_eq_getElem (by rw [hN.out];exact hlt)⟩
   have hk2:=hk.out.kept hb.out
   obtain ⟨g,o,rfl,hg,hrg⟩:=steps_at hk2 hs.out
   have htk:=hid (show (ss.take (i+1)).all fmS=((ss.take i).all fmS && fmS s) by rw [List.take_add_one,hs.out];simp)
   have hf:=hid (fun u=>stepR22_calls s (hsz.out s (List.mem_of_getElem? hs.out)) u)
   have hfin:=hid (fun (h:fmS s=false)=>(show ss.all fmS=false by rw [List.all_eq_false];exact ⟨s,List.mem_of_getElem? hs.out,by rw [h];simp⟩))
   obtain ⟨k,nm,pl⟩:=s
   have hrg':=hid hrg
   have z1:(Tryz.prog.info? 34).map (·.size)=some ([.int .i64 k,.string nm,.int .i64 pl]:List Value).length:=sizeStp
   dsimp only at hf
   have hlt':=hid (show i+1≤N by omega)
   cases hfm:fmS ⟨k,nm,pl⟩ with
   | true =>
    rw [hfm] at hf htk
    clear hs hk2 hg hrg hfin
    go_wp2_with (first | refine wpList_load_want 34 _ g (o+i*3) [.int .i64 k,.string nm,.int .i64 pl] _ hrg'.out Tryz.underlying34 z1 rfl rfl rfl (by rfl) ?_ | fail)
    refine Calls.mono (hf.out _) ?_
    rintro e w3 ⟨rfl,b3⟩
    have B3:=hid (hb.out.trans (b3.mono hb.out.size))
    clear b3 hf
    go_wp2
    go_roundw
    case rel=>exact ⟨i+1,hlt'.out,by simp,hid (by rw [htk.out,hall.out];rfl),B3⟩
    case measure=>simp [intOf];have:=hlt'.out;omega
   | false =>
    rw [hfm] at hf
    have hres:=hid (hfin.out hfm)
    clear hs hk2 hg hrg hfin htk
    go_wp2_with (first | refine wpList_load_want 34 _ g (o+i*3) [.int .i64 k,.string nm,.int .i64 pl] _ hrg'.out Tryz.underlying34 z1 rfl rfl rfl (by rfl) ?_ | fail)
    refine Calls.mono (hf.out _) ?_
    rintro e w3 ⟨rfl,b3⟩
    have B3:=hid (hb.out.trans (b3.mono hb.out.size))
    clear b3 hf
    go_wp2
    go_ret
    exact ⟨by rw [hres.out];rfl,B3.out⟩
  ·obtain rfl:i=N:=by omega
   have hfin:Hid (ss.all fmS=true):=hid (by have:=hall.out;rwa [List.take_of_length_le (by rw [hN.out];exact Nat.le_refl _)] at this)
   go_wp2
   go_ret
   exact ⟨by rw [hfin.out];rfl,hb.out⟩
end Go.Proofs.YtjcpamjeekfblaaGreatDoor
