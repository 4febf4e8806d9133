import Derived.Test.YtongedjlmohogaaGreatDoorPack7
import Derived.Test.YtongedjlmohogaaGreatDoorPyL
import Derived.Test.YtongedjlmohogaaGreatDoorPtT
namespace Go.Proofs.YtongedjlmohogaaGreatDoor
open Go.RowKit Go.Shelf
set_option maxRecDepth 10000 in
set_option maxHeartbeats 4000000 in
theorem all22_calls (ss:List Stp) (ao:Option Addr) (N cap:Nat) (hN:Hid (ss.length=N)) (hNi:N≤1099511627776) (hfm:Hid (ss.all fmS=true)) (t:Vt) (hwf:Hid (wfV t 1024=true)) (hln:lnV t) (k:Int) (b:Bool) (rr tx:ByteArray) (ko:Option Addr) (Nk kc:Nat) (vo:Option Addr) (M vc:Nat) (w:World) (hT:Hid (TabU w)) (hk:Hid (StepsAt w ao ss)) (ha:Hid (ValAt w t (.agg #[.int .i64 k,.bool b,.string rr,.string tx,.slice ko Nk kc,.slice vo M vc]))) :
  Calls Tryz.prog 24 #[.agg #[.int .i64 k,.bool b,.string rr,.string tx,.slice ko Nk kc,.slice vo M vc],.slice ao N cap] w fun e w'=>∃ (g Bs Bv:Nat) (cs:Array Value),e = .returned (.func (.func 46) #[] #[.pointer (some ⟨Bs,0,none⟩),.pointer (some ⟨Bv,0,none⟩)]) ∧
   (w.heap.size≤g∧w.heap.size≤Bs∧w.heap.size≤Bv)∧At w' Bs #[.slice (some ⟨g,0,none⟩) N N] 82∧At w' Bv cs 59∧At w' g (kpL ss N N) 43∧ValOn (fun c=>w.heap.size≤c) w' t (.agg cs)∧Below w.heap.size w w':=by
 have hmf:∀ (fn:Fn) (first cap:Array Value) (w:World),(Instr.makeFunc fn first cap).run Tryz.prog w = .ok (.func fn first cap) w:=fun _ _ _ _=>rfl
 have A1:Hid (At (w.alloc (.cells #[.int .i64 k,.bool b,.string rr,.string tx,.slice ko Nk kc,.slice vo M vc] 59)) w.heap.size #[.int .i64 k,.bool b,.string rr,.string tx,.slice ko Nk kc,.slice vo M vc] 59):=At.new w _ _
 have B1:Hid (Below w.heap.size w (w.alloc (.cells #[.int .i64 k,.bool b,.string rr,.string tx,.slice ko Nk kc,.slice vo M vc] 59))):=(Below.refl _ w).alloc (Nat.le_refl _) _
 have hf:=hid (fun u (h1:Hid (StepsAt u ao ss)) h2=>formedL_calls ss ao N cap hN (by omega) u h1 h2)
 rw [hfm.out] at hf
 have hcp:=hid (fun u h1 h2=>copied_calls t hwf.out hln k b rr tx ko Nk kc vo M vc u h1 h2)
 have hkp:=hid (fun u (h1:Hid (StepsAt u ao ss))=>kept_calls ss ao N cap hN hNi (hid (fm_ok hfm.out)) u h1)
 generalize hW1:w.alloc (.cells #[.int .i64 k,.bool b,.string rr,.string tx,.slice ko Nk kc,.slice vo M vc] 59)=W1 at A1 B1
 go_enter Tryz.func24,Tryz.ntmps24
 go_wp2_with fail
 refine Calls.mono (hf.out _ (hid (hk.out.kept B1.out)) (hid (hT.out.below B1.out))) ?_
 rintro e w2 ⟨rfl,b2⟩
 have A2:=hid (A1.out.keptAll b2)
 have B2:=hid (B1.out.trans (b2.mono B1.out.size))
 clear hf b2 A1 B1 hW1
 go_wp2_with (first | refine wpList_load_want 59 _ w.heap.size 0 [.int .i64 k,.bool b,.string rr,.string tx,.slice ko Nk kc,.slice vo M vc] _ (A2.out.range rfl) Tryz.underlying59 sizeVl rfl rfl rfl (by rfl) ?_ | fail)
 refine Calls.mono (hcp.out _ (hT.out.below B2.out) (ha.out.kept B2.out)) ?_
 rintro e w3 ⟨x,rfl,vx,b3⟩
 obtain ⟨k1,b1,r1,t1,ko1,N1,kc1,vo1,M1,vc1,rfl⟩:=vx.at.lets
 have B3:=hid (B2.out.trans (b3.mono B2.out.size))
 have V3:=hid (vx.mono (S':=fun c=>w.heap.size≤c) (fun c _ hc=>Nat.le_trans B2.out.size hc))
 clear hcp b3 vx A2
 have N4:=hid (At.new w3 #[.int .i64 k1,.bool b1,.string r1,.string t1,.slice ko1 N1 kc1,.slice vo1 M1 vc1] 59)
 have q4:=hid (show Below w3.heap.size w3 (w3.alloc (.cells #[.int .i64 k1,.bool b1,.string r1,.string t1,.slice ko1 N1 kc1,.slice vo1 M1 vc1] 59)) from (Below.refl _ _).alloc (Nat.le_refl _) _)
 have B4:=hid (B3.out.trans (q4.out.mono B3.out.size))
 have V4:=hid (V3.out.keptB q4.out)
 have hb3:=hid B3.out.size
 obtain ⟨q,hq⟩:∃ q,w3.heap.size=q:=⟨_,rfl⟩
 rw [hq] at N4 hb3
 go_wp2_with fail
 generalize (w3.alloc (.cells #[.int .i64 k1,.bool b1,.string r1,.string t1,.slice ko1 N1 kc1,.slice vo1 M1 vc1] 59))=W4 at *
 obtain ⟨g,hg⟩:∃ g,W4.heap.size=g:=⟨_,rfl⟩
 have hkx:=hkp.out W4 (hid (hk.out.kept B4.out))
 have hb4:=hid B4.out.size
 rw [hg] at hkx hb4
 refine Calls.mono hkx ?_
 rintro e w5 ⟨rfl,g5,b5⟩
 have b5':Below W4.heap.size W4 w5:=by rw [hg];exact b5
 have N5:=hid (N4.out.keptAll b5')
 have V5:=hid (V4.out.keptB b5')
 have B5:=hid (B4.out.trans (b5'.mono B4.out.size))
 have q6:=hid (show Below w5.heap.size w5 (w5.alloc (.cells #[.slice (some ⟨g,0,none⟩) N N] 82)) from (Below.refl _ _).alloc (Nat.le_refl _) _)
 have g6:=hid (g5.keptAll q6.out)
 have N6:=hid (N5.out.keptAll q6.out)
 have V6:=hid (V5.out.keptB q6.out)
 have B6:=hid (B5.out.trans (q6.out.mono B5.out.size))
 have S6:=hid (At.new w5 #[.slice (some ⟨g,0,none⟩) N N] 82)
 have hb5:=hid B5.out.size
 clear b5 b5' g5 N5 V5 N4 V4 V3 q4 hkp hkx B4 B5
 go_wp2
 go_ret
 exact ⟨g,_,_,_,rfl,⟨hb4.out,hb5.out,hb3.out⟩,S6.out,N6.out,g6.out,V6.out,B6.out⟩
def oneT:Vt:=.mk 3 false ⟨#[49]⟩ ⟨#[]⟩ [] []
def inT:Vt:=.mk 6 false ⟨#[]⟩ ⟨#[]⟩ [⟨#[98]⟩] [oneT]
def arrT:Vt:=.mk 5 false ⟨#[]⟩ ⟨#[]⟩ [] [oneT,inT]
def sampT:Vt:=.mk 6 false ⟨#[]⟩ ⟨#[]⟩ [⟨#[97]⟩,⟨#[99]⟩,⟨#[97]⟩] [arrT,inT,inT]
theorem wf_samp:wfV sampT 1024=true:=by decide +kernel
theorem ln_samp:lnV sampT:=by
 unfold sampT arrT inT oneT
 simp [lnV,lnL]
theorem ok_samp:okP sampT:=by
 unfold sampT arrT inT oneT
 simp [okP,okPL]
 refine ⟨fun i hi=>?_,by decide⟩
 match i,hi with
 | 0,_=>exact ⟨_,rfl,by decide⟩
 | 1,_=>exact ⟨_,rfl,by decide⟩
 | 2,_=>exact ⟨_,rfl,by decide⟩
def stepsW:List Stp:=[⟨3,⟨#[]⟩,0⟩,⟨1,⟨#[98]⟩,0⟩]
theorem fm_steps:stepsW.all fmS=true:=by decide +kernel
theorem fd_samp:fdP stepsW sampT []=[([47,99,47,98],oneT)]:=by
 kernel_rfl
theorem in_at {w:World} {b1 b2:Nat} {t1 t2:TypeId} (h1:At w b1 #[.string ⟨#[98]⟩] t1) (h2:At w b2 #[.int .i64 3,.bool false,.string ⟨#[49]⟩,.string ⟨#[]⟩,.slice none 0 0,.slice none 0 0] t2) :
  ValAt w inT (.agg #[.int .i64 6,.bool false,.string ⟨#[]⟩,.string ⟨#[]⟩,.slice (some ⟨b1,0,none⟩) 1 1,.slice (some ⟨b2,0,none⟩) 1 1]):=by
 refine .mk 6 false _ _ _ _ _ 1 _ 1 _ (by decide) ⟨by decide,by decide,by decide,by decide⟩ (keys1 h1 (by decide)) (row1 h2) (fun i u hu=>?_)
 match i,hu with
 | 0,hu=>simp at hu;subst hu;exact valLeaf w 3 false _ _ (by decide) (by decide) (by decide)
 | i+1,hu=>simp at hu
theorem arr_at {w:World} {b1 b2 b3:Nat} {t1 t2 t3:TypeId} (h1:At w b1 #[.string ⟨#[98]⟩] t1) (h2:At w b2 #[.int .i64 3,.bool false,.string ⟨#[49]⟩,.string ⟨#[]⟩,.slice none 0 0,.slice none 0 0] t2)
  (h3:At w b3 #[.int .i64 3,.bool false,.string ⟨#[49]⟩,.string ⟨#[]⟩,.slice none 0 0,.slice none 0 0,.int .i64 6,.bool false,.string ⟨#[]⟩,.string ⟨#[]⟩,.slice (some ⟨b1,0,none⟩) 1 1,.slice (some ⟨b2,0,none⟩) 1 1] t3) :
  ValAt w arrT (.agg #[.int .i64 5,.bool false,.string ⟨#[]⟩,.string ⟨#[]⟩,.slice none 0 0,.slice (some ⟨b3,0,none⟩) 2 2]):=by
 refine .mk 5 false _ _ [] _ none 0 (some ⟨b3,0,none⟩) 2 _ (by decide) ⟨by decide,by decide,by decide,by decide⟩ (fun i s h=>by simp at h) (row2 h3) (fun i u hu=>?_)
 match i,hu with
 | 0,hu=>simp at hu;subst hu;exact valLeaf w 3 false _ _ (by decide) (by decide) (by decide)
 | 1,hu=>simp at hu;subst hu;exact in_at h1 h2
 | i+2,hu=>simp at hu
theorem samp_at {w:World} {b1 b2 b3 b4 b5:Nat} {t1 t2 t3 t4 t5:TypeId} (h1:At w b1 #[.string ⟨#[98]⟩] t1) (h2:At w b2 #[.int .i64 3,.bool false,.string ⟨#[49]⟩,.string ⟨#[]⟩,.slice none 0 0,.slice none 0 0] t2)
  (h3:At w b3 #[.int .i64 3,.bool false,.string ⟨#[49]⟩,.string ⟨#[]⟩,.slice none 0 0,.slice none 0 0,.int .i64 6,.bool false,.string ⟨#[]⟩,.string ⟨#[]⟩,.slice (some ⟨b1,0,none⟩) 1 1,.slice (some ⟨b2,0,none⟩) 1 1] t3)
  (h4:At w b4 #[.string ⟨#[97]⟩,.string ⟨#[99]⟩,.string ⟨#[97]⟩] t4)
  (h5:At w b5 #[.int .i64 5,.bool false,.string ⟨#[]⟩,.string ⟨#[]⟩,.slice none 0 0,.slice (some ⟨b3,0,none⟩) 2 2,.int .i64 6,.bool false,.string ⟨#[]⟩,.string ⟨#[]⟩,.slice (some ⟨b1,0,none⟩) 1 1,.slice (some ⟨b2,0,none⟩) 1 1,.int .i64 6,.bool false,.string ⟨#[]⟩,.string ⟨#[]⟩,.slice (some ⟨b1,0,none⟩) 1 1,.slice (some ⟨b2,0,none⟩) 1 1] t5) :
  ValAt w sampT (.agg #[.int .i64 6,.bool false,.string ⟨#[]⟩,.string ⟨#[]⟩,.slice (some ⟨b4,0,none⟩) 3 3,.slice (some ⟨b5,0,none⟩) 3 3]):=by
 refine .mk 6 false _ _ _ _ (some ⟨b4,0,none⟩) 3 (some ⟨b5,0,none⟩) 3 (fun i=>if i=0 then #[.int .i64 5,.bool false,.string ⟨#[]⟩,.string ⟨#[]⟩,.slice none 0 0,.slice (some ⟨b3,0,none⟩) 2 2] else #[.int .i64 6,.bool false,.string ⟨#[]⟩,.string ⟨#[]⟩,.slice (some ⟨b1,0,none⟩) 1 1,.slice (some ⟨b2,0,none⟩) 1 1]) (by decide) ⟨by decide,by decide,by decide,by decide⟩ (fun i s hi=>?_) (fun i hi=>?_) (fun i u hu=>?_)
 ·match i,hi with
  | 0,hi=>simp at hi;subst hi;exact ⟨by decide,b4,0,rfl,h4.lt,h4.cell 0⟩
  | 1,hi=>simp at hi;subst hi;exact ⟨by decide,b4,0,rfl,h4.lt,h4.cell 1⟩
  | 2,hi=>simp at hi;subst hi;exact ⟨by decide,b4,0,rfl,h4.lt,h4.cell 2⟩
  | i+3,hi=>simp at hi
 ·have hi':i<3:=hi
  refine ⟨by dsimp only;split <;> rfl,b5,0,rfl,h5.lt,fun j hj=>?_⟩
  rw [h5.cell]
  match i,hi',j,hj with
  | 0,_,0,_=>rfl
  | 0,_,1,_=>rfl
  | 0,_,2,_=>rfl
  | 0,_,3,_=>rfl
  | 0,_,4,_=>rfl
  | 0,_,5,_=>rfl
  | 1,_,0,_=>rfl
  | 1,_,1,_=>rfl
  | 1,_,2,_=>rfl
  | 1,_,3,_=>rfl
  | 1,_,4,_=>rfl
  | 1,_,5,_=>rfl
  | 2,_,0,_=>rfl
  | 2,_,1,_=>rfl
  | 2,_,2,_=>rfl
  | 2,_,3,_=>rfl
  | 2,_,4,_=>rfl
  | 2,_,5,_=>rfl
 ·match i,hu with
  | 0,hu=>simp at hu;subst hu;exact arr_at h1 h2 h3
  | 1,hu=>simp at hu;subst hu;exact in_at h1 h2
  | 2,hu=>simp at hu;subst hu;exact in_at h1 h2
  | i+3,hu=>simp at hu
set_option maxRecDepth 10000 in
set_option maxHeartbeats 4000000 in
theorem sample_calls (w:World) :
  Calls Tryz.prog 25 #[] w fun e w'=>∃ v,e = .returned v∧ValAt w' sampT v∧Below w.heap.size w w':=by
 go_enter Tryz.func25,Tryz.ntmps25
 go_wp2_with fail
 refine ret_val1 (p:=0) rfl rfl ((((((((At.new w _ 59).alloc _).alloc _).alloc _).alloc _).alloc _).alloc _).alloc _) rfl ?_
 refine ⟨_,rfl,samp_at (b1:=w.heap.size+1+1) (b2:=w.heap.size+1+1+1) (b3:=w.heap.size+1+1+1+1+1+1) (b4:=w.heap.size+1+1+1+1+1) (b5:=w.heap.size+1+1+1+1+1+1+1) (t1:=9) (t2:=59) (t3:=59) (t4:=9) (t5:=59) ?_ ?_ ?_ ?_ ?_,by exact bw⟩
 ·exact (((((At.newAt _ _ (by simp only [World.size_alloc])).alloc _).alloc _).alloc _).alloc _).alloc _
 ·exact ((((At.newAt _ _ (by simp only [World.size_alloc])).alloc _).alloc _).alloc _).alloc _
 ·exact (At.newAt _ _ (by simp only [World.size_alloc])).alloc _
 ·exact ((At.newAt _ _ (by simp only [World.size_alloc])).alloc _).alloc _
 ·exact At.newAt _ _ (by simp only [World.size_alloc])
end Go.Proofs.YtongedjlmohogaaGreatDoor
