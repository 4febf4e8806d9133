/-
  Texts of mine that others lean on, one behind the other.
-/
import Derived.Shelf.Unicode.ValidAny
import Derived.Test.YtongedjlmohogaaGreatDoorProg
import Derived.KernelRfl
import Derived.Test.YtongedjlmohogaaGreatDoorPack7
import Derived.Test.YtongedjlmohogaaGreatDoorPack14
import Derived.Test.YtongedjlmohogaaGreatDoorPack8
import Derived.Test.YtongedjlmohogaaGreatDoorPack1
import Derived.Test.YtongedjlmohogaaGreatDoorPack9
import Derived.Deep.RegionHeld
import Derived.BigQuiet
import Derived.Deep.RegionWith
import Derived.Test.YtongedjlmohogaaGreatDoorPack5
import Derived.Lib.OthersKept
import Derived.Lib.SpaceUEq
namespace Go.Proofs
open Go.Shelf
def Tryz.lays196_ren:Go.Shelf.Ren:=⟨fun | 196=>57 | 259=>85 | n=>n,fun | 9=>9 | 4=>4 | 3=>3 | 5=>5 | 12=>12 | 119=>112 | 0=>0 | 46=>116 | 139=>115 | 138=>114 | 53=>127 | n=>n,fun | 3=>0 | 4=>1 | n=>n⟩
theorem Tryz.lays196:Go.Proofs.Lays.n196 Tryz.prog Tryz.lays196_ren:={
  mixed:=by kernel_rfl
  f196:=Tryz.func57.trans (congrArg some (by kernel_rfl))
  f259:=Tryz.func85.trans (congrArg some (by kernel_rfl))
  t0:=Tryz.underlying0
  a0:=Tryz.isAgg0
  z0:=Tryz.sizeOf0
  v0:=Tryz.zeroValue0
  t3:=Tryz.underlying3
  a3:=Tryz.isAgg3
  z3:=Tryz.sizeOf3
  v3:=Tryz.zeroValue3
  t4:=Tryz.underlying4
  a4:=Tryz.isAgg4
  z4:=Tryz.sizeOf4
  v4:=Tryz.zeroValue4
  t5:=Tryz.underlying5
  a5:=Tryz.isAgg5
  z5:=Tryz.sizeOf5
  v5:=Tryz.zeroValue5
  t9:=Tryz.underlying9
  a9:=Tryz.isAgg9
  z9:=Tryz.sizeOf9
  v9:=Tryz.zeroValue9
  t12:=Tryz.underlying12
  a12:=Tryz.isAgg12
  z12:=Tryz.sizeOf12
  v12:=Tryz.zeroValue12
  t46:=Tryz.underlying116
  a46:=Tryz.isAgg116
  z46:=Tryz.sizeOf116
  v46:=Tryz.zeroValue116
  t53:=Tryz.underlying127
  a53:=Tryz.isAgg127
  z53:=Tryz.sizeOf127
  v53:=Tryz.zeroValue127
  t119:=Tryz.underlying112
  a119:=Tryz.isAgg112
  z119:=Tryz.sizeOf112
  t138:=Tryz.underlying114
  a138:=Tryz.isAgg114
  z138:=Tryz.sizeOf114
  v138:=Tryz.zeroValue114
  t139:=Tryz.underlying115
  a139:=Tryz.isAgg115
  z139:=Tryz.sizeOf115
  v139:=Tryz.zeroValue115
  g3:=by kernel_rfl
  g4:=by kernel_rfl }
end Go.Proofs

namespace Go.Proofs.YtongedjlmohogaaGreatDoor
open Go.RowKit Go.Shelf
def TabU (w:World):Prop:=Lib.Utf8Tabs (Tryz.lays196_ren.g 3) (Tryz.lays196_ren.g 4) w
theorem TabU.below {w w':World} (h:TabU w) (hb:Below w.heap.size w w'):TabU w':=Utf8Tabs_below h hb
theorem belowC {w W w1:World} (h:Below w.heap.size w W) (hb:Below W.heap.size W w1):Below w.heap.size w w1:=h.trans (hb.mono h.size)
theorem validS_calls (s:ByteArray) (hs:s.size≤9223372036854775807) (B:Bool) (hB:Hid (decide (badOf s = -1)=B)) (w:World) (hT:TabU w) :
  Calls Tryz.prog 57 #[.string s] w fun e w'=>e = .returned (.bool B)∧Below w.heap.size w w':=by
 have h:Calls Tryz.prog 57 _ _ _:=Any.utf8_ValidString Tryz.lays196 s w hs hT
 rw [valid_bad,hB.out] at h
 exact h
def bareB (b:Bool) (r t:ByteArray) (N M:Nat):Bool:=!b && ((r.toList == []) && ((t.toList == []) && (decide (N=0) && decide (M=0))))
set_option maxRecDepth 10000 in
set_option maxHeartbeats 4000000 in
theorem bare_calls (k:Int) (b:Bool) (r t:ByteArray) (ko:Option Addr) (N kc:Nat) (vo:Option Addr) (M vc:Nat) (B:Bool) (hB:Hid (bareB b r t N M=B)) (w:World) :
  Calls Tryz.prog 127 #[.agg #[.int .i64 k,.bool b,.string r,.string t,.slice ko N kc,.slice vo M vc]] w fun e w'=>e = .returned (.bool B)∧Below w.heap.size w w':=by
 rw [← hB.out,bareB]
 clear hB
 go_enter Tryz.func127,Tryz.ntmps127
 go_wp2
 all_goals go_ret
 all_goals (refine ⟨?_,by exact bw⟩)
 all_goals (first | (simp_all [Array.getD];done) | (simp_all [Array.getD];rw [Bool.eq_iff_iff];simp;done))
set_option maxRecDepth 10000 in
set_option maxHeartbeats 4000000 in
theorem keysF_calls (ks:List ByteArray) (ko:Option Addr) (N kc:Nat) (hN:Hid (ks.length=N)) (hNc:N≤capT) (B:Bool) (hB:Hid (allB ks=B)) (w:World) (hT:Hid (TabU w)) (hk:Hid (KeysAt w ko ks)) :
  Calls Tryz.prog 130 #[.slice ko N kc] w fun e w'=>e = .returned (.bool B)∧Below w.heap.size w w':=by
 have hNi:(N:Int)≤9223372036854775807:=by unfold capT at hNc;omega
 clear hNc
 go_enter Tryz.func130,Tryz.ntmps130
 go_wp2
 go_loopw [7] (fun ii wr=>∃ i:Nat,i≤N∧ii = .int .i64 (i:Int)∧Hid (B=allB (ks.drop i))∧Hid (Below w.heap.size w wr)) (fun ii _=>N-(intOf ii).toNat)
 case atStart=>exact ⟨0,Nat.zero_le _,rfl,hid (by show _=_;rw [← hB.out];rfl),hid (Below.refl _ _)⟩
 case round =>
  obtain ⟨i,hi,rfl,hI,hb⟩:=hrel
  by_cases hlt:i<N
  ·have hli:(i:Int)<(N:Int):=by omega
   obtain ⟨s,hu1⟩:∃ u,Hid (ks[i]? = some u):=⟨_,List.getElem?_eq_getElem (by rw [hN.out];exact hlt)⟩
   obtain ⟨hs,g,o,rfl,hg,hc⟩:=(hk.out.kept hb.out) i s hu1.out
   obtain ⟨V,hV⟩:∃ V,Hid (decide (badOf s = -1)=V):=⟨_,rfl⟩
   have hcall:=hid (validS_calls s (by unfold capT at hs;omega) V hV wr (hT.out.below hb.out))
   have hnx:Hid (B=(V && allB (ks.drop (i+1)))):=by
    show _=_
    rw [hI.out,drop_some hu1.out,← hV.out]
    simp [allB]
   clear hs hI hg
   go_wp2_with fail
   refine Calls.mono hcall.out ?_
   rintro e w5 ⟨rfl,hbb⟩
   have Jb:=hid (belowC hb.out (hbb))
   clear hbb hcall hc hb
   cases V with
   | true =>
    have hnx2:Hid (B=allB (ks.drop (i+1))):=by show _=_;rw [hnx.out];rfl
    go_wp2
    go_roundw
    case rel=>exact ⟨i+1,by omega,by simp,hnx2,Jb⟩
    case measure=>simp [intOf];omega
   | false =>
    have hfin:Hid (B=false):=by show _=_;rw [hnx.out];rfl
    go_wp2
    go_ret
    exact ⟨by rw [hfin.out];rfl,Jb.out⟩
  ·have hge:(N:Int)≤(i:Int):=by omega
   have hfin:Hid (B=true):=by
    show _=_
    rw [hI.out,List.drop_of_length_le (by rw [hN.out];omega)]
    rfl
   go_wp2
   go_ret
   exact ⟨by rw [hfin.out];rfl,hb.out⟩
set_option maxRecDepth 10000 in
set_option maxHeartbeats 4000000 in
theorem kidsF_of (vs:List Vt) (l:Int) (hl1:0≤l) (hl2:l≤1024)
  (ih:Hid (∀ (u:Vt) (i:Nat),vs[i]? = some u→∀ (va:Value) (w:World),TabU w→ValAt w u va→1≤l→Calls Tryz.prog 108 #[va,.int .i64 (l-1)] w fun e w'=>e = .returned (.bool (wfV u (l-1)))∧Below w.heap.size w w'))
  (vo:Option Addr) (M vc:Nat) (hM:Hid (vs.length=M)) (hMc:M≤capT) (X:Nat→Array Value) (w:World) (hT:Hid (TabU w)) (hr:Hid (RowAt w vo M X)) (hv:Hid (∀ (i:Nat) (u:Vt),vs[i]? = some u→ValAt w u (.agg (X i)))) (B:Bool) (hB:Hid ((!decide (l=0) && wfL vs (l-1))=B)) :
  Calls Tryz.prog 129 #[.slice vo M vc,.int .i64 l] w fun e w'=>e = .returned (.bool B)∧Below w.heap.size w w':=by
 have hMi:(M:Int)≤9223372036854775807:=by unfold capT at hMc;omega
 clear hMc
 by_cases h0:l=0
 ·subst h0
  have hfin:Hid (B=false):=by show _=_;rw [← hB.out];simp
  clear hB hl1 hl2 ih
  go_enter Tryz.func129,Tryz.ntmps129
  go_wp2
  go_ret
  exact ⟨by rw [hfin.out];rfl,Below.refl _ _⟩
 ·have hl0:(l == 0)=false:=by simp [h0]
  have hlp:1≤l:=by omega
  have hB2:Hid (B=wfL vs (l-1)):=by show _=_;rw [← hB.out,decide_eq_false h0];rfl
  clear hB h0 hl1
  go_enter Tryz.func129,Tryz.ntmps129
  go_wp2
  go_loopw [11] (fun ii wr=>∃ i:Nat,i≤M∧ii = .int .i64 (i:Int)∧Hid (B=wfL (vs.drop i) (l-1))∧Hid (Below w.heap.size w wr)) (fun ii _=>M-(intOf ii).toNat)
  case atStart=>exact ⟨0,Nat.zero_le _,rfl,hB2,hid (Below.refl _ _)⟩
  case round =>
   obtain ⟨i,hi,rfl,hI,hb⟩:=hrel
   by_cases hlt:i<M
   ·have hli:(i:Int)<(M:Int):=by omega
    obtain ⟨u1,hu1⟩:∃ u,Hid (vs[i]? = some u):=⟨_,List.getElem?_eq_getElem (by rw [hM.out];exact hlt)⟩
    obtain ⟨g,o,rfl,hg,hrg,hl1'⟩:=row_range (hr.out.kept hb.out) (i:=i) hlt
    obtain ⟨L1,hL1⟩:∃ L,Hid ((X i).toList=L):=⟨_,rfl⟩
    rw [hL1.out] at hrg hl1'
    have z1:(Tryz.prog.info? 59).map (·.size)=some L1.length:=by rw [hl1'];exact sizeVl
    have v1:Hid (ValAt wr u1 (.agg L1.toArray)):=by
     have:=(hv.out i u1 hu1.out).kept hb.out
     rw [← hL1.out,Array.toArray_toList]
     exact this
    obtain ⟨q,hq⟩:∃ q,Hid (wfV u1 (l-1)=q):=⟨_,rfl⟩
    have hcall:Hid (∀ wq:World,Below wr.heap.size wr wq→Calls Tryz.prog 108 #[.agg L1.toArray,.int .i64 (l-1)] wq fun e w'=>e = .returned (.bool q)∧Below wq.heap.size wq w'):=fun wq hwq=>by
     have h:=ih.out u1 i hu1.out _ wq (hT.out.below (belowC hb.out hwq)) (v1.out.kept hwq) hlp
     rw [hq.out] at h
     exact h
    have hnx:=hid (hI.out.trans (wfL_drop (l-1) hu1.out))
    rw [hq.out] at hnx
    obtain ⟨k1,b1,r1,t1,ko1,N1,kc1,vo1,M1,vc1,rfl⟩:=v1.out.six
    have hrgk:=hid hrg
    have Bx:Hid (Below wr.heap.size wr (wr.alloc (.cells #[.int .i64 k1,.bool b1,.string r1,.string t1,.slice ko1 N1 kc1,.slice vo1 M1 vc1] 59))):=(Below.refl _ wr).alloc (Nat.le_refl _) _
    clear hrg hl1' hI
    go_wp2_with (first | refine wpList_load_want 59 _ g (o+i*6) [.int .i64 k1,.bool b1,.string r1,.string t1,.slice ko1 N1 kc1,.slice vo1 M1 vc1] _ hrgk.out Tryz.underlying59 z1 rfl rfl rfl (by rfl) ?_ | fail)
    refine Calls.mono (hcall.out _ Bx.out) ?_
    rintro e w5 ⟨rfl,hbb⟩
    have Jb:=hid (belowC hb.out (belowC Bx.out hbb))
    clear hbb hcall hrgk Bx hb
    cases q with
    | true =>
     have hnx2:Hid (B=wfL (vs.drop (i+1)) (l-1)):=by show _=_;rw [hnx.out];rfl
     go_wp2
     go_roundw
     case rel=>exact ⟨i+1,by omega,by simp,hnx2,Jb⟩
     case measure=>simp [intOf];omega
    | false =>
     have hfin:Hid (B=false):=by show _=_;rw [hnx.out];rfl
     go_wp2
     go_ret
     exact ⟨by rw [hfin.out];rfl,Jb.out⟩
   ·have hge:(M:Int)≤(i:Int):=by omega
    have hfin:Hid (B=true):=by
     show _=_
     rw [hI.out,List.drop_of_length_le (by rw [hM.out];omega)]
     unfold wfL
     rfl
    go_wp2
    go_ret
    exact ⟨by rw [hfin.out];rfl,hb.out⟩
end Go.Proofs.YtongedjlmohogaaGreatDoor

namespace Go.Proofs.YtongedjlmohogaaGreatDoor
open Go.RowKit Go.Shelf
structure Stp where
 kind:Int
 name:ByteArray
 place:Int
def ifV (s:Stp):Value:=if s.kind=1 then .iface 85 (.string s.name) else if s.kind=2 then .iface 87 (.int .i64 s.place) else if s.kind=3 then .iface 89 (.agg #[]) else .nilIface
def tkS (s:Stp) (nm:ByteArray) (pl:Int) (ob:Bool):Bool:=if s.kind=1 then ob && decide (s.name=nm) else if s.kind=2 then !ob && decide (s.place=pl) else decide (s.kind=3)
theorem eq_str (a b:ByteArray):(a.toList == b.toList)=decide (a=b):=by
 rw [ByteArray.toList_eq,ByteArray.toList_eq]
 by_cases h:a=b
 ·subst h;simp
 ·have:a.data.toList≠b.data.toList:=fun e=>h (ByteArray.ext (by simpa using e))
  rw [decide_eq_false h]
  exact beq_eq_false_iff_ne.2 this
theorem asB_B (s:ByteArray) (u:World):(Instr.typeAssert (.iface 85 (.string s)) 43 85 true).run Tryz.prog u = .ok (.tuple #[.string s,.bool true]) u:=by kernel_rfl
theorem asP_B (i:Int) (u:World):(Instr.typeAssert (.iface 87 (.int .i64 i)) 43 85 true).run Tryz.prog u = .ok (.tuple #[.string ⟨#[]⟩,.bool false]) u:=by kernel_rfl
theorem asP_P (i:Int) (u:World):(Instr.typeAssert (.iface 87 (.int .i64 i)) 43 87 true).run Tryz.prog u = .ok (.tuple #[.int .i64 i,.bool true]) u:=by kernel_rfl
theorem asE_B (u:World):(Instr.typeAssert (.iface 89 (.agg #[])) 43 85 true).run Tryz.prog u = .ok (.tuple #[.string ⟨#[]⟩,.bool false]) u:=by kernel_rfl
theorem asE_P (u:World):(Instr.typeAssert (.iface 89 (.agg #[])) 43 87 true).run Tryz.prog u = .ok (.tuple #[.int .i64 0,.bool false]) u:=by kernel_rfl
theorem asE_E (u:World):(Instr.typeAssert (.iface 89 (.agg #[])) 43 89 true).run Tryz.prog u = .ok (.tuple #[.agg #[],.bool true]) u:=by kernel_rfl
theorem asN_B (u:World):(Instr.typeAssert .nilIface 43 85 true).run Tryz.prog u = .ok (.tuple #[.string ⟨#[]⟩,.bool false]) u:=by kernel_rfl
theorem asN_P (u:World):(Instr.typeAssert .nilIface 43 87 true).run Tryz.prog u = .ok (.tuple #[.int .i64 0,.bool false]) u:=by kernel_rfl
theorem asN_E (u:World):(Instr.typeAssert .nilIface 43 89 true).run Tryz.prog u = .ok (.tuple #[.agg #[],.bool false]) u:=by kernel_rfl
set_option maxRecDepth 10000 in
set_option maxHeartbeats 4000000 in
theorem of22_calls (s:Stp) (w:World):Calls Tryz.prog 30 #[.agg #[.int .i64 s.kind,.string s.name,.int .i64 s.place]] w fun e w'=>e = .returned (ifV s)∧Below w.heap.size w w':=by
 obtain ⟨k,nm,pl⟩:=s
 dsimp only
 by_cases h1:k=1
 ·subst h1
  go_enter Tryz.func30,Tryz.ntmps30
  go_wp2
  go_ret
  exact ⟨rfl,by exact bw⟩
 ·have b1:(k == 1)=false:=beq_eq_false_iff_ne.2 h1
  by_cases h2:k=2
  ·subst h2
   go_enter Tryz.func30,Tryz.ntmps30
   go_wp2
   go_ret
   exact ⟨rfl,by exact bw⟩
  ·have b2:(k == 2)=false:=beq_eq_false_iff_ne.2 h2
   by_cases h3:k=3
   ·subst h3
    go_enter Tryz.func30,Tryz.ntmps30
    go_wp2
    go_ret
    exact ⟨rfl,by exact bw⟩
   ·have b3:(k == 3)=false:=beq_eq_false_iff_ne.2 h3
    have e:ifV ⟨k,nm,pl⟩ = .nilIface:=by unfold ifV;rw [if_neg h1,if_neg h2,if_neg h3]
    rw [e]
    clear e h1 h2 h3
    go_enter Tryz.func30,Tryz.ntmps30
    go_wp2
    go_ret
    exact ⟨rfl,by exact bw⟩
set_option maxRecDepth 10000 in
set_option maxHeartbeats 4000000 in
theorem takesI_calls (s:Stp) (nm:ByteArray) (pl:Int) (ob:Bool) (w:World):Calls Tryz.prog 37 #[ifV s,.string nm,.int .i64 pl,.bool ob] w fun e w'=>e = .returned (.bool (tkS s nm pl ob))∧Below w.heap.size w w':=by
 obtain ⟨k,n0,p0⟩:=s
 by_cases h1:k=1
 ·subst h1
  have a1:=asB_B n0
  have e:tkS ⟨1,n0,p0⟩ nm pl ob=(ob && decide (n0=nm)):=rfl
  rw [e,← eq_str]
  show Calls Tryz.prog 37 #[.iface 85 (.string n0),.string nm,.int .i64 pl,.bool ob] w _
  clear e
  cases ob with
  | true =>
   go_enter Tryz.func37,Tryz.ntmps37
   go_wp2
   go_ret
   exact ⟨rfl,by exact bw⟩
  | false =>
   go_enter Tryz.func37,Tryz.ntmps37
   go_wp2
   go_ret
   exact ⟨rfl,by exact bw⟩
 ·by_cases h2:k=2
  ·subst h2
   have a1:=asP_B p0
   have a2:=asP_P p0
   have e:tkS ⟨2,n0,p0⟩ nm pl ob=(!ob && (p0 == pl)):=by
    show (!ob && decide (p0=pl))=_
    congr 1
   rw [e]
   show Calls Tryz.prog 37 #[.iface 87 (.int .i64 p0),.string nm,.int .i64 pl,.bool ob] w _
   clear e
   cases ob with
   | true =>
    go_enter Tryz.func37,Tryz.ntmps37
    go_wp2
    go_ret
    exact ⟨rfl,by exact bw⟩
   | false =>
    go_enter Tryz.func37,Tryz.ntmps37
    go_wp2
    go_ret
    exact ⟨rfl,by exact bw⟩
  ·by_cases h3:k=3
   ·subst h3
    have a1:=asE_B
    have a2:=asE_P
    have a3:=asE_E
    show Calls Tryz.prog 37 #[.iface 89 (.agg #[]),.string nm,.int .i64 pl,.bool ob] w _
    go_enter Tryz.func37,Tryz.ntmps37
    go_wp2
    go_ret
    exact ⟨rfl,by exact bw⟩
   ·have a1:=asN_B
    have a2:=asN_P
    have a3:=asN_E
    have e:ifV ⟨k,n0,p0⟩ = .nilIface:=by unfold ifV;rw [if_neg h1,if_neg h2,if_neg h3]
    have e':tkS ⟨k,n0,p0⟩ nm pl ob=false:=by unfold tkS;rw [if_neg h1,if_neg h2];exact decide_eq_false h3
    rw [e,e']
    clear e e' h1 h2 h3
    go_enter Tryz.func37,Tryz.ntmps37
    go_wp2
    go_ret
    exact ⟨rfl,by exact bw⟩
end Go.Proofs.YtongedjlmohogaaGreatDoor

namespace Go.Proofs.YtongedjlmohogaaGreatDoor
open Go.RowKit Go.Shelf
def fmS (s:Stp):Bool :=
 if s.kind=1 then decide (s.place=0) && decide (badOf s.name = -1)
 else if s.kind=2 then decide (s.name=⟨#[]⟩) && (decide (0≤s.place) && decide (s.place≤999999999999999999))
 else if s.kind=3 then decide (s.name=⟨#[]⟩) && decide (s.place=0) else false
set_option maxRecDepth 20000 in
theorem eqStp (k k' p p':Int) (a b:ByteArray) (u:World):(Op.equalIn 10000 34 (.agg #[.int .i64 k,.string a,.int .i64 p]) (.agg #[.int .i64 k',.string b,.int .i64 p'])).run Tryz.prog u = .ok (k == k' && (a.toList == b.toList && p == p')) u:=by
 have hf:((Tryz.prog.fieldsOf 34).toList.map fun f=>(decide (f.name≠"_"),f.type,f.offset))=[(true,3,0),(true,9,1),(true,3,2)]:=by kernel_rfl
 rw [run_equalIn_struct u 9999 34 _ _ Tryz.underlying34 (by kernel_rfl)]
 generalize (Tryz.prog.fieldsOf 34).toList=fs at hf
 obtain ⟨f0,fs1,rfl,h0,hf1⟩:=List.map_eq_cons_iff.1 hf
 obtain ⟨f1,fs2,rfl,h1,hf2⟩:=List.map_eq_cons_iff.1 hf1
 obtain ⟨f2,fs3,rfl,h2,hf3⟩:=List.map_eq_cons_iff.1 hf2
 obtain rfl:=List.map_eq_nil_iff.1 hf3
 simp only [Prod.mk.injEq] at h0 h1 h2
 obtain ⟨n0,t0,o0⟩:=h0
 obtain ⟨n1,t1,o1⟩:=h1
 obtain ⟨n2,t2,o2⟩:=h2
 have q0:∀ v0 v1 v2,(Go.part 3 #[v0,v1,v2] 0).run Tryz.prog u = .ok v0 u:=fun _ _ _=>by kernel_rfl
 have q1:∀ v0 v1 v2,(Go.part 9 #[v0,v1,v2] 1).run Tryz.prog u = .ok v1 u:=fun _ _ _=>by kernel_rfl
 have q2:∀ v0 v1 v2,(Go.part 3 #[v0,v1,v2] 2).run Tryz.prog u = .ok v2 u:=fun _ _ _=>by kernel_rfl
 have b0:=run_equalIn_int (P:=Tryz.prog) u 9998 3 .i64 .i64 k k' Tryz.underlying3
 have b1:=run_equalIn_string (P:=Tryz.prog) u 9998 9 a b Tryz.underlying9
 have b2:=run_equalIn_int (P:=Tryz.prog) u 9998 3 .i64 .i64 p p' Tryz.underlying3
 simp only [Nat.reduceAdd] at b0 b1 b2
 cases h0:k == k' <;> cases h1:a.toList == b.toList <;> cases h2:p == p' <;> rw [h0] at b0 <;> rw [h1] at b1 <;> rw [h2] at b2 <;>
  simp [Op.eqFields,of_decide_eq_true n0,of_decide_eq_true n1,of_decide_eq_true n2,t0,o0,t1,o1,t2,o2,q0,q1,q2,Result.andThen,b0,b1,b2]
theorem sizeStp:(Tryz.prog.info? 34).map (·.size)=some 3:=by kernel_rfl
theorem ret_stp {fn:Func} {p:Tmp} {R:Ending→World→Prop} {a:Act} {w:World} {b:Nat} {cs:Array Value} (hres:fn.results = #[.cell p 34]) (hp:a.tmps.getD p undef = .pointer (some ⟨b,0,none⟩))
  (h:At w b cs 34) (hc:cs.size=3) (hd:a.defers=[]) (hR:R (.returned (.agg cs)) w):bodyPost Tryz.prog fn R .ret a w:=by
 refine bodyPost_ret (v:=.agg cs) ?_ hd hR
 have hl:=run_loadVar_row (P:=Tryz.prog) w b 34 34 cs (0,0) _ h Tryz.underlying34 rfl (by rw [hc];exact sizeStp)
 have hp':a.tmps[p]?.getD undef = .pointer (some ⟨b,0,none⟩):=by simpa using hp
 simp [results,hres,hp',asAddr,hl]
theorem plnB22_calls (x:ByteArray) (w:World):Calls Tryz.prog 56 #[.string x] w fun e w'=>e = .returned (.agg #[.int .i64 1,.string x,.int .i64 0])∧Below w.heap.size w w':=by
 go_enter Tryz.func56,Tryz.ntmps56
 go_wp2
 refine ret_stp rfl rfl (At.new w _ _) rfl rfl ⟨rfl,by exact bw⟩
theorem plnP22_calls (x:Int) (w:World):Calls Tryz.prog 58 #[.int .i64 x] w fun e w'=>e = .returned (.agg #[.int .i64 2,.string ⟨#[]⟩,.int .i64 x])∧Below w.heap.size w w':=by
 go_enter Tryz.func58,Tryz.ntmps58
 go_wp2
 refine ret_stp rfl rfl (At.new w _ _) rfl rfl ⟨rfl,by exact bw⟩
theorem plnE22_calls (w:World):Calls Tryz.prog 59 #[.agg #[]] w fun e w'=>e = .returned (.agg #[.int .i64 3,.string ⟨#[]⟩,.int .i64 0])∧Below w.heap.size w w':=by
 go_enter Tryz.func59,Tryz.ntmps59
 go_wp2
 refine ret_stp rfl rfl (At.newAt (b:=w.heap.size+1) _ _ (by simp only [World.size_alloc])) rfl rfl ⟨rfl,by exact bw⟩
set_option maxRecDepth 10000 in
set_option maxHeartbeats 4000000 in
theorem formed22_calls (s:Stp) (hs:s.name.size≤9223372036854775807) (w:World) (hT:TabU w):Calls Tryz.prog 35 #[.agg #[.int .i64 s.kind,.string s.name,.int .i64 s.place]] w fun e w'=>e = .returned (.bool (fmS s))∧Below w.heap.size w w':=by
 obtain ⟨k,nm,pl⟩:=s
 have hof:=hid (fun u=>of22_calls ⟨k,nm,pl⟩ u)
 have A1:=hid (At.new w #[.int .i64 k,.string nm,.int .i64 pl] 34)
 have B1:=hid (show Below w.heap.size w (w.alloc (.cells #[.int .i64 k,.string nm,.int .i64 pl] 34)) from (Below.refl _ w).alloc (Nat.le_refl _) _)
 obtain ⟨W1,hW1⟩:∃ W,w.alloc (.cells #[.int .i64 k,.string nm,.int .i64 pl] 34)=W:=⟨_,rfl⟩
 rw [hW1] at A1 B1
 have c0:=A1.out.cell 0
 have c1:=A1.out.cell 1
 have c2:=A1.out.cell 2
 simp only [List.getElem?_toArray,List.getElem?_cons_zero,List.getElem?_cons_succ] at c0 c1 c2
 dsimp only at hs ⊢
 have hT1:=hid (hT.below B1.out)
 by_cases h1:k=1
 ·subst h1
  have hof':Hid (∀ u,Calls Tryz.prog 30 #[.agg #[.int .i64 1,.string nm,.int .i64 pl]] u fun e w'=>e = .returned (.iface 85 (.string nm))∧Below u.heap.size u w'):=hof
  have hval:=hid (fun u h=>validS_calls nm hs (decide (badOf nm = -1)) (hid rfl) u h)
  have hfm:fmS ⟨1,nm,pl⟩=(decide (pl=0) && decide (badOf nm = -1)):=rfl
  rw [hfm]
  have hpl:=hid (fun u=>plnB22_calls nm u)
  have aB:=asB_B nm
  have eqs:=fun u=>eqStp 1 1 0 pl nm nm u
  have ee:(nm.toList == nm.toList)=true:=by simp
  rw [show ((1:Int) == 1)=true from rfl,ee,Bool.true_and,Bool.true_and] at eqs
  clear hof hfm hs hT
  generalize decide (badOf nm = -1)=V at hval ⊢
  cases hp:(0:Int) == pl with
  | true =>
   rw [hp] at eqs
   rw [show decide (pl=0)=true from decide_eq_true (by have:=beq_iff_eq.1 hp;omega),Bool.true_and]
   go_enter Tryz.func35,Tryz.ntmps35
   go_wp2_with fail
   refine Calls.mono (hof'.out _) ?_
   rintro e w3 ⟨rfl,b3⟩
   have B3:=hid (B1.out.trans (b3.mono B1.out.size))
   have A3:=hid (A1.out.keptAll b3)
   have T3:=hid (hT1.out.below b3)
   clear b3 c0 c1 c2 hof' A1 B1 hT1 hW1
   go_wp2_with fail
   rename_i Kr hKr
   refine wp_region_held_drew (S:=fun A=>At A w.heap.size #[.int .i64 1,.string nm,.int .i64 pl] 34) (by kernel_rfl) A3.out.drew (fun hH=>?_)
   have B4:=hid (show Below w.heap.size w (World.drew w3) from B3.out.drew)
   have A4:=hid (show At (World.drew w3) w.heap.size #[.int .i64 1,.string nm,.int .i64 pl] 34 from A3.out.drew)
   have T4:=hid (show TabU (World.drew w3) from T3.out.below (Below.refl _ _).drew)
   clear hH A3 B3 T3
   (refine' wpAnyH_take (i:=0) rfl (by kernel_rfl) (by kernel_rfl) (by kernel_rfl) (fun _ _ _ h=>h) (Or.inl ⟨by rfl,?_⟩) (by assumption) ?_;rotate_left;(· (intro wq hq;(try dsimp only at hq);go_simp;first | done | with_reducible rfl));simp only [psA])
   (refine wpAnyH_take (i:=2) (v:=.agg [.int .i64 1,.string nm,.int .i64 pl].toArray) rfl (by kernel_rfl) (by kernel_rfl) (by kernel_rfl) (fun _ _ _ h=>h) (yieldsIf_load_mid (by rfl) 34 _ rfl (w.heap.size) 0 rfl [.int .i64 1,.string nm,.int .i64 pl] _ (fun wq hq=>hq.range rfl) Tryz.underlying34 rfl sizeStp) (by assumption) ?_;simp only [psA])
   refine wpAnyH_ready (rs:=[1]) (by kernel_rfl) (by simp) ?_
   refine AllReadyH.cons rfl (fun K hK=>?_) ?_
   rotate_left
   ·exact AllReadyH.nil
   rw [if_pos (by rfl)]
   go_simp
   refine Calls.mono (hpl.out _) ?_
   rintro e w5 ⟨rfl,b5⟩
   have A5:=hid (A4.out.keptAll b5)
   have T5:=hid (T4.out.below b5)
   have B5:=hid (B4.out.trans (b5.mono B4.out.size))
   refine hK.out _ _ A5.out (fun hHa=>?_)
   clear hK K b5 hHa
   (refine' wpAnyH_take (i:=3) rfl (by kernel_rfl) (by kernel_rfl) (by kernel_rfl) (fun _ _ _ h=>h) (Or.inl ⟨by rfl,?_⟩) (by assumption) ?_;rotate_left;(· (intro wq hq;(try dsimp only at hq);go_simp;first | done | with_reducible rfl));simp only [psA])
   (refine' wpAnyH_take (i:=4) rfl (by kernel_rfl) (by kernel_rfl) (by kernel_rfl) (fun _ _ _ h=>h) (Or.inl ⟨by rfl,?_⟩) (by assumption) ?_;rotate_left;(· (intro wq hq;(try dsimp only at hq);go_simp;first | done | with_reducible rfl));simp only [psA])
   (refine' wpAnyH_take (i:=5) rfl (by kernel_rfl) (by kernel_rfl) (by kernel_rfl) (fun _ _ _ h=>h) (Or.inl ⟨by rfl,?_⟩) (by assumption) ?_;rotate_left;(· (intro wq hq;(try dsimp only at hq);go_simp;first | done | with_reducible rfl));simp only [psA])
   refine wpAnyH_ready (rs:=[6]) (by kernel_rfl) (by simp) ?_
   refine AllReadyH.cons rfl (fun K hK=>?_) ?_
   rotate_left
   ·exact AllReadyH.nil
   rw [if_pos (by rfl)]
   go_simp
   refine Calls.mono (hval.out _ T5.out) ?_
   rintro e w6 ⟨rfl,b6⟩
   have A6:=hid (A5.out.keptAll b6)
   have T6:=hid (T5.out.below b6)
   have B6:=hid (B5.out.trans (b6.mono B5.out.size))
   refine hK.out _ _ A6.out (fun hHa=>?_)
   clear hK K b6 hHa
   (refine' wpAnyH_take (i:=7) rfl (by kernel_rfl) (by kernel_rfl) (by kernel_rfl) (fun _ _ _ h=>h) (Or.inl ⟨by rfl,?_⟩) (by assumption) ?_;rotate_left;(· (intro wq hq;(try dsimp only at hq);go_simp;first | done | with_reducible rfl));simp only [psA])
   (refine' wpAnyH_take (i:=8) rfl (by kernel_rfl) (by kernel_rfl) (by kernel_rfl) (fun _ _ _ h=>h) (Or.inl ⟨by rfl,?_⟩) (by assumption) ?_;rotate_left;(· (intro wq hq;(try dsimp only at hq);go_simp;first | done | with_reducible rfl));simp only [psA])
   refine wpAnyH_done (by kernel_rfl) ?_ _
   refine hKr _ _ ?_
   go_wp2
   go_ret
   exact ⟨rfl,B6.out⟩
  | false =>
   rw [hp] at eqs
   rw [show decide (pl=0)=false from decide_eq_false (by have:=beq_eq_false_iff_ne.1 hp;omega),Bool.false_and]
   go_enter Tryz.func35,Tryz.ntmps35
   go_wp2_with fail
   refine Calls.mono (hof'.out _) ?_
   rintro e w3 ⟨rfl,b3⟩
   have B3:=hid (B1.out.trans (b3.mono B1.out.size))
   have A3:=hid (A1.out.keptAll b3)
   have T3:=hid (hT1.out.below b3)
   clear b3 c0 c1 c2 hof' A1 B1 hT1 hW1
   go_wp2_with fail
   rename_i Kr hKr
   refine wp_region_held_drew (S:=fun A=>At A w.heap.size #[.int .i64 1,.string nm,.int .i64 pl] 34) (by kernel_rfl) A3.out.drew (fun hH=>?_)
   have B4:=hid (show Below w.heap.size w (World.drew w3) from B3.out.drew)
   have A4:=hid (show At (World.drew w3) w.heap.size #[.int .i64 1,.string nm,.int .i64 pl] 34 from A3.out.drew)
   have T4:=hid (show TabU (World.drew w3) from T3.out.below (Below.refl _ _).drew)
   clear hH A3 B3 T3
   (refine' wpAnyH_take (i:=0) rfl (by kernel_rfl) (by kernel_rfl) (by kernel_rfl) (fun _ _ _ h=>h) (Or.inl ⟨by rfl,?_⟩) (by assumption) ?_;rotate_left;(· (intro wq hq;(try dsimp only at hq);go_simp;first | done | with_reducible rfl));simp only [psA])
   (refine wpAnyH_take (i:=2) (v:=.agg [.int .i64 1,.string nm,.int .i64 pl].toArray) rfl (by kernel_rfl) (by kernel_rfl) (by kernel_rfl) (fun _ _ _ h=>h) (yieldsIf_load_mid (by rfl) 34 _ rfl (w.heap.size) 0 rfl [.int .i64 1,.string nm,.int .i64 pl] _ (fun wq hq=>hq.range rfl) Tryz.underlying34 rfl sizeStp) (by assumption) ?_;simp only [psA])
   refine wpAnyH_ready (rs:=[1]) (by kernel_rfl) (by simp) ?_
   refine AllReadyH.cons rfl (fun K hK=>?_) ?_
   rotate_left
   ·exact AllReadyH.nil
   rw [if_pos (by rfl)]
   go_simp
   refine Calls.mono (hpl.out _) ?_
   rintro e w5 ⟨rfl,b5⟩
   have A5:=hid (A4.out.keptAll b5)
   have T5:=hid (T4.out.below b5)
   have B5:=hid (B4.out.trans (b5.mono B4.out.size))
   refine hK.out _ _ A5.out (fun hHa=>?_)
   clear hK K b5 hHa
   (refine' wpAnyH_take (i:=3) rfl (by kernel_rfl) (by kernel_rfl) (by kernel_rfl) (fun _ _ _ h=>h) (Or.inl ⟨by rfl,?_⟩) (by assumption) ?_;rotate_left;(· (intro wq hq;(try dsimp only at hq);go_simp;first | done | with_reducible rfl));simp only [psA])
   (refine' wpAnyH_take (i:=4) rfl (by kernel_rfl) (by kernel_rfl) (by kernel_rfl) (fun _ _ _ h=>h) (Or.inl ⟨by rfl,?_⟩) (by assumption) ?_;rotate_left;(· (intro wq hq;(try dsimp only at hq);go_simp;first | done | with_reducible rfl));simp only [psA])
   (refine wpAnyH_take (i:=5) (v:=undef) rfl (by kernel_rfl) (by kernel_rfl) (by kernel_rfl) (fun _ _ _ h=>h) (Or.inr ⟨by rfl,rfl⟩) (by assumption) ?_;simp only [psA])
   (refine wpAnyH_take (i:=6) (v:=undef) rfl (by kernel_rfl) (by kernel_rfl) (by kernel_rfl) (fun _ _ _ h=>h) (Or.inr ⟨by rfl,rfl⟩) (by assumption) ?_;simp only [psA])
   (refine' wpAnyH_take (i:=7) rfl (by kernel_rfl) (by kernel_rfl) (by kernel_rfl) (fun _ _ _ h=>h) (Or.inl ⟨by rfl,?_⟩) (by assumption) ?_;rotate_left;(· (intro wq hq;(try dsimp only at hq);go_simp;first | done | with_reducible rfl));simp only [psA])
   (refine' wpAnyH_take (i:=8) rfl (by kernel_rfl) (by kernel_rfl) (by kernel_rfl) (fun _ _ _ h=>h) (Or.inl ⟨by rfl,?_⟩) (by assumption) ?_;rotate_left;(· (intro wq hq;(try dsimp only at hq);go_simp;first | done | with_reducible rfl));simp only [psA])
   refine wpAnyH_done (by kernel_rfl) ?_ _
   refine hKr _ _ ?_
   go_wp2
   go_ret
   exact ⟨rfl,B5.out⟩
 ·by_cases h2:k=2
  ·subst h2
   have hof':Hid (∀ u,Calls Tryz.prog 30 #[.agg #[.int .i64 2,.string nm,.int .i64 pl]] u fun e w'=>e = .returned (.iface 87 (.int .i64 pl))∧Below u.heap.size u w'):=hof
   have hfm:fmS ⟨2,nm,pl⟩=(decide (nm=⟨#[]⟩) && (decide (0≤pl) && decide (pl≤999999999999999999))):=rfl
   rw [hfm]
   have hpl:=hid (fun u=>plnP22_calls pl u)
   have aB:=asP_B pl
   have aP:=asP_P pl
   have eqs:=fun u=>eqStp 2 2 pl pl ⟨#[]⟩ nm u
   rw [show ((2:Int) == 2)=true from rfl,Bool.true_and,eq_str,show (pl == pl)=true by simp,Bool.and_true,show decide ((⟨#[]⟩:ByteArray)=nm)=decide (nm=⟨#[]⟩) from decide_eq_decide.2 eq_comm] at eqs
   clear hof hfm hs hT h1
   generalize decide (nm=⟨#[]⟩)=E at eqs ⊢
   cases E with
   | false =>
    rw [Bool.false_and]
    go_enter Tryz.func35,Tryz.ntmps35
    go_wp2_with fail
    refine Calls.mono (hof'.out _) ?_
    rintro e w3 ⟨rfl,b3⟩
    have B3:=hid (B1.out.trans (b3.mono B1.out.size))
    have A3:=hid (A1.out.keptAll b3)
    have T3:=hid (hT1.out.below b3)
    clear b3 c0 c1 c2 hof' A1 B1 hT1 hW1
    go_wp2_with fail
    rename_i Kr hKr
    refine wp_region_held_drew (S:=fun A=>At A w.heap.size #[.int .i64 2,.string nm,.int .i64 pl] 34) (by kernel_rfl) A3.out.drew (fun hH=>?_)
    have B4:=hid (show Below w.heap.size w (World.drew w3) from B3.out.drew)
    have A4:=hid (show At (World.drew w3) w.heap.size #[.int .i64 2,.string nm,.int .i64 pl] 34 from A3.out.drew)
    have T4:=hid (show TabU (World.drew w3) from T3.out.below (Below.refl _ _).drew)
    clear hH A3 B3 T3
    (refine' wpAnyH_take (i:=0) rfl (by kernel_rfl) (by kernel_rfl) (by kernel_rfl) (fun _ _ _ h=>h) (Or.inl ⟨by rfl,?_⟩) (by assumption) ?_;rotate_left;(· (intro wq hq;(try dsimp only at hq);go_simp;first | done | with_reducible rfl));simp only [psA])
    (refine wpAnyH_take (i:=2) (v:=.agg [.int .i64 2,.string nm,.int .i64 pl].toArray) rfl (by kernel_rfl) (by kernel_rfl) (by kernel_rfl) (fun _ _ _ h=>h) (yieldsIf_load_mid (by rfl) 34 _ rfl (w.heap.size) 0 rfl [.int .i64 2,.string nm,.int .i64 pl] _ (fun wq hq=>hq.range rfl) Tryz.underlying34 rfl sizeStp) (by assumption) ?_;simp only [psA])
    refine wpAnyH_ready (rs:=[1]) (by kernel_rfl) (by simp) ?_
    refine AllReadyH.cons rfl (fun K hK=>?_) ?_
    rotate_left
    ·exact AllReadyH.nil
    rw [if_pos (by rfl)]
    go_simp
    refine Calls.mono (hpl.out _) ?_
    rintro e w5 ⟨rfl,b5⟩
    have A5:=hid (A4.out.keptAll b5)
    have T5:=hid (T4.out.below b5)
    have B5:=hid (B4.out.trans (b5.mono B4.out.size))
    refine hK.out _ _ A5.out (fun hHa=>?_)
    clear hK K b5 hHa
    (refine' wpAnyH_take (i:=3) rfl (by kernel_rfl) (by kernel_rfl) (by kernel_rfl) (fun _ _ _ h=>h) (Or.inl ⟨by rfl,?_⟩) (by assumption) ?_;rotate_left;(· (intro wq hq;(try dsimp only at hq);go_simp;first | done | with_reducible rfl));simp only [psA])
    (refine' wpAnyH_take (i:=4) rfl (by kernel_rfl) (by kernel_rfl) (by kernel_rfl) (fun _ _ _ h=>h) (Or.inl ⟨by rfl,?_⟩) (by assumption) ?_;rotate_left;(· (intro wq hq;(try dsimp only at hq);go_simp;first | done | with_reducible rfl));simp only [psA])
    (refine wpAnyH_take (i:=5) (v:=undef) rfl (by kernel_rfl) (by kernel_rfl) (by kernel_rfl) (fun _ _ _ h=>h) (Or.inr ⟨by rfl,rfl⟩) (by assumption) ?_;simp only [psA])
    (refine wpAnyH_take (i:=6) (v:=undef) rfl (by kernel_rfl) (by kernel_rfl) (by kernel_rfl) (fun _ _ _ h=>h) (Or.inr ⟨by rfl,rfl⟩) (by assumption) ?_;simp only [psA])
    (refine' wpAnyH_take (i:=7) rfl (by kernel_rfl) (by kernel_rfl) (by kernel_rfl) (fun _ _ _ h=>h) (Or.inl ⟨by rfl,?_⟩) (by assumption) ?_;rotate_left;(· (intro wq hq;(try dsimp only at hq);go_simp;first | done | with_reducible rfl));simp only [psA])
    (refine' wpAnyH_take (i:=8) rfl (by kernel_rfl) (by kernel_rfl) (by kernel_rfl) (fun _ _ _ h=>h) (Or.inl ⟨by rfl,?_⟩) (by assumption) ?_;rotate_left;(· (intro wq hq;(try dsimp only at hq);go_simp;first | done | with_reducible rfl));simp only [psA])
    (refine wpAnyH_take (i:=9) (v:=undef) rfl (by kernel_rfl) (by kernel_rfl) (by kernel_rfl) (fun _ _ _ h=>h) (Or.inr ⟨by rfl,rfl⟩) (by assumption) ?_;simp only [psA])
    (refine wpAnyH_take (i:=10) (v:=undef) rfl (by kernel_rfl) (by kernel_rfl) (by kernel_rfl) (fun _ _ _ h=>h) (Or.inr ⟨by rfl,rfl⟩) (by assumption) ?_;simp only [psA])
    (refine' wpAnyH_take (i:=11) rfl (by kernel_rfl) (by kernel_rfl) (by kernel_rfl) (fun _ _ _ h=>h) (Or.inl ⟨by rfl,?_⟩) (by assumption) ?_;rotate_left;(· (intro wq hq;(try dsimp only at hq);go_simp;first | done | with_reducible rfl));simp only [psA])
    (refine' wpAnyH_take (i:=12) rfl (by kernel_rfl) (by kernel_rfl) (by kernel_rfl) (fun _ _ _ h=>h) (Or.inl ⟨by rfl,?_⟩) (by assumption) ?_;rotate_left;(· (intro wq hq;(try dsimp only at hq);go_simp;first | done | with_reducible rfl));simp only [psA])
    refine wpAnyH_done (by kernel_rfl) ?_ _
    refine hKr _ _ ?_
    go_wp2
    go_ret
    exact ⟨rfl,B5.out⟩
   | true =>
    rw [Bool.true_and]
    cases hp:decide ((0:Int)≤pl) with
    | false =>
     rw [Bool.false_and]
     go_enter Tryz.func35,Tryz.ntmps35
     go_wp2_with fail
     refine Calls.mono (hof'.out _) ?_
     rintro e w3 ⟨rfl,b3⟩
     have B3:=hid (B1.out.trans (b3.mono B1.out.size))
     have A3:=hid (A1.out.keptAll b3)
     have T3:=hid (hT1.out.below b3)
     clear b3 c0 c1 c2 hof' A1 B1 hT1 hW1
     go_wp2_with fail
     rename_i Kr hKr
     refine wp_region_held_drew (S:=fun A=>At A w.heap.size #[.int .i64 2,.string nm,.int .i64 pl] 34) (by kernel_rfl) A3.out.drew (fun hH=>?_)
     have B4:=hid (show Below w.heap.size w (World.drew w3) from B3.out.drew)
     have A4:=hid (show At (World.drew w3) w.heap.size #[.int .i64 2,.string nm,.int .i64 pl] 34 from A3.out.drew)
     have T4:=hid (show TabU (World.drew w3) from T3.out.below (Below.refl _ _).drew)
     clear hH A3 B3 T3
     (refine' wpAnyH_take (i:=0) rfl (by kernel_rfl) (by kernel_rfl) (by kernel_rfl) (fun _ _ _ h=>h) (Or.inl ⟨by rfl,?_⟩) (by assumption) ?_;rotate_left;(· (intro wq hq;(try dsimp only at hq);go_simp;first | done | with_reducible rfl));simp only [psA])
     (refine wpAnyH_take (i:=2) (v:=.agg [.int .i64 2,.string nm,.int .i64 pl].toArray) rfl (by kernel_rfl) (by kernel_rfl) (by kernel_rfl) (fun _ _ _ h=>h) (yieldsIf_load_mid (by rfl) 34 _ rfl (w.heap.size) 0 rfl [.int .i64 2,.string nm,.int .i64 pl] _ (fun wq hq=>hq.range rfl) Tryz.underlying34 rfl sizeStp) (by assumption) ?_;simp only [psA])
     refine wpAnyH_ready (rs:=[1]) (by kernel_rfl) (by simp) ?_
     refine AllReadyH.cons rfl (fun K hK=>?_) ?_
     rotate_left
     ·exact AllReadyH.nil
     rw [if_pos (by rfl)]
     go_simp
     refine Calls.mono (hpl.out _) ?_
     rintro e w5 ⟨rfl,b5⟩
     have A5:=hid (A4.out.keptAll b5)
     have T5:=hid (T4.out.below b5)
     have B5:=hid (B4.out.trans (b5.mono B4.out.size))
     refine hK.out _ _ A5.out (fun hHa=>?_)
     clear hK K b5 hHa
     (refine' wpAnyH_take (i:=3) rfl (by kernel_rfl) (by kernel_rfl) (by kernel_rfl) (fun _ _ _ h=>h) (Or.inl ⟨by rfl,?_⟩) (by assumption) ?_;rotate_left;(· (intro wq hq;(try dsimp only at hq);go_simp;first | done | with_reducible rfl));simp only [psA])
     (refine' wpAnyH_take (i:=4) rfl (by kernel_rfl) (by kernel_rfl) (by kernel_rfl) (fun _ _ _ h=>h) (Or.inl ⟨by rfl,?_⟩) (by assumption) ?_;rotate_left;(· (intro wq hq;(try dsimp only at hq);go_simp;first | done | with_reducible rfl));simp only [psA])
     (refine' wpAnyH_take (i:=5) rfl (by kernel_rfl) (by kernel_rfl) (by kernel_rfl) (fun _ _ _ h=>h) (Or.inl ⟨by rfl,?_⟩) (by assumption) ?_;rotate_left;(· (intro wq hq;(try dsimp only at hq);go_simp;first | done | with_reducible rfl));simp only [psA])
     (refine' wpAnyH_take (i:=6) rfl (by kernel_rfl) (by kernel_rfl) (by kernel_rfl) (fun _ _ _ h=>h) (Or.inl ⟨by rfl,?_⟩) (by assumption) ?_;rotate_left;(· (intro wq hq;(try dsimp only at hq);go_simp;first | done | with_reducible rfl));simp only [psA])
     (refine' wpAnyH_take (i:=7) rfl (by kernel_rfl) (by kernel_rfl) (by kernel_rfl) (fun _ _ _ h=>h) (Or.inl ⟨by rfl,?_⟩) (by assumption) ?_;rotate_left;(· (intro wq hq;(try dsimp only at hq);go_simp;first | done | with_reducible rfl));simp only [psA])
     (refine' wpAnyH_take (i:=8) rfl (by kernel_rfl) (by kernel_rfl) (by kernel_rfl) (fun _ _ _ h=>h) (Or.inl ⟨by rfl,?_⟩) (by assumption) ?_;rotate_left;(· (intro wq hq;(try dsimp only at hq);go_simp;first | done | with_reducible rfl));simp only [psA])
     (refine wpAnyH_take (i:=9) (v:=undef) rfl (by kernel_rfl) (by kernel_rfl) (by kernel_rfl) (fun _ _ _ h=>h) (Or.inr ⟨by rfl,rfl⟩) (by assumption) ?_;simp only [psA])
     (refine wpAnyH_take (i:=10) (v:=undef) rfl (by kernel_rfl) (by kernel_rfl) (by kernel_rfl) (fun _ _ _ h=>h) (Or.inr ⟨by rfl,rfl⟩) (by assumption) ?_;simp only [psA])
     (refine' wpAnyH_take (i:=11) rfl (by kernel_rfl) (by kernel_rfl) (by kernel_rfl) (fun _ _ _ h=>h) (Or.inl ⟨by rfl,?_⟩) (by assumption) ?_;rotate_left;(· (intro wq hq;(try dsimp only at hq);go_simp;first | done | with_reducible rfl));simp only [psA])
     (refine' wpAnyH_take (i:=12) rfl (by kernel_rfl) (by kernel_rfl) (by kernel_rfl) (fun _ _ _ h=>h) (Or.inl ⟨by rfl,?_⟩) (by assumption) ?_;rotate_left;(· (intro wq hq;(try dsimp only at hq);go_simp;first | done | with_reducible rfl));simp only [psA])
     refine wpAnyH_done (by kernel_rfl) ?_ _
     refine hKr _ _ ?_
     go_wp2
     go_ret
     exact ⟨rfl,B5.out⟩
    | true =>
     rw [Bool.true_and]
     cases hq:decide (pl≤(999999999999999999:Int)) with
     | false =>
      go_enter Tryz.func35,Tryz.ntmps35
      go_wp2_with fail
      refine Calls.mono (hof'.out _) ?_
      rintro e w3 ⟨rfl,b3⟩
      have B3:=hid (B1.out.trans (b3.mono B1.out.size))
      have A3:=hid (A1.out.keptAll b3)
      have T3:=hid (hT1.out.below b3)
      clear b3 c0 c1 c2 hof' A1 B1 hT1 hW1
      go_wp2_with fail
      rename_i Kr hKr
      refine wp_region_held_drew (S:=fun A=>At A w.heap.size #[.int .i64 2,.string nm,.int .i64 pl] 34) (by kernel_rfl) A3.out.drew (fun hH=>?_)
      have B4:=hid (show Below w.heap.size w (World.drew w3) from B3.out.drew)
      have A4:=hid (show At (World.drew w3) w.heap.size #[.int .i64 2,.string nm,.int .i64 pl] 34 from A3.out.drew)
      have T4:=hid (show TabU (World.drew w3) from T3.out.below (Below.refl _ _).drew)
      clear hH A3 B3 T3
      (refine' wpAnyH_take (i:=0) rfl (by kernel_rfl) (by kernel_rfl) (by kernel_rfl) (fun _ _ _ h=>h) (Or.inl ⟨by rfl,?_⟩) (by assumption) ?_;rotate_left;(· (intro wq hq;(try dsimp only at hq);go_simp;first | done | with_reducible rfl));simp only [psA])
      (refine wpAnyH_take (i:=2) (v:=.agg [.int .i64 2,.string nm,.int .i64 pl].toArray) rfl (by kernel_rfl) (by kernel_rfl) (by kernel_rfl) (fun _ _ _ h=>h) (yieldsIf_load_mid (by rfl) 34 _ rfl (w.heap.size) 0 rfl [.int .i64 2,.string nm,.int .i64 pl] _ (fun wq hq=>hq.range rfl) Tryz.underlying34 rfl sizeStp) (by assumption) ?_;simp only [psA])
      refine wpAnyH_ready (rs:=[1]) (by kernel_rfl) (by simp) ?_
      refine AllReadyH.cons rfl (fun K hK=>?_) ?_
      rotate_left
      ·exact AllReadyH.nil
      rw [if_pos (by rfl)]
      go_simp
      refine Calls.mono (hpl.out _) ?_
      rintro e w5 ⟨rfl,b5⟩
      have A5:=hid (A4.out.keptAll b5)
      have T5:=hid (T4.out.below b5)
      have B5:=hid (B4.out.trans (b5.mono B4.out.size))
      refine hK.out _ _ A5.out (fun hHa=>?_)
      clear hK K b5 hHa
      (refine' wpAnyH_take (i:=3) rfl (by kernel_rfl) (by kernel_rfl) (by kernel_rfl) (fun _ _ _ h=>h) (Or.inl ⟨by rfl,?_⟩) (by assumption) ?_;rotate_left;(· (intro wq hq;(try dsimp only at hq);go_simp;first | done | with_reducible rfl));simp only [psA])
      (refine' wpAnyH_take (i:=4) rfl (by kernel_rfl) (by kernel_rfl) (by kernel_rfl) (fun _ _ _ h=>h) (Or.inl ⟨by rfl,?_⟩) (by assumption) ?_;rotate_left;(· (intro wq hq;(try dsimp only at hq);go_simp;first | done | with_reducible rfl));simp only [psA])
      (refine' wpAnyH_take (i:=5) rfl (by kernel_rfl) (by kernel_rfl) (by kernel_rfl) (fun _ _ _ h=>h) (Or.inl ⟨by rfl,?_⟩) (by assumption) ?_;rotate_left;(· (intro wq hq;(try dsimp only at hq);go_simp;first | done | with_reducible rfl));simp only [psA])
      (refine' wpAnyH_take (i:=6) rfl (by kernel_rfl) (by kernel_rfl) (by kernel_rfl) (fun _ _ _ h=>h) (Or.inl ⟨by rfl,?_⟩) (by assumption) ?_;rotate_left;(· (intro wq hq;(try dsimp only at hq);go_simp;first | done | with_reducible rfl));simp only [psA])
      (refine' wpAnyH_take (i:=7) rfl (by kernel_rfl) (by kernel_rfl) (by kernel_rfl) (fun _ _ _ h=>h) (Or.inl ⟨by rfl,?_⟩) (by assumption) ?_;rotate_left;(· (intro wq hq;(try dsimp only at hq);go_simp;first | done | with_reducible rfl));simp only [psA])
      (refine' wpAnyH_take (i:=8) rfl (by kernel_rfl) (by kernel_rfl) (by kernel_rfl) (fun _ _ _ h=>h) (Or.inl ⟨by rfl,?_⟩) (by assumption) ?_;rotate_left;(· (intro wq hq;(try dsimp only at hq);go_simp;first | done | with_reducible rfl));simp only [psA])
      (refine' wpAnyH_take (i:=9) rfl (by kernel_rfl) (by kernel_rfl) (by kernel_rfl) (fun _ _ _ h=>h) (Or.inl ⟨by rfl,?_⟩) (by assumption) ?_;rotate_left;(· (intro wq hq;(try dsimp only at hq);go_simp;first | done | with_reducible rfl));simp only [psA])
      (refine' wpAnyH_take (i:=10) rfl (by kernel_rfl) (by kernel_rfl) (by kernel_rfl) (fun _ _ _ h=>h) (Or.inl ⟨by rfl,?_⟩) (by assumption) ?_;rotate_left;(· (intro wq hq;(try dsimp only at hq);go_simp;first | done | with_reducible rfl));simp only [psA])
      (refine' wpAnyH_take (i:=11) rfl (by kernel_rfl) (by kernel_rfl) (by kernel_rfl) (fun _ _ _ h=>h) (Or.inl ⟨by rfl,?_⟩) (by assumption) ?_;rotate_left;(· (intro wq hq;(try dsimp only at hq);go_simp;first | done | with_reducible rfl));simp only [psA])
      (refine' wpAnyH_take (i:=12) rfl (by kernel_rfl) (by kernel_rfl) (by kernel_rfl) (fun _ _ _ h=>h) (Or.inl ⟨by rfl,?_⟩) (by assumption) ?_;rotate_left;(· (intro wq hq;(try dsimp only at hq);go_simp;first | done | with_reducible rfl));simp only [psA])
      refine wpAnyH_done (by kernel_rfl) ?_ _
      refine hKr _ _ ?_
      go_wp2
      go_ret
      exact ⟨rfl,B5.out⟩
     | true =>
      go_enter Tryz.func35,Tryz.ntmps35
      go_wp2_with fail
      refine Calls.mono (hof'.out _) ?_
      rintro e w3 ⟨rfl,b3⟩
      have B3:=hid (B1.out.trans (b3.mono B1.out.size))
      have A3:=hid (A1.out.keptAll b3)
      have T3:=hid (hT1.out.below b3)
      clear b3 c0 c1 c2 hof' A1 B1 hT1 hW1
      go_wp2_with fail
      rename_i Kr hKr
      refine wp_region_held_drew (S:=fun A=>At A w.heap.size #[.int .i64 2,.string nm,.int .i64 pl] 34) (by kernel_rfl) A3.out.drew (fun hH=>?_)
      have B4:=hid (show Below w.heap.size w (World.drew w3) from B3.out.drew)
      have A4:=hid (show At (World.drew w3) w.heap.size #[.int .i64 2,.string nm,.int .i64 pl] 34 from A3.out.drew)
      have T4:=hid (show TabU (World.drew w3) from T3.out.below (Below.refl _ _).drew)
      clear hH A3 B3 T3
      (refine' wpAnyH_take (i:=0) rfl (by kernel_rfl) (by kernel_rfl) (by kernel_rfl) (fun _ _ _ h=>h) (Or.inl ⟨by rfl,?_⟩) (by assumption) ?_;rotate_left;(· (intro wq hq;(try dsimp only at hq);go_simp;first | done | with_reducible rfl));simp only [psA])
      (refine wpAnyH_take (i:=2) (v:=.agg [.int .i64 2,.string nm,.int .i64 pl].toArray) rfl (by kernel_rfl) (by kernel_rfl) (by kernel_rfl) (fun _ _ _ h=>h) (yieldsIf_load_mid (by rfl) 34 _ rfl (w.heap.size) 0 rfl [.int .i64 2,.string nm,.int .i64 pl] _ (fun wq hq=>hq.range rfl) Tryz.underlying34 rfl sizeStp) (by assumption) ?_;simp only [psA])
      refine wpAnyH_ready (rs:=[1]) (by kernel_rfl) (by simp) ?_
      refine AllReadyH.cons rfl (fun K hK=>?_) ?_
      rotate_left
      ·exact AllReadyH.nil
      rw [if_pos (by rfl)]
      go_simp
      refine Calls.mono (hpl.out _) ?_
      rintro e w5 ⟨rfl,b5⟩
      have A5:=hid (A4.out.keptAll b5)
      have T5:=hid (T4.out.below b5)
      have B5:=hid (B4.out.trans (b5.mono B4.out.size))
      refine hK.out _ _ A5.out (fun hHa=>?_)
      clear hK K b5 hHa
      (refine' wpAnyH_take (i:=3) rfl (by kernel_rfl) (by kernel_rfl) (by kernel_rfl) (fun _ _ _ h=>h) (Or.inl ⟨by rfl,?_⟩) (by assumption) ?_;rotate_left;(· (intro wq hq;(try dsimp only at hq);go_simp;first | done | with_reducible rfl));simp only [psA])
      (refine' wpAnyH_take (i:=4) rfl (by kernel_rfl) (by kernel_rfl) (by kernel_rfl) (fun _ _ _ h=>h) (Or.inl ⟨by rfl,?_⟩) (by assumption) ?_;rotate_left;(· (intro wq hq;(try dsimp only at hq);go_simp;first | done | with_reducible rfl));simp only [psA])
      (refine' wpAnyH_take (i:=5) rfl (by kernel_rfl) (by kernel_rfl) (by kernel_rfl) (fun _ _ _ h=>h) (Or.inl ⟨by rfl,?_⟩) (by assumption) ?_;rotate_left;(· (intro wq hq;(try dsimp only at hq);go_simp;first | done | with_reducible rfl));simp only [psA])
      (refine' wpAnyH_take (i:=6) rfl (by kernel_rfl) (by kernel_rfl) (by kernel_rfl) (fun _ _ _ h=>h) (Or.inl ⟨by rfl,?_⟩) (by assumption) ?_;rotate_left;(· (intro wq hq;(try dsimp only at hq);go_simp;first | done | with_reducible rfl));simp only [psA])
      (refine' wpAnyH_take (i:=7) rfl (by kernel_rfl) (by kernel_rfl) (by kernel_rfl) (fun _ _ _ h=>h) (Or.inl ⟨by rfl,?_⟩) (by assumption) ?_;rotate_left;(· (intro wq hq;(try dsimp only at hq);go_simp;first | done | with_reducible rfl));simp only [psA])
      (refine' wpAnyH_take (i:=8) rfl (by kernel_rfl) (by kernel_rfl) (by kernel_rfl) (fun _ _ _ h=>h) (Or.inl ⟨by rfl,?_⟩) (by assumption) ?_;rotate_left;(· (intro wq hq;(try dsimp only at hq);go_simp;first | done | with_reducible rfl));simp only [psA])
      (refine' wpAnyH_take (i:=9) rfl (by kernel_rfl) (by kernel_rfl) (by kernel_rfl) (fun _ _ _ h=>h) (Or.inl ⟨by rfl,?_⟩) (by assumption) ?_;rotate_left;(· (intro wq hq;(try dsimp only at hq);go_simp;first | done | with_reducible rfl));simp only [psA])
      (refine' wpAnyH_take (i:=10) rfl (by kernel_rfl) (by kernel_rfl) (by kernel_rfl) (fun _ _ _ h=>h) (Or.inl ⟨by rfl,?_⟩) (by assumption) ?_;rotate_left;(· (intro wq hq;(try dsimp only at hq);go_simp;first | done | with_reducible rfl));simp only [psA])
      (refine' wpAnyH_take (i:=11) rfl (by kernel_rfl) (by kernel_rfl) (by kernel_rfl) (fun _ _ _ h=>h) (Or.inl ⟨by rfl,?_⟩) (by assumption) ?_;rotate_left;(· (intro wq hq;(try dsimp only at hq);go_simp;first | done | with_reducible rfl));simp only [psA])
      (refine' wpAnyH_take (i:=12) rfl (by kernel_rfl) (by kernel_rfl) (by kernel_rfl) (fun _ _ _ h=>h) (Or.inl ⟨by rfl,?_⟩) (by assumption) ?_;rotate_left;(· (intro wq hq;(try dsimp only at hq);go_simp;first | done | with_reducible rfl));simp only [psA])
      refine wpAnyH_done (by kernel_rfl) ?_ _
      refine hKr _ _ ?_
      go_wp2
      go_ret
      exact ⟨rfl,B5.out⟩
  ·by_cases h3:k=3
   ·subst h3
    have hof':Hid (∀ u,Calls Tryz.prog 30 #[.agg #[.int .i64 3,.string nm,.int .i64 pl]] u fun e w'=>e = .returned (.iface 89 (.agg #[]))∧Below u.heap.size u w'):=hof
    have hfm:fmS ⟨3,nm,pl⟩=(decide (nm=⟨#[]⟩) && decide (pl=0)):=rfl
    rw [hfm]
    have hpl:=hid (fun u=>plnE22_calls u)
    have aB:=asE_B
    have aP:=asE_P
    have aE:=asE_E
    have eqs:=fun u=>eqStp 3 3 0 pl ⟨#[]⟩ nm u
    have e0:((0:Int) == pl)=decide (pl=0):=by
     by_cases h:pl=0
     ·subst h;rfl
     ·rw [decide_eq_false h];exact beq_eq_false_iff_ne.2 (by omega)
    rw [show ((3:Int) == 3)=true from rfl,Bool.true_and,eq_str,show decide ((⟨#[]⟩:ByteArray)=nm)=decide (nm=⟨#[]⟩) from decide_eq_decide.2 eq_comm,e0] at eqs
    clear hof hfm hs hT h1 h2 e0
    generalize (decide (nm=⟨#[]⟩) && decide (pl=0))=E at eqs ⊢
    go_enter Tryz.func35,Tryz.ntmps35
    go_wp2_with fail
    refine Calls.mono (hof'.out _) ?_
    rintro e w3 ⟨rfl,b3⟩
    have B3:=hid (B1.out.trans (b3.mono B1.out.size))
    have A3:=hid (A1.out.keptAll b3)
    have T3:=hid (hT1.out.below b3)
    clear b3 c0 c1 c2 hof' A1 B1 hT1 hW1
    go_wp2_with fail
    have B3:=hid (show Below w.heap.size w (w3.alloc (.cells #[] 89)) from B3.out.alloc B3.out.size _)
    have A3:=hid (A3.out.alloc (.cells #[] 89))
    have T3:=hid (T3.out.below (show Below w3.heap.size w3 (w3.alloc (.cells #[] 89)) from (Below.refl _ _).alloc (Nat.le_refl _) _))
    generalize w3.alloc (.cells #[] 89)=w3a at *
    rename_i Kr hKr
    refine wp_region_held_drew (S:=fun A=>At A w.heap.size #[.int .i64 3,.string nm,.int .i64 pl] 34) (by kernel_rfl) A3.out.drew (fun hH=>?_)
    have B4:=hid (show Below w.heap.size w (World.drew w3a) from B3.out.drew)
    have A4:=hid (show At (World.drew w3a) w.heap.size #[.int .i64 3,.string nm,.int .i64 pl] 34 from A3.out.drew)
    have T4:=hid (show TabU (World.drew w3a) from T3.out.below (Below.refl _ _).drew)
    clear hH A3 B3 T3
    (refine' wpAnyH_take (i:=0) rfl (by kernel_rfl) (by kernel_rfl) (by kernel_rfl) (fun _ _ _ h=>h) (Or.inl ⟨by rfl,?_⟩) (by assumption) ?_;rotate_left;(· (intro wq hq;(try dsimp only at hq);go_simp;first | done | with_reducible rfl));simp only [psA])
    (refine wpAnyH_take (i:=2) (v:=.agg [.int .i64 3,.string nm,.int .i64 pl].toArray) rfl (by kernel_rfl) (by kernel_rfl) (by kernel_rfl) (fun _ _ _ h=>h) (yieldsIf_load_mid (by rfl) 34 _ rfl (w.heap.size) 0 rfl [.int .i64 3,.string nm,.int .i64 pl] _ (fun wq hq=>hq.range rfl) Tryz.underlying34 rfl sizeStp) (by assumption) ?_;simp only [psA])
    refine wpAnyH_ready (rs:=[1]) (by kernel_rfl) (by simp) ?_
    refine AllReadyH.cons rfl (fun K hK=>?_) ?_
    rotate_left
    ·exact AllReadyH.nil
    rw [if_pos (by rfl)]
    go_simp
    refine Calls.mono (hpl.out _) ?_
    rintro e w5 ⟨rfl,b5⟩
    have A5:=hid (A4.out.keptAll b5)
    have T5:=hid (T4.out.below b5)
    have B5:=hid (B4.out.trans (b5.mono B4.out.size))
    refine hK.out _ _ A5.out (fun hHa=>?_)
    clear hK K b5 hHa
    (refine' wpAnyH_take (i:=3) rfl (by kernel_rfl) (by kernel_rfl) (by kernel_rfl) (fun _ _ _ h=>h) (Or.inl ⟨by rfl,?_⟩) (by assumption) ?_;rotate_left;(· (intro wq hq;(try dsimp only at hq);go_simp;first | done | with_reducible rfl));simp only [psA])
    (refine' wpAnyH_take (i:=4) rfl (by kernel_rfl) (by kernel_rfl) (by kernel_rfl) (fun _ _ _ h=>h) (Or.inl ⟨by rfl,?_⟩) (by assumption) ?_;rotate_left;(· (intro wq hq;(try dsimp only at hq);go_simp;first | done | with_reducible rfl));simp only [psA])
    refine wpAnyH_done (by kernel_rfl) ?_ _
    refine hKr _ _ ?_
    go_wp2
    go_ret
    exact ⟨rfl,B5.out⟩
   ·have hfm:fmS ⟨k,nm,pl⟩=false:=by unfold fmS;rw [if_neg h1,if_neg h2,if_neg h3]
    have hof':Hid (∀ u,Calls Tryz.prog 30 #[.agg #[.int .i64 k,.string nm,.int .i64 pl]] u fun e w'=>e = .returned .nilIface∧Below u.heap.size u w'):=hid (fun u=>by
     have h:=hof.out u
     rw [show ifV ⟨k,nm,pl⟩ = .nilIface by unfold ifV;rw [if_neg h1,if_neg h2,if_neg h3]] at h
     exact h)
    rw [hfm]
    have aB:=asN_B
    have aP:=asN_P
    have aE:=asN_E
    clear hof hfm hs hT h1 h2 h3
    go_enter Tryz.func35,Tryz.ntmps35
    go_wp2_with fail
    refine Calls.mono (hof'.out _) ?_
    rintro e w3 ⟨rfl,b3⟩
    have B3:=hid (B1.out.trans (b3.mono B1.out.size))
    clear b3 c0 c1 c2 hof' A1 B1 hT1 hW1
    go_wp2
    go_ret
    exact ⟨rfl,B3.out⟩
end Go.Proofs.YtongedjlmohogaaGreatDoor

namespace Go.Proofs.YtongedjlmohogaaGreatDoor
open Go.RowKit Go.Shelf
def plN (s:ByteArray):Nat→Nat
 | 0=>0
 | i+1=>plN s i*10+(lk s i-48)
def plB (s:ByteArray):Bool:=decide (1≤s.size∧s.size≤18∧(lk s 0=48→s.size=1)) && decide (∀ i,i<s.size→48≤lk s i∧lk s i≤57)
def plV (s:ByteArray):Int:=if plB s=true then (plN s s.size:Int) else 0
theorem plN_lt (s:ByteArray):∀ i,(∀ j,j<i→lk s j≤57)→plN s i<10 ^ i
 | 0,_=>by simp [plN]
 | i+1,h=>by
  have h1:=plN_lt s i (fun j hj=>h j (by omega))
  have h2:=h i (by omega)
  rw [plN,Nat.pow_succ]
  omega
theorem plN_17 (s:ByteArray) (i:Nat) (hi:i≤17) (h:∀ j,j<i→lk s j≤57):plN s i<100000000000000000:=by
 have h1:=plN_lt s i h
 have h2:10 ^ i≤10 ^ 17:=Nat.pow_le_pow_right (by decide) hi
 exact Nat.lt_of_lt_of_le h1 h2
theorem plB_no {s:ByteArray} (h:¬ (1≤s.size∧s.size≤18∧(lk s 0=48→s.size=1))):plB s=false:=by unfold plB;rw [decide_eq_false h];rfl
theorem plB_bad {s:ByteArray} {i:Nat} (hi:i<s.size) (h:¬ (48≤lk s i∧lk s i≤57)):plB s=false:=by
 unfold plB
 rw [show decide (∀ i,i<s.size→48≤lk s i∧lk s i≤57)=false from decide_eq_false (fun h'=>h (h' i hi)),Bool.and_false]
theorem plB_yes {s:ByteArray} (h1:1≤s.size) (h2:s.size≤18) (h3:lk s 0=48→s.size=1) (h:∀ i,i<s.size→48≤lk s i∧lk s i≤57):plB s=true:=by
 unfold plB
 rw [decide_eq_true (show 1≤s.size∧s.size≤18∧(lk s 0=48→s.size=1) from ⟨h1,h2,h3⟩),decide_eq_true h]
 rfl
theorem plV_no {s:ByteArray} (h:plB s=false):plV s=0:=by unfold plV;rw [h];rfl
theorem plV_yes {s:ByteArray} (h:plB s=true):plV s=(plN s s.size:Int):=by unfold plV;rw [h];rfl
end Go.Proofs.YtongedjlmohogaaGreatDoor

namespace Go.Proofs.YtongedjlmohogaaGreatDoor
open Go.RowKit Go.Shelf
theorem dec_low (s:ByteArray) (i:Nat) (h:i<s.size) (h1:lk s i<128):Utf8.decode s i=(lk s i,1):=by rw [lk_at s i h] at h1 ⊢;exact decode_ascii s i h h1
theorem dec_high (s:ByteArray) (i:Nat) (h:i<s.size) (h1:128≤lk s i):128≤(Utf8.decode s i).1∧1≤(Utf8.decode s i).2:=by rw [lk_at s i h] at h1;exact decode_high s i h h1
theorem dec_pos (s:ByteArray) (i:Nat) (h:i<s.size):1≤(Utf8.decode s i).2:=by
 by_cases h1:lk s i<128
 ·rw [dec_low s i h h1];exact Nat.le_refl _
 ·exact (dec_high s i h (by omega)).2
theorem lk_get20 (s:ByteArray) (i:Nat):(s.get! i).toNat=lk s i:=by
 unfold lk
 by_cases h:i<s.size
 ·rw [dif_pos h,← Go.get_at s i h];rfl
 ·rw [dif_neg h]
  have:s.get! i=0:=by
   show s.data[i]! = 0
   rw [getElem!_neg s.data i (by simpa using h)]
   rfl
  rw [this];rfl
theorem dec_conts (s:ByteArray) (i:Nat) (h:i<s.size):i+(Utf8.decode s i).2≤s.size∧∀ j,i<j→j<i+(Utf8.decode s i).2→128≤lk s j:=by
 have hc:=Lib.decodeN_conts (s.size-i) (s.get! i).toNat (s.get! (i+1)).toNat (s.get! (i+2)).toNat (s.get! (i+3)).toNat
 rw [← Lib.decode_at s i,lk_get20,lk_get20,lk_get20] at hc
 obtain ⟨c1,c2,c3,c4⟩:=hc
 obtain ⟨D,hD⟩:∃ D,(Utf8.decode s i).2=D:=⟨_,rfl⟩
 rw [hD] at c1 c2 c3 c4 ⊢
 refine ⟨?_,fun j hj1 hj2=>?_⟩
 ·rcases Nat.lt_or_ge D 2 with h2 | h2
  ·omega
  ·have:=(c1 h2).2
   rcases Nat.lt_or_ge D 3 with h3 | h3
   ·omega
   ·have:=(c2 h3).2
    rcases Nat.lt_or_ge D 4 with h4 | h4
    ·omega
    ·have:=(c3 h4).2
     omega
 ·have hj:j=i+1∨j=i+2∨j=i+3:=by omega
  rcases hj with rfl | rfl | rfl
  ·have:=(c1 (by omega)).1;omega
  ·have:=(c2 (by omega)).1;omega
  ·have:=(c3 (by omega)).1;omega
theorem eq_const (s:ByteArray) (l:List UInt8):(s.toList == l)=decide (s.data.toList=l):=by
 rw [Lib.toList_data]
 cases h:decide (s.data.toList=l)
 ·exact beq_eq_false_iff_ne.2 (of_decide_eq_false h)
 ·exact beq_iff_eq.2 (of_decide_eq_true h)
set_option maxRecDepth 10000 in
set_option maxHeartbeats 2000000 in
theorem plc_calls (s:ByteArray) (hs:s.size≤9223372036854775807) (w:World):Calls Tryz.prog 106 #[.string s] w fun e w'=>e = .returned (.tuple #[.int .i64 (plV s),.bool (plB s)])∧Below w.heap.size w w':=by
 by_cases h1:s.size<1
 ·have hb:=hid (plB_no (s:=s) (fun h=>by omega))
  obtain rfl:s=ByteArray.empty:=by
   apply ByteArray.ext
   apply Array.eq_empty_of_size_eq_zero
   have:s.data.size=s.size:=rfl
   omega
  clear h1
  go_enter Tryz.func106,Tryz.ntmps106
  go_wp2
  go_ret2
  exact ⟨by rw [plV_no hb.out,hb.out];rfl,Below.refl _ _⟩
 have h0:0<s.size:=by omega
 have e0:=lk_at s 0 h0
 have hne:(s.toList == [])=false:=by
  have:=eq_const s []
  rw [this]
  apply decide_eq_false
  intro h
  have h2:=congrArg List.length h
  rw [Array.length_toList] at h2
  have h3:s.data.size=0:=h2
  have h4:s.data.size=s.size:=rfl
  omega
 by_cases h2:s=(⟨#[48]⟩:ByteArray)
 ·subst h2
  have hb:=hid (show plB (⟨#[48]⟩:ByteArray)=true by decide)
  have hv:=hid (show plV (⟨#[48]⟩:ByteArray)=0 by rw [plV_yes hb.out];decide)
  clear hne e0 h0 h1 hs
  go_enter Tryz.func106,Tryz.ntmps106
  go_wp2
  go_ret2
  exact ⟨by rw [hv.out,hb.out];rfl,Below.refl _ _⟩
 have hn2:(s.toList == [48])=false:=by
  have:=eq_const s [48]
  rw [this]
  apply decide_eq_false
  intro h
  exact h2 (ByteArray.ext (Array.toList_inj.1 h))
 by_cases h3:(s[0]'h0).toNat=48
 ·have hz:1<s.size:=by
   rcases Nat.lt_or_ge 1 s.size with h | h
   ·exact h
   ·exfalso
    apply h2
    apply ByteArray.ext
    have hs1:s.data.size=1:=by have:s.data.size=s.size:=rfl;omega
    apply Array.ext
    ·exact hs1
    ·intro i hi1 hi2
     obtain rfl:i=0:=by simp at hi2;omega
     show (s[0]'h0)=48
     exact UInt8.toNat_inj.1 h3
  have hb:=hid (plB_no (s:=s) (fun h=>by have:=h.2.2 (by rw [e0];exact h3);omega))
  clear e0 h2
  go_enter Tryz.func106,Tryz.ntmps106
  go_wp2
  go_ret2
  exact ⟨by rw [plV_no hb.out,hb.out];rfl,Below.refl _ _⟩
 by_cases h4:18<s.size
 ·have hb:=hid (plB_no (s:=s) (fun h=>by omega))
  clear e0 h2
  go_enter Tryz.func106,Tryz.ntmps106
  go_wp2
  go_ret2
  exact ⟨by rw [plV_no hb.out,hb.out];rfl,Below.refl _ _⟩
 have hs18:s.size≤18:=by omega
 have h0':=hid (show lk s 0=48→s.size=1 from fun h=>by rw [e0] at h;omega)
 have b1:(((s[0]'h0).toNat:Int) == 48)=false:=beq_eq_false_iff_ne.2 (by omega)
 have b2:decide ((18:Int)<(s.size:Int))=false:=decide_eq_false (by omega)
 clear e0 h2
 go_enter Tryz.func106,Tryz.ntmps106
 go_wp2
 go_loopw [4] (fun nn wr=>∃ q:Nat,q≤s.size∧nn = .int .i64 ((plN s q:Nat):Int)∧Hid (wr.heap[w.heap.size]? = some (.stringIter s q))∧Hid (∀ j,j<q→48≤lk s j∧lk s j≤57)∧Hid (Below w.heap.size w wr)) (fun _ wr=>s.size-wr.iterPos w.heap.size)
 case atStart=>exact ⟨0,Nat.zero_le _,rfl,hid (World.iter_heap w s 0),hid (fun j hj=>by omega),hid ((Below.refl _ w).alloc (Nat.le_refl _) _)⟩
 case round =>
  obtain ⟨q,hqN,rfl,hI,hD,hB⟩:=hrel
  by_cases hq:q<s.size
  ·have hnx:=fun ty=>Lib.run_next_any_at (P:=Tryz.prog) wr w.heap.size s q ty hI.out hq
   have hwd:=dec_pos s q hq
   have hI2:=hid (Lib.iterAt_heap wr w.heap.size s q (q+(Utf8.decode s q).2) hI.out)
   have hB2:=hid (Lib.below_iterAt hB.out (k:=w.heap.size) (Nat.le_refl _) s (q+(Utf8.decode s q).2))
   by_cases hd:48≤lk s q∧lk s q≤57
   ·obtain ⟨hd1,hd2⟩:=hd
    have hN:=plN_17 s q (by omega) (fun j hj=>(hD.out j hj).2)
    have hnn:plN s (q+1)=plN s q*10+(lk s q-48):=rfl
    have hdec:=dec_low s q hq (by omega)
    rw [hdec] at hnx hI2 hB2
    obtain ⟨c,hc⟩:∃ c,lk s q=c:=⟨_,rfl⟩
    obtain ⟨n,hn⟩:∃ n,plN s q=n:=⟨_,rfl⟩
    have hc':=hid hc
    rw [hn] at hN hnn ⊢
    rw [hc] at hnx hd1 hd2 hnn
    have hnn':=hid hnn
    clear hnn hn hc hdec
    go_wp2
    go_roundw
    case rel=>exact ⟨q+1,by omega,by rw [hnn'.out];congr 1;omega,hI2,hid (fun j hj=>by
     by_cases e:j=q
     ·subst e;rw [hc'.out];exact ⟨hd1,hd2⟩
     ·exact hD.out j (by omega)),hB2⟩
    case measure=>simp only [World.iterPos,hI2.out,hI.out];omega
   ·have hb:=hid (plB_bad hq hd)
    obtain ⟨c,hc⟩:∃ c,(Utf8.decode s q).1=c:=⟨_,rfl⟩
    have hcb:c<48∨(48≤c∧57<c):=by
     by_cases hl:lk s q<128
     ·rw [dec_low s q hq hl] at hc;simp at hc;omega
     ·have:=(dec_high s q hq (by omega)).1;omega
    rw [hc] at hnx
    clear hd hc
    rcases hcb with h | ⟨h,h'⟩
    ·go_wp2
     go_ret2
     exact ⟨by rw [plV_no hb.out,hb.out];rfl,hB2.out⟩
    ·go_wp2
     go_ret2
     exact ⟨by rw [plV_no hb.out,hb.out];rfl,hB2.out⟩
  ·obtain rfl:q=s.size:=by omega
   have hnx:=fun ty=>Lib.run_next_end_at (P:=Tryz.prog) wr w.heap.size s s.size ty hI.out (by omega)
   have hb:=hid (plB_yes (by omega) hs18 h0'.out hD.out)
   go_wp2
   go_ret2
   exact ⟨by rw [plV_yes hb.out,hb.out];rfl,hB.out⟩
end Go.Proofs.YtongedjlmohogaaGreatDoor
