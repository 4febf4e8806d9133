import Derived.Test.YtongedjlmohogaaGreatDoorPack16
import Derived.Test.YtongedjlmohogaaGreatDoorPyG
import Derived.Deep.OwnRows
namespace Go.Proofs.YtongedjlmohogaaGreatDoor
open Go.RowKit Go.Shelf
theorem infoSP:(Tryz.prog.info? 43).map (fun i=>(i.zero,i.size,i.bytes))=some (some .nilIface,1,16):=by kernel_rfl
def kpL (ss:List Stp) (i N:Nat):Array Value:=((ss.take i).map ifV++List.replicate (N-i) Value.nilIface).toArray
theorem kpL_size {ss:List Stp} {i N:Nat} (h:ss.length=N) (hi:i≤N):(kpL ss i N).size=N:=by
 unfold kpL
 simp
 omega
theorem kpL_zero (ss:List Stp) (N:Nat):madeCells #[Value.nilIface] N=kpL ss 0 N:=by
 apply Array.ext_getElem?
 intro i
 by_cases hi:i<N
 ·simp [madeCells,kpL,hi,Nat.mod_one]
 ·rw [Array.getElem?_eq_none (by simp [madeCells];omega),Array.getElem?_eq_none (by simp [kpL];omega)]
theorem kpL_step {ss:List Stp} {i N:Nat} {s:Stp} (h:ss.length=N) (hs:ss[i]? = some s) (hi:i<N):(kpL ss i N).setIfInBounds i (ifV s)=kpL ss (i+1) N:=by
 have hl:((ss.take i).map ifV).length=i:=by simp;omega
 unfold kpL
 rw [List.setIfInBounds_toArray]
 congr 1
 rw [List.set_append_right _ _ (by omega),hl,Nat.sub_self,show N-i=(N-(i+1))+1 by omega,List.replicate_succ,List.set_cons_zero,List.take_add_one,hs,List.map_append]
 simp
theorem kpL_get {ss:List Stp} {N i:Nat} {s:Stp} (h:ss.length=N) (hs:ss[i]? = some s):(kpL ss N N)[i]? = some (ifV s):=by
 have hi:i<N:=by rw [← h];exact (List.getElem?_eq_some_iff.1 hs).1
 unfold kpL
 rw [List.getElem?_toArray,List.getElem?_append_left (by simp;omega),List.getElem?_map,List.getElem?_take,if_pos hi,hs]
 rfl
set_option maxRecDepth 10000 in
set_option maxHeartbeats 4000000 in
theorem kept_calls (ss:List Stp) (ao:Option Addr) (N cap:Nat) (hN:Hid (ss.length=N)) (hNi:N≤1099511627776) (hok:Hid (∀ s ∈ ss,okS s)) (w:World) (hk:Hid (StepsAt w ao ss)) :
  Calls Tryz.prog 45 #[.slice ao N cap] w fun e w'=>e = .returned (.slice (some ⟨w.heap.size,0,none⟩) N N)∧At w' w.heap.size (kpL ss N N) 43∧Below w.heap.size w w':=by
 have hNi':(N:Int)≤1099511627776:=by omega
 have hmk:=fun u:World=>run_make_row' (P:=Tryz.prog) 82 43 .nilIface 16 Tryz.underlying82 infoSP rfl .i64 .i64 N (by omega) (by omega) u
 have A0:Hid (At (w.alloc (.cells (madeCells #[Value.nilIface] N) 43)) w.heap.size (kpL ss 0 N) 43):=hid (by rw [← kpL_zero ss N];exact At.new _ _ _)
 have B0:=hid (show Below w.heap.size w (w.alloc (.cells (madeCells #[Value.nilIface] N) 43)) from (Below.refl _ w).alloc (Nat.le_refl _) _)
 obtain ⟨g,hg⟩:∃ g,Hid (w.heap.size=g):=⟨_,hid rfl⟩
 obtain ⟨W0,hW0⟩:∃ W,w.alloc (.cells (madeCells #[Value.nilIface] N) 43)=W:=⟨_,rfl⟩
 rw [hW0] at A0 B0
 have hgl:=hid A0.out.lt
 go_enter Tryz.func45,Tryz.ntmps45
 go_wp2
 go_loopw [11] (fun ii wr=>∃ i:Nat,i≤N∧ii = .int .i64 (i:Int)∧Hid (At wr w.heap.size (kpL ss i N) 43)∧Hid (Below w.heap.size w wr)∧Hid (w.heap.size<wr.heap.size)) (fun ii _=>N-(intOf ii).toNat)
 case atStart=>exact ⟨0,Nat.zero_le _,rfl,A0,B0,hgl⟩
 case round =>
  obtain ⟨i,hi,rfl,hA,hb,hl⟩:=hrel
  clear A0 B0 hW0 hmk hgl
  by_cases hlt:i<N
  ·have hli:(i:Int)<(N:Int):=by omega
   obtain ⟨s,hs⟩:∃ s,Hid (ss[i]? = some s):=⟨_,List.getElem?_eq_getElem (by rw [hN.out];exact hlt)⟩
   have hk2:=hk.out.kept hb.out
   have hsz:=(hk2 i s hs.out).1
   obtain ⟨g2,o,rfl,hg2,hrg⟩:=steps_at hk2 hs.out
   have hst:=hid (kpL_step hN.out hs.out hlt)
   have hof:=hid (fun u=>of22_calls s u)
   obtain ⟨tt,vv,hiv⟩:=(hok.out s (List.mem_of_getElem? hs.out)).iface
   rw [hiv] at hof hst
   obtain ⟨k,nm,pl⟩:=s
   have hsz':nm.size≤capT:=hsz
   have hcl:=hid (fun u=>cloneT_calls nm (by unfold capT at hsz';omega) u)
   have hrg':=hid hrg
   have A1:=hid (At.new wr #[.int .i64 k,.string nm,.int .i64 pl] 34)
   have B1:=hid (show Below w.heap.size w (wr.alloc (.cells #[.int .i64 k,.string nm,.int .i64 pl] 34)) from hb.out.alloc hb.out.size _)
   have R1:=hid (hA.out.alloc (.cells #[.int .i64 k,.string nm,.int .i64 pl] 34))
   have z1:(Tryz.prog.info? 34).map (·.size)=some ([.int .i64 k,.string nm,.int .i64 pl]:List Value).length:=sizeStp
   obtain ⟨q,hq⟩:∃ q,wr.heap.size=q:=⟨_,rfl⟩
   have hqw:w.heap.size<q:=by have:=hl.out;omega
   rw [hq] at A1
   obtain ⟨W1,hW1⟩:∃ W,wr.alloc (.cells #[.int .i64 k,.string nm,.int .i64 pl] 34)=W:=⟨_,rfl⟩
   rw [hW1] at A1 B1 R1
   have c1:W1.cell? ⟨q,1,none⟩=some (.string nm):=A1.out.cell 1
   have hlt':=hid (show i+1≤N by omega)
   dsimp only at hof
   clear hs hk2 hsz hsz' hg2 hrg hb hA hiv hl
   go_wp2_with (first | refine wpList_load_want 34 _ g2 (o+i*3) [.int .i64 k,.string nm,.int .i64 pl] _ hrg'.out Tryz.underlying34 z1 rfl rfl rfl (by rfl) ?_ | fail)
   refine Calls.mono (hcl.out _) ?_
   rintro e w3 ⟨rfl,b3⟩
   have A3:=hid (A1.out.keptAll b3)
   have R3:=hid (R1.out.keptAll b3)
   have B3:=hid (B1.out.trans (b3.mono B1.out.size))
   have c13:w3.cell? ⟨q,1,none⟩=some (.string nm):=A3.out.cell 1
   have f13:w3.frozen? ⟨q,1,none⟩=false:=A3.out.frozen 1
   have A4:Hid (At (w3.setCell ⟨q,1,none⟩ (.string nm)) q #[.int .i64 k,.string nm,.int .i64 pl] 34):=hid (by simpa using A3.out.set 1 (.string nm))
   have R4:=hid (R3.out.other (p:=⟨q,1,none⟩) (by show w.heap.size≠q;omega) (.string nm))
   have B4:=hid (B3.out.setCell (p:=⟨q,1,none⟩) (by show w.heap.size≤q;omega) (.string nm))
   clear b3 hcl A1 R1 B1 hW1 c1
   go_upto_region 6 with fail
   generalize w3.setCell ⟨q,1,none⟩ (.string nm)=w4 at A4 R4 B4 ⊢
   have d0:=A4.out.cell 0
   have d1:=A4.out.cell 1
   have d2:=A4.out.cell 2
   simp only [List.getElem?_toArray,List.getElem?_cons_zero,List.getElem?_cons_succ] at d0 d1 d2
   go_wp2_with fail
   refine Calls.mono (hof.out _) ?_
   rintro e w5 ⟨rfl,b5⟩
   have R5:=hid (R4.out.keptAll b5)
   have B5:=hid (B4.out.trans (b5.mono B4.out.size))
   have r1:∃ x,w5.cell? ⟨w.heap.size,i,none⟩=some x:=by
    rw [R5.out.cell i]
    exact ⟨_,Array.getElem?_eq_getElem (by rw [kpL_size hN.out (by omega)];omega)⟩
   obtain ⟨x,r1⟩:=r1
   have r2:w5.frozen? ⟨w.heap.size,i,none⟩=false:=R5.out.frozen i
   have R6:Hid (At (w5.setCell ⟨w.heap.size,i,none⟩ (.iface tt vv)) w.heap.size (kpL ss (i+1) N) 43):=hid (by rw [← hst.out];exact R5.out.set i (.iface tt vv))
   have B6:=hid (B5.out.setCell (p:=⟨w.heap.size,i,none⟩) (Nat.le_refl _) (.iface tt vv))
   clear b5 hof A4 R4 B4 d0 d1 d2
   go_wp2
   go_roundw
   case rel=>exact ⟨i+1,hlt'.out,by simp,R6,B6,hid (by rw [World.size_setCell];exact R5.out.lt)⟩
   case measure=>simp [intOf];have:=hlt'.out;omega
  ·obtain rfl:i=N:=by omega
   go_wp2
   go_ret
   exact ⟨rfl,hA.out,hb.out⟩
end Go.Proofs.YtongedjlmohogaaGreatDoor
