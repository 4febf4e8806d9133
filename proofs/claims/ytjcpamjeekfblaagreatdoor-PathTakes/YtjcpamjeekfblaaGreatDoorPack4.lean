/-
  Texts of mine that others lean on, one behind the other.
-/
import Derived.Test.YtjcpamjeekfblaaGreatDoorPack2
import Derived.Test.YtjcpamjeekfblaaGreatDoorPack1
import Derived.Test.YtjcpamjeekfblaaGreatDoorPack3
import Derived.Deep.RegionHeld
import Derived.BigQuiet
import Derived.Deep.RegionWith
import Derived.Deep.Upon
import Derived.Lib.OthersKept
import Derived.Lib.SpaceUEq
namespace Go.Proofs.YtjcpamjeekfblaaGreatDoor
open Go.RowKit Go.Shelf
theorem ret_val1 {fn:Func} {p:Tmp} {R:Ending→World→Prop} {a:Act} {w:World} {b:Nat} {x0 x1 x2 x3 x4 x5:Value} (hres:fn.results = #[.cell p 59]) (hp:a.tmps.getD p undef = .pointer (some ⟨b,0,none⟩))
  (h:At w b #[x0,x1,x2,x3,x4,x5] 59) (hd:a.defers=[]) (hR:R (.returned (.agg #[x0,x1,x2,x3,x4,x5])) w):bodyPost Tryz.prog fn R .ret a w :=
 bodyPost_ret (v:=.agg #[x0,x1,x2,x3,x4,x5]) (results_cell_row (P:=Tryz.prog) hres _ w b 59 #[x0,x1,x2,x3,x4,x5] (0,0) _ hp h Tryz.underlying59 rfl sizeVl) hd hR
theorem valLeaf (w:World) (k:Int) (b:Bool) (r t:ByteArray) (hw:(Lit.int .i64 k).wf=true) (hr:r.size≤capT) (ht:t.size≤capT):ValAt w (.mk k b r t [] []) (.agg #[.int .i64 k,.bool b,.string r,.string t,.slice none 0 0,.slice none 0 0]) :=
 .mk k b r t [] [] none 0 none 0 (fun _=>#[]) hw ⟨hr,ht,Nat.zero_le _,Nat.zero_le _⟩ (fun i s h=>by simp at h) (fun i h=>by simp at h) (fun i u h=>by simp at h)
theorem row2 {w:World} {b:Nat} {ty:TypeId} {c0 c1 c2 c3 c4 c5 d0 d1 d2 d3 d4 d5:Value} (h:At w b #[c0,c1,c2,c3,c4,c5,d0,d1,d2,d3,d4,d5] ty):RowAt w (some ⟨b,0,none⟩) 2 (fun i=>if i=0 then #[c0,c1,c2,c3,c4,c5] else #[d0,d1,d2,d3,d4,d5]):=by
 intro i hi
 have hi2:i=0∨i=1:=by omega
 rcases hi2 with rfl | rfl
 ·refine ⟨rfl,b,0,rfl,h.lt,fun j hj=>?_⟩
  match j,hj with
  | 0,_=>exact h.cell 0
  | 1,_=>exact h.cell 1
  | 2,_=>exact h.cell 2
  | 3,_=>exact h.cell 3
  | 4,_=>exact h.cell 4
  | 5,_=>exact h.cell 5
 ·refine ⟨rfl,b,0,rfl,h.lt,fun j hj=>?_⟩
  match j,hj with
  | 0,_=>exact h.cell 6
  | 1,_=>exact h.cell 7
  | 2,_=>exact h.cell 8
  | 3,_=>exact h.cell 9
  | 4,_=>exact h.cell 10
  | 5,_=>exact h.cell 11
theorem At.newAt {w:World} {b:Nat} (cs:Array Value) (ty:TypeId) (h:b=w.heap.size):At (w.alloc (.cells cs ty)) b cs ty:=by
 subst h
 exact At.new _ _ _
end Go.Proofs.YtjcpamjeekfblaaGreatDoor

namespace Go.Proofs.YtjcpamjeekfblaaGreatDoor
open Go.RowKit Go.Shelf
def fmS (s:Stp):Bool :=
 if s.kind=1 then decide (s.place=0) && decide (badOf s.name = -1)
 else if s.kind=2 then decide (s.name=⟨#[]⟩) && (decide (0≤s.place) && decide (s.place≤999999999999999999))
 else if s.kind=3 then decide (s.name=⟨#[]⟩) && decide (s.place=0) else false
set_option maxRecDepth 20000 in
theorem eqStp (k k' p p':Int) (a b:ByteArray) (u:World):(Op.equalIn 10000 34 (.agg #[.int .i64 k,.string a,.int .i64 p]) (.agg #[.int .i64 k',.string b,.int .i64 p'])).run Tryz.prog u = .ok (k == k' && (a.toList == b.toList && p == p')) u:=by
 have hf:((Tryz.prog.fieldsOf 34).toList.map fun f=>(decide (f.name≠"_"),f.type,f.offset))=[(true,3,0),(true,9,1),(true,3,2)]:=by kernel_rfl
 rw [run_equalIn_struct u 9999 34 _ _ Tryz.underlying34 (by kernel_rfl)]
 generalize (Tryz.prog.fieldsOf 34).toList=fs at hf
 obtain ⟨f0,fs1,rfl,h0,hf1⟩:=List.map_eq_cons_iff.1 hf
 obtain ⟨f1,fs2,rfl,h1,hf2⟩:=List.map_eq_cons_iff.1 hf1
 obtain ⟨f2,fs3,rfl,h2,hf3⟩:=List.map_eq_cons_iff.1 hf2
 obtain rfl:=List.map_eq_nil_iff.1 hf3
 simp only [Prod.mk.injEq] at h0 h1 h2
 obtain ⟨n0,t0,o0⟩:=h0
 obtain ⟨n1,t1,o1⟩:=h1
 obtain ⟨n2,t2,o2⟩:=h2
 have q0:∀ v0 v1 v2,(Go.part 3 #[v0,v1,v2] 0).run Tryz.prog u = .ok v0 u:=fun _ _ _=>by kernel_rfl
 have q1:∀ v0 v1 v2,(Go.part 9 #[v0,v1,v2] 1).run Tryz.prog u = .ok v1 u:=fun _ _ _=>by kernel_rfl
 have q2:∀ v0 v1 v2,(Go.part 3 #[v0,v1,v2] 2).run Tryz.prog u = .ok v2 u:=fun _ _ _=>by kernel_rfl
 have b0:=run_equalIn_int (P:=Tryz.prog) u 9998 3 .i64 .i64 k k' Tryz.underlying3
 have b1:=run_equalIn_string (P:=Tryz.prog) u 9998 9 a b Tryz.underlying9
 have b2:=run_equalIn_int (P:=Tryz.prog) u 9998 3 .i64 .i64 p p' Tryz.underlying3
 simp only [Nat.reduceAdd] at b0 b1 b2
 cases h0:k == k' <;> cases h1:a.toList == b.toList <;> cases h2:p == p' <;> rw [h0] at b0 <;> rw [h1] at b1 <;> rw [h2] at b2 <;>
  simp [Op.eqFields,of_decide_eq_true n0,of_decide_eq_true n1,of_decide_eq_true n2,t0,o0,t1,o1,t2,o2,q0,q1,q2,Result.andThen,b0,b1,b2]
theorem sizeStp:(Tryz.prog.info? 34).map (·.size)=some 3:=by kernel_rfl
theorem ret_stp {fn:Func} {p:Tmp} {R:Ending→World→Prop} {a:Act} {w:World} {b:Nat} {cs:Array Value} (hres:fn.results = #[.cell p 34]) (hp:a.tmps.getD p undef = .pointer (some ⟨b,0,none⟩))
  (h:At w b cs 34) (hc:cs.size=3) (hd:a.defers=[]) (hR:R (.returned (.agg cs)) w):bodyPost Tryz.prog fn R .ret a w:=by
 refine bodyPost_ret (v:=.agg cs) ?_ hd hR
 have hl:=run_loadVar_row (P:=Tryz.prog) w b 34 34 cs (0,0) _ h Tryz.underlying34 rfl (by rw [hc];exact sizeStp)
 have hp':a.tmps[p]?.getD undef = .pointer (some ⟨b,0,none⟩):=by simpa using hp
 simp [results,hres,hp',asAddr,hl]
theorem plnB22_calls (x:ByteArray) (w:World):Calls Tryz.prog 56 #[.string x] w fun e w'=>e = .returned (.agg #[.int .i64 1,.string x,.int .i64 0])∧Below w.heap.size w w':=by
 go_enter Tryz.func56,Tryz.ntmps56
 go_wp2
 refine ret_stp rfl rfl (At.new w _ _) rfl rfl ⟨rfl,by exact bw⟩
theorem plnP22_calls (x:Int) (w:World):Calls Tryz.prog 58 #[.int .i64 x] w fun e w'=>e = .returned (.agg #[.int .i64 2,.string ⟨#[]⟩,.int .i64 x])∧Below w.heap.size w w':=by
 go_enter Tryz.func58,Tryz.ntmps58
 go_wp2
 refine ret_stp rfl rfl (At.new w _ _) rfl rfl ⟨rfl,by exact bw⟩
theorem plnE22_calls (w:World):Calls Tryz.prog 59 #[.agg #[]] w fun e w'=>e = .returned (.agg #[.int .i64 3,.string ⟨#[]⟩,.int .i64 0])∧Below w.heap.size w w':=by
 go_enter Tryz.func59,Tryz.ntmps59
 go_wp2
 refine ret_stp rfl rfl (At.newAt (b:=w.heap.size+1) _ _ (by simp only [World.size_alloc])) rfl rfl ⟨rfl,by exact bw⟩
set_option maxRecDepth 10000 in
set_option maxHeartbeats 4000000 in
theorem formed22_calls (s:Stp) (hs:s.name.size≤9223372036854775807) (w:World) (hT:TabU w):Calls Tryz.prog 35 #[.agg #[.int .i64 s.kind,.string s.name,.int .i64 s.place]] w fun e w'=>e = .returned (.bool (fmS s))∧Below w.heap.size w w':=by
 obtain ⟨k,nm,pl⟩:=s
 have hof:=hid (fun u=>of22_calls ⟨k,nm,pl⟩ u)
 have A1:=hid (At.new w #[.int .i64 k,.string nm,.int .i64 pl] 34)
 have B1:=hid (show Below w.heap.size w (w.alloc (.cells #[.int .i64 k,.string nm,.int .i64 pl] 34)) from (Below.refl _ w).alloc (Nat.le_refl _) _)
 obtain ⟨W1,hW1⟩:∃ W,w.alloc (.cells #[.int .i64 k,.string nm,.int .i64 pl] 34)=W:=⟨_,rfl⟩
 rw [hW1] at A1 B1
 have c0:=A1.out.cell 0
 have c1:=A1.out.cell 1
 have c2:=A1.out.cell 2
 simp only [List.getElem?_toArray,List.getElem?_cons_zero,List.getElem?_cons_succ] at c0 c1 c2
 dsimp only at hs ⊢
 have hT1:=hid (hT.below B1.out)
 by_cases h1:k=1
 ·subst h1
  have hof':Hid (∀ u,Calls Tryz.prog 30 #[.agg #[.int .i64 1,.string nm,.int .i64 pl]] u fun e w'=>e = .returned (.iface 85 (.string nm))∧Below u.heap.size u w'):=hof
  have hval:=hid (fun u h=>validS_calls nm hs (decide (badOf nm = -1)) (hid rfl) u h)
  have hfm:fmS ⟨1,nm,pl⟩=(decide (pl=0) && decide (badOf nm = -1)):=rfl
  rw [hfm]
  have hpl:=hid (fun u=>plnB22_calls nm u)
  have aB:=asB_B nm
  have eqs:=fun u=>eqStp 1 1 0 pl nm nm u
  have ee:(nm.toList == nm.toList)=true:=by simp
  rw [show ((1:Int) == 1)=true from rfl,ee,Bool.true_and,Bool.true_and] at eqs
  clear hof hfm hs hT
  generalize decide (badOf nm = -1)=V at hval ⊢
  cases hp:(0:Int) == pl with
  | true =>
   rw [hp] at eqs
   rw [show decide (pl=0)=true from decide_eq_true (by have:=beq_iff_eq.1 hp;omega),Bool.true_and]
   go_enter Tryz.func35,Tryz.ntmps35
   go_wp2_with fail
   refine Calls.mono (hof'.out _) ?_
   rintro e w3 ⟨rfl,b3⟩
   have B3:=hid (B1.out.trans (b3.mono B1.out.size))
   have A3:=hid (A1.out.keptAll b3)
   have T3:=hid (hT1.out.below b3)
   clear b3 c0 c1 c2 hof' A1 B1 hT1 hW1
   go_wp2_with fail
   rename_i Kr hKr
   refine wp_region_held_drew (S:=fun A=>At A w.heap.size #[.int .i64 1,.string nm,.int .i64 pl] 34) (by kernel_rfl) A3.out.drew (fun hH=>?_)
   have B4:=hid (show Below w.heap.size w (World.drew w3) from B3.out.drew)
   have A4:=hid (show At (World.drew w3) w.heap.size #[.int .i64 1,.string nm,.int .i64 pl] 34 from A3.out.drew)
   have T4:=hid (show TabU (World.drew w3) from T3.out.below (Below.refl _ _).drew)
   clear hH A3 B3 T3
   (refine' wpAnyH_take (i:=0) rfl (by kernel_rfl) (by kernel_rfl) (by kernel_rfl) (fun _ _ _ h=>h) (Or.inl ⟨by rfl,?_⟩) (by assumption) ?_;rotate_left;(· (intro wq hq;(try dsimp only at hq);go_simp;first | done | with_reducible rfl));simp only [psA])
   (refine wpAnyH_take (i:=2) (v:=.agg [.int .i64 1,.string nm,.int .i64 pl].toArray) rfl (by kernel_rfl) (by kernel_rfl) (by kernel_rfl) (fun _ _ _ h=>h) (yieldsIf_load_mid (by rfl) 34 _ rfl (w.heap.size) 0 rfl [.int .i64 1,.string nm,.int .i64 pl] _ (fun wq hq=>hq.range rfl) Tryz.underlying34 rfl sizeStp) (by assumption) ?_;simp only [psA])
   refine wpAnyH_ready (rs:=[1]) (by kernel_rfl) (by simp) ?_
   refine AllReadyH.cons rfl (fun K hK=>?_) ?_
   rotate_left
   ·exact AllReadyH.nil
   rw [if_pos (by rfl)]
   go_simp
   refine Calls.mono (hpl.out _) ?_
   rintro e w5 ⟨rfl,b5⟩
   have A5:=hid (A4.out.keptAll b5)
   have T5:=hid (T4.out.below b5)
   have B5:=hid (B4.out.trans (b5.mono B4.out.size))
   refine hK.out _ _ A5.out (fun hHa=>?_)
   clear hK K b5 hHa
   (refine' wpAnyH_take (i:=3) rfl (by kernel_rfl) (by kernel_rfl) (by kernel_rfl) (fun _ _ _ h=>h) (Or.inl ⟨by rfl,?_⟩) (by assumption) ?_;rotate_left;(· (intro wq hq;(try dsimp only at hq);go_simp;first | done | with_reducible rfl));simp only [psA])
   (refine' wpAnyH_take (i:=4) rfl (by kernel_rfl) (by kernel_rfl) (by kernel_rfl) (fun _ _ _ h=>h) (Or.inl ⟨by rfl,?_⟩) (by assumption) ?_;rotate_left;(· (intro wq hq;(try dsimp only at hq);go_simp;first | done | with_reducible rfl));simp only [psA])
   (refine' wpAnyH_take (i:=5) rfl (by kernel_rfl) (by kernel_rfl) (by kernel_rfl) (fun _ _ _ h=>h) (Or.inl ⟨by rfl,?_⟩) (by assumption) ?_;rotate_left;(· (intro wq hq;(try dsimp only at hq);go_simp;first | done | with_reducible rfl));simp only [psA])
   refine wpAnyH_ready (rs:=[6]) (by kernel_rfl) (by simp) ?_
   refine AllReadyH.cons rfl (fun K hK=>?_) ?_
   rotate_left
   ·exact AllReadyH.nil
   rw [if_pos (by rfl)]
   go_simp
   refine Calls.mono (hval.out _ T5.out) ?_
   rintro e w6 ⟨rfl,b6⟩
   have A6:=hid (A5.out.keptAll b6)
   have T6:=hid (T5.out.below b6)
   have B6:=hid (B5.out.trans (b6.mono B5.out.size))
   refine hK.out _ _ A6.out (fun hHa=>?_)
   clear hK K b6 hHa
   (refine' wpAnyH_take (i:=7) rfl (by kernel_rfl) (by kernel_rfl) (by kernel_rfl) (fun _ _ _ h=>h) (Or.inl ⟨by rfl,?_⟩) (by assumption) ?_;rotate_left;(· (intro wq hq;(try dsimp only at hq);go_simp;first | done | with_reducible rfl));simp only [psA])
   (refine' wpAnyH_take (i:=8) rfl (by kernel_rfl) (by kernel_rfl) (by kernel_rfl) (fun _ _ _ h=>h) (Or.inl ⟨by rfl,?_⟩) (by assumption) ?_;rotate_left;(· (intro wq hq;(try dsimp only at hq);go_simp;first | done | with_reducible rfl));simp only [psA])
   refine wpAnyH_done (by kernel_rfl) ?_ _
   refine hKr _ _ ?_
   go_wp2
   go_ret
   exact ⟨rfl,B6.out⟩
  | false =>
   rw [hp] at eqs
   rw [show decide (pl=0)=false from decide_eq_false (by have:=beq_eq_false_iff_ne.1 hp;omega),Bool.false_and]
   go_enter Tryz.func35,Tryz.ntmps35
   go_wp2_with fail
   refine Calls.mono (hof'.out _) ?_
   rintro e w3 ⟨rfl,b3⟩
   have B3:=hid (B1.out.trans (b3.mono B1.out.size))
   have A3:=hid (A1.out.keptAll b3)
   have T3:=hid (hT1.out.below b3)
   clear b3 c0 c1 c2 hof' A1 B1 hT1 hW1
   go_wp2_with fail
   rename_i Kr hKr
   refine wp_region_held_drew (S:=fun A=>At A w.heap.size #[.int .i64 1,.string nm,.int .i64 pl] 34) (by kernel_rfl) A3.out.drew (fun hH=>?_)
   have B4:=hid (show Below w.heap.size w (World.drew w3) from B3.out.drew)
   have A4:=hid (show At (World.drew w3) w.heap.size #[.int .i64 1,.string nm,.int .i64 pl] 34 from A3.out.drew)
   have T4:=hid (show TabU (World.drew w3) from T3.out.below (Below.refl _ _).drew)
   clear hH A3 B3 T3
   (refine' wpAnyH_take (i:=0) rfl (by kernel_rfl) (by kernel_rfl) (by kernel_rfl) (fun _ _ _ h=>h) (Or.inl ⟨by rfl,?_⟩) (by assumption) ?_;rotate_left;(· (intro wq hq;(try dsimp only at hq);go_simp;first | done | with_reducible rfl));simp only [psA])
   (refine wpAnyH_take (i:=2) (v:=.agg [.int .i64 1,.string nm,.int .i64 pl].toArray) rfl (by kernel_rfl) (by kernel_rfl) (by kernel_rfl) (fun _ _ _ h=>h) (yieldsIf_load_mid (by rfl) 34 _ rfl (w.heap.size) 0 rfl [.int .i64 1,.string nm,.int .i64 pl] _ (fun wq hq=>hq.range rfl) Tryz.underlying34 rfl sizeStp) (by assumption) ?_;simp only [psA])
   refine wpAnyH_ready (rs:=[1]) (by kernel_rfl) (by simp) ?_
   refine AllReadyH.cons rfl (fun K hK=>?_) ?_
   rotate_left
   ·exact AllReadyH.nil
   rw [if_pos (by rfl)]
   go_simp
   refine Calls.mono (hpl.out _) ?_
   rintro e w5 ⟨rfl,b5⟩
   have A5:=hid (A4.out.keptAll b5)
   have T5:=hid (T4.out.below b5)
   have B5:=hid (B4.out.trans (b5.mono B4.out.size))
   refine hK.out _ _ A5.out (fun hHa=>?_)
   clear hK K b5 hHa
   (refine' wpAnyH_take (i:=3) rfl (by kernel_rfl) (by kernel_rfl) (by kernel_rfl) (fun _ _ _ h=>h) (Or.inl ⟨by rfl,?_⟩) (by assumption) ?_;rotate_left;(· (intro wq hq;(try dsimp only at hq);go_simp;first | done | with_reducible rfl));simp only [psA])
   (refine' wpAnyH_take (i:=4) rfl (by kernel_rfl) (by kernel_rfl) (by kernel_rfl) (fun _ _ _ h=>h) (Or.inl ⟨by rfl,?_⟩) (by assumption) ?_;rotate_left;(· (intro wq hq;(try dsimp only at hq);go_simp;first | done | with_reducible rfl));simp only [psA])
   (refine wpAnyH_take (i:=5) (v:=undef) rfl (by kernel_rfl) (by kernel_rfl) (by kernel_rfl) (fun _ _ _ h=>h) (Or.inr ⟨by rfl,rfl⟩) (by assumption) ?_;simp only [psA])
   (refine wpAnyH_take (i:=6) (v:=undef) rfl (by kernel_rfl) (by kernel_rfl) (by kernel_rfl) (fun _ _ _ h=>h) (Or.inr ⟨by rfl,rfl⟩) (by assumption) ?_;simp only [psA])
   (refine' wpAnyH_take (i:=7) rfl (by kernel_rfl) (by kernel_rfl) (by kernel_rfl) (fun _ _ _ h=>h) (Or.inl ⟨by rfl,?_⟩) (by assumption) ?_;rotate_left;(· (intro wq hq;(try dsimp only at hq);go_simp;first | done | with_reducible rfl));simp only [psA])
   (refine' wpAnyH_take (i:=8) rfl (by kernel_rfl) (by kernel_rfl) (by kernel_rfl) (fun _ _ _ h=>h) (Or.inl ⟨by rfl,?_⟩) (by assumption) ?_;rotate_left;(· (intro wq hq;(try dsimp only at hq);go_simp;first | done | with_reducible rfl));simp only [psA])
   refine wpAnyH_done (by kernel_rfl) ?_ _
   refine hKr _ _ ?_
   go_wp2
   go_ret
   exact ⟨rfl,B5.out⟩
 ·by_cases h2:k=2
  ·subst h2
   have hof':Hid (∀ u,Calls Tryz.prog 30 #[.agg #[.int .i64 2,.string nm,.int .i64 pl]] u fun e w'=>e = .returned (.iface 87 (.int .i64 pl))∧Below u.heap.size u w'):=hof
   have hfm:fmS ⟨2,nm,pl⟩=(decide (nm=⟨#[]⟩) && (decide (0≤pl) && decide (pl≤999999999999999999))):=rfl
   rw [hfm]
   have hpl:=hid (fun u=>plnP22_calls pl u)
   have aB:=asP_B pl
   have aP:=asP_P pl
   have eqs:=fun u=>eqStp 2 2 pl pl ⟨#[]⟩ nm u
   rw [show ((2:Int) == 2)=true from rfl,Bool.true_and,eq_str,show (pl == pl)=true by simp,Bool.and_true,show decide ((⟨#[]⟩:ByteArray)=nm)=decide (nm=⟨#[]⟩) from decide_eq_decide.2 eq_comm] at eqs
   clear hof hfm hs hT h1
   generalize decide (nm=⟨#[]⟩)=E at eqs ⊢
   cases E with
   | false =>
    rw [Bool.false_and]
    go_enter Tryz.func35,Tryz.ntmps35
    go_wp2_with fail
    refine Calls.mono (hof'.out _) ?_
    rintro e w3 ⟨rfl,b3⟩
    have B3:=hid (B1.out.trans (b3.mono B1.out.size))
    have A3:=hid (A1.out.keptAll b3)
    have T3:=hid (hT1.out.below b3)
    clear b3 c0 c1 c2 hof' A1 B1 hT1 hW1
    go_wp2_with fail
    rename_i Kr hKr
    refine wp_region_held_drew (S:=fun A=>At A w.heap.size #[.int .i64 2,.string nm,.int .i64 pl] 34) (by kernel_rfl) A3.out.drew (fun hH=>?_)
    have B4:=hid (show Below w.heap.size w (World.drew w3) from B3.out.drew)
    have A4:=hid (show At (World.drew w3) w.heap.size #[.int .i64 2,.string nm,.int .i64 pl] 34 from A3.out.drew)
    have T4:=hid (show TabU (World.drew w3) from T3.out.below (Below.refl _ _).drew)
    clear hH A3 B3 T3
    (refine' wpAnyH_take (i:=0) rfl (by kernel_rfl) (by kernel_rfl) (by kernel_rfl) (fun _ _ _ h=>h) (Or.inl ⟨by rfl,?_⟩) (by assumption) ?_;rotate_left;(· (intro wq hq;(try dsimp only at hq);go_simp;first | done | with_reducible rfl));simp only [psA])
    (refine wpAnyH_take (i:=2) (v:=.agg [.int .i64 2,.string nm,.int .i64 pl].toArray) rfl (by kernel_rfl) (by kernel_rfl) (by kernel_rfl) (fun _ _ _ h=>h) (yieldsIf_load_mid (by rfl) 34 _ rfl (w.heap.size) 0 rfl [.int .i64 2,.string nm,.int .i64 pl] _ (fun wq hq=>hq.range rfl) Tryz.underlying34 rfl sizeStp) (by assumption) ?_;simp only [psA])
    refine wpAnyH_ready (rs:=[1]) (by kernel_rfl) (by simp) ?_
    refine AllReadyH.cons rfl (fun K hK=>?_) ?_
    rotate_left
    ·exact AllReadyH.nil
    rw [if_pos (by rfl)]
    go_simp
    refine Calls.mono (hpl.out _) ?_
    rintro e w5 ⟨rfl,b5⟩
    have A5:=hid (A4.out.keptAll b5)
    have T5:=hid (T4.out.below b5)
    have B5:=hid (B4.out.trans (b5.mono B4.out.size))
    refine hK.out _ _ A5.out (fun hHa=>?_)
    clear hK K b5 hHa
    (refine' wpAnyH_take (i:=3) rfl (by kernel_rfl) (by kernel_rfl) (by kernel_rfl) (fun _ _ _ h=>h) (Or.inl ⟨by rfl,?_⟩) (by assumption) ?_;rotate_left;(· (intro wq hq;(try dsimp only at hq);go_simp;first | done | with_reducible rfl));simp only [psA])
    (refine' wpAnyH_take (i:=4) rfl (by kernel_rfl) (by kernel_rfl) (by kernel_rfl) (fun _ _ _ h=>h) (Or.inl ⟨by rfl,?_⟩) (by assumption) ?_;rotate_left;(· (intro wq hq;(try dsimp only at hq);go_simp;first | done | with_reducible rfl));simp only [psA])
    (refine wpAnyH_take (i:=5) (v:=undef) rfl (by kernel_rfl) (by kernel_rfl) (by kernel_rfl) (fun _ _ _ h=>h) (Or.inr ⟨by rfl,rfl⟩) (by assumption) ?_;simp only [psA])
    (refine wpAnyH_take (i:=6) (v:=undef) rfl (by kernel_rfl) (by kernel_rfl) (by kernel_rfl) (fun _ _ _ h=>h) (Or.inr ⟨by rfl,rfl⟩) (by assumption) ?_;simp only [psA])
    (refine' wpAnyH_take (i:=7) rfl (by kernel_rfl) (by kernel_rfl) (by kernel_rfl) (fun _ _ _ h=>h) (Or.inl ⟨by rfl,?_⟩) (by assumption) ?_;rotate_left;(· (intro wq hq;(try dsimp only at hq);go_simp;first | done | with_reducible rfl));simp only [psA])
    (refine' wpAnyH_take (i:=8) rfl (by kernel_rfl) (by kernel_rfl) (by kernel_rfl) (fun _ _ _ h=>h) (Or.inl ⟨by rfl,?_⟩) (by assumption) ?_;rotate_left;(· (intro wq hq;(try dsimp only at hq);go_simp;first | done | with_reducible rfl));simp only [psA])
    (refine wpAnyH_take (i:=9) (v:=undef) rfl (by kernel_rfl) (by kernel_rfl) (by kernel_rfl) (fun _ _ _ h=>h) (Or.inr ⟨by rfl,rfl⟩) (by assumption) ?_;simp only [psA])
    (refine wpAnyH_take (i:=10) (v:=undef) rfl (by kernel_rfl) (by kernel_rfl) (by kernel_rfl) (fun _ _ _ h=>h) (Or.inr ⟨by rfl,rfl⟩) (by assumption) ?_;simp only [psA])
    (refine' wpAnyH_take (i:=11) rfl (by kernel_rfl) (by kernel_rfl) (by kernel_rfl) (fun _ _ _ h=>h) (Or.inl ⟨by rfl,?_⟩) (by assumption) ?_;rotate_left;(· (intro wq hq;(try dsimp only at hq);go_simp;first | done | with_reducible rfl));simp only [psA])
    (refine' wpAnyH_take (i:=12) rfl (by kernel_rfl) (by kernel_rfl) (by kernel_rfl) (fun _ _ _ h=>h) (Or.inl ⟨by rfl,?_⟩) (by assumption) ?_;rotate_left;(· (intro wq hq;(try dsimp only at hq);go_simp;first | done | with_reducible rfl));simp only [psA])
    refine wpAnyH_done (by kernel_rfl) ?_ _
    refine hKr _ _ ?_
    go_wp2
    go_ret
    exact ⟨rfl,B5.out⟩
   | true =>
    rw [Bool.true_and]
    cases hp:decide ((0:Int)≤pl) with
    | false =>
     rw [Bool.false_and]
     go_enter Tryz.func35,Tryz.ntmps35
     go_wp2_with fail
     refine Calls.mono (hof'.out _) ?_
     rintro e w3 ⟨rfl,b3⟩
     have B3:=hid (B1.out.trans (b3.mono B1.out.size))
     have A3:=hid (A1.out.keptAll b3)
     have T3:=hid (hT1.out.below b3)
     clear b3 c0 c1 c2 hof' A1 B1 hT1 hW1
     go_wp2_with fail
     rename_i Kr hKr
     refine wp_region_held_drew (S:=fun A=>At A w.heap.size #[.int .i64 2,.string nm,.int .i64 pl] 34) (by kernel_rfl) A3.out.drew (fun hH=>?_)
     have B4:=hid (show Below w.heap.size w (World.drew w3) from B3.out.drew)
     have A4:=hid (show At (World.drew w3) w.heap.size #[.int .i64 2,.string nm,.int .i64 pl] 34 from A3.out.drew)
     have T4:=hid (show TabU (World.drew w3) from T3.out.below (Below.refl _ _).drew)
     clear hH A3 B3 T3
     (refine' wpAnyH_take (i:=0) rfl (by kernel_rfl) (by kernel_rfl) (by kernel_rfl) (fun _ _ _ h=>h) (Or.inl ⟨by rfl,?_⟩) (by assumption) ?_;rotate_left;(· (intro wq hq;(try dsimp only at hq);go_simp;first | done | with_reducible rfl));simp only [psA])
     (refine wpAnyH_take (i:=2) (v:=.agg [.int .i64 2,.string nm,.int .i64 pl].toArray) rfl (by kernel_rfl) (by kernel_rfl) (by kernel_rfl) (fun _ _ _ h=>h) (yieldsIf_load_mid (by rfl) 34 _ rfl (w.heap.size) 0 rfl [.int .i64 2,.string nm,.int .i64 pl] _ (fun wq hq=>hq.range rfl) Tryz.underlying34 rfl sizeStp) (by assumption) ?_;simp only [psA])
     refine wpAnyH_ready (rs:=[1]) (by kernel_rfl) (by simp) ?_
     refine AllReadyH.cons rfl (fun K hK=>?_) ?_
     rotate_left
     ·exact AllReadyH.nil
     rw [if_pos (by rfl)]
     go_simp
     refine Calls.mono (hpl.out _) ?_
     rintro e w5 ⟨rfl,b5⟩
     have A5:=hid (A4.out.keptAll b5)
     have T5:=hid (T4.out.below b5)
     have B5:=hid (B4.out.trans (b5.mono B4.out.size))
     refine hK.out _ _ A5.out (fun hHa=>?_)
     clear hK K b5 hHa
     (refine' wpAnyH_take (i:=3) rfl (by kernel_rfl) (by kernel_rfl) (by kernel_rfl) (fun _ _ _ h=>h) (Or.inl ⟨by rfl,?_⟩) (by assumption) ?_;rotate_left;(· (intro wq hq;(try dsimp only at hq);go_simp;first | done | with_reducible rfl));simp only [psA])
     (refine' wpAnyH_take (i:=4) rfl (by kernel_rfl) (by kernel_rfl) (by kernel_rfl) (fun _ _ _ h=>h) (Or.inl ⟨by rfl,?_⟩) (by assumption) ?_;rotate_left;(· (intro wq hq;(try dsimp only at hq);go_simp;first | done | with_reducible rfl));simp only [psA])
     (refine' wpAnyH_take (i:=5) rfl (by kernel_rfl) (by kernel_rfl) (by kernel_rfl) (fun _ _ _ h=>h) (Or.inl ⟨by rfl,?_⟩) (by assumption) ?_;rotate_left;(· (intro wq hq;(try dsimp only at hq);go_simp;first | done | with_reducible rfl));simp only [psA])
     (refine' wpAnyH_take (i:=6) rfl (by kernel_rfl) (by kernel_rfl) (by kernel_rfl) (fun _ _ _ h=>h) (Or.inl ⟨by rfl,?_⟩) (by assumption) ?_;rotate_left;(· (intro wq hq;(try dsimp only at hq);go_simp;first | done | with_reducible rfl));simp only [psA])
     (refine' wpAnyH_take (i:=7) rfl (by kernel_rfl) (by kernel_rfl) (by kernel_rfl) (fun _ _ _ h=>h) (Or.inl ⟨by rfl,?_⟩) (by assumption) ?_;rotate_left;(· (intro wq hq;(try dsimp only at hq);go_simp;first | done | with_reducible rfl));simp only [psA])
     (refine' wpAnyH_take (i:=8) rfl (by kernel_rfl) (by kernel_rfl) (by kernel_rfl) (fun _ _ _ h=>h) (Or.inl ⟨by rfl,?_⟩) (by assumption) ?_;rotate_left;(· (intro wq hq;(try dsimp only at hq);go_simp;first | done | with_reducible rfl));simp only [psA])
     (refine wpAnyH_take (i:=9) (v:=undef) rfl (by kernel_rfl) (by kernel_rfl) (by kernel_rfl) (fun _ _ _ h=>h) (Or.inr ⟨by rfl,rfl⟩) (by assumption) ?_;simp only [psA])
     (refine wpAnyH_take (i:=10) (v:=undef) rfl (by kernel_rfl) (by kernel_rfl) (by kernel_rfl) (fun _ _ _ h=>h) (Or.inr ⟨by rfl,rfl⟩) (by assumption) ?_;simp only [psA])
     (refine' wpAnyH_take (i:=11) rfl (by kernel_rfl) (by kernel_rfl) (by kernel_rfl) (fun _ _ _ h=>h) (Or.inl ⟨by rfl,?_⟩) (by assumption) ?_;rotate_left;(· (intro wq hq;(try dsimp only at hq);go_simp;first | done | with_reducible rfl));simp only [psA])
     (refine' wpAnyH_take (i:=12) rfl (by kernel_rfl) (by kernel_rfl) (by kernel_rfl) (fun _ _ _ h=>h) (Or.inl ⟨by rfl,?_⟩) (by assumption) ?_;rotate_left;(· (intro wq hq;(try dsimp only at hq);go_simp;first | done | with_reducible rfl));simp only [psA])
     refine wpAnyH_done (by kernel_rfl) ?_ _
     refine hKr _ _ ?_
     go_wp2
     go_ret
     exact ⟨rfl,B5.out⟩
    | true =>
     rw [Bool.true_and]
     cases hq:decide (pl≤(999999999999999999:Int)) with
     | false =>
      go_enter Tryz.func35,Tryz.ntmps35
      go_wp2_with fail
      refine Calls.mono (hof'.out _) ?_
      rintro e w3 ⟨rfl,b3⟩
      have B3:=hid (B1.out.trans (b3.mono B1.out.size))
      have A3:=hid (A1.out.keptAll b3)
      have T3:=hid (hT1.out.below b3)
      clear b3 c0 c1 c2 hof' A1 B1 hT1 hW1
      go_wp2_with fail
      rename_i Kr hKr
      refine wp_region_held_drew (S:=fun A=>At A w.heap.size #[.int .i64 2,.string nm,.int .i64 pl] 34) (by kernel_rfl) A3.out.drew (fun hH=>?_)
      have B4:=hid (show Below w.heap.size w (World.drew w3) from B3.out.drew)
      have A4:=hid (show At (World.drew w3) w.heap.size #[.int .i64 2,.string nm,.int .i64 pl] 34 from A3.out.drew)
      have T4:=hid (show TabU (World.drew w3) from T3.out.below (Below.refl _ _).drew)
      clear hH A3 B3 T3
      (refine' wpAnyH_take (i:=0) rfl (by kernel_rfl) (by kernel_rfl) (by kernel_rfl) (fun _ _ _ h=>h) (Or.inl ⟨by rfl,?_⟩) (by assumption) ?_;rotate_left;(· (intro wq hq;(try dsimp only at hq);go_simp;first | done | with_reducible rfl));simp only [psA])
      (refine wpAnyH_take (i:=2) (v:=.agg [.int .i64 2,.string nm,.int .i64 pl].toArray) rfl (by kernel_rfl) (by kernel_rfl) (by kernel_rfl) (fun _ _ _ h=>h) (yieldsIf_load_mid (by rfl) 34 _ rfl (w.heap.size) 0 rfl [.int .i64 2,.string nm,.int .i64 pl] _ (fun wq hq=>hq.range rfl) Tryz.underlying34 rfl sizeStp) (by assumption) ?_;simp only [psA])
      refine wpAnyH_ready (rs:=[1]) (by kernel_rfl) (by simp) ?_
      refine AllReadyH.cons rfl (fun K hK=>?_) ?_
      rotate_left
      ·exact AllReadyH.nil
      rw [if_pos (by rfl)]
      go_simp
      refine Calls.mono (hpl.out _) ?_
      rintro e w5 ⟨rfl,b5⟩
      have A5:=hid (A4.out.keptAll b5)
      have T5:=hid (T4.out.below b5)
      have B5:=hid (B4.out.trans (b5.mono B4.out.size))
      refine hK.out _ _ A5.out (fun hHa=>?_)
      clear hK K b5 hHa
      (refine' wpAnyH_take (i:=3) rfl (by kernel_rfl) (by kernel_rfl) (by kernel_rfl) (fun _ _ _ h=>h) (Or.inl ⟨by rfl,?_⟩) (by assumption) ?_;rotate_left;(· (intro wq hq;(try dsimp only at hq);go_simp;first | done | with_reducible rfl));simp only [psA])
      (refine' wpAnyH_take (i:=4) rfl (by kernel_rfl) (by kernel_rfl) (by kernel_rfl) (fun _ _ _ h=>h) (Or.inl ⟨by rfl,?_⟩) (by assumption) ?_;rotate_left;(· (intro wq hq;(try dsimp only at hq);go_simp;first | done | with_reducible rfl));simp only [psA])
      (refine' wpAnyH_take (i:=5) rfl (by kernel_rfl) (by kernel_rfl) (by kernel_rfl) (fun _ _ _ h=>h) (Or.inl ⟨by rfl,?_⟩) (by assumption) ?_;rotate_left;(· (intro wq hq;(try dsimp only at hq);go_simp;first | done | with_reducible rfl));simp only [psA])
      (refine' wpAnyH_take (i:=6) rfl (by kernel_rfl) (by kernel_rfl) (by kernel_rfl) (fun _ _ _ h=>h) (Or.inl ⟨by rfl,?_⟩) (by assumption) ?_;rotate_left;(· (intro wq hq;(try dsimp only at hq);go_simp;first | done | with_reducible rfl));simp only [psA])
      (refine' wpAnyH_take (i:=7) rfl (by kernel_rfl) (by kernel_rfl) (by kernel_rfl) (fun _ _ _ h=>h) (Or.inl ⟨by rfl,?_⟩) (by assumption) ?_;rotate_left;(· (intro wq hq;(try dsimp only at hq);go_simp;first | done | with_reducible rfl));simp only [psA])
      (refine' wpAnyH_take (i:=8) rfl (by kernel_rfl) (by kernel_rfl) (by kernel_rfl) (fun _ _ _ h=>h) (Or.inl ⟨by rfl,?_⟩) (by assumption) ?_;rotate_left;(· (intro wq hq;(try dsimp only at hq);go_simp;first | done | with_reducible rfl));simp only [psA])
      (refine' wpAnyH_take (i:=9) rfl (by kernel_rfl) (by kernel_rfl) (by kernel_rfl) (fun _ _ _ h=>h) (Or.inl ⟨by rfl,?_⟩) (by assumption) ?_;rotate_left;(· (intro wq hq;(try dsimp only at hq);go_simp;first | done | with_reducible rfl));simp only [psA])
      (refine' wpAnyH_take (i:=10) rfl (by kernel_rfl) (by kernel_rfl) (by kernel_rfl) (fun _ _ _ h=>h) (Or.inl ⟨by rfl,?_⟩) (by assumption) ?_;rotate_left;(· (intro wq hq;(try dsimp only at hq);go_simp;first | done | with_reducible rfl));simp only [psA])
      (refine' wpAnyH_take (i:=11) rfl (by kernel_rfl) (by kernel_rfl) (by kernel_rfl) (fun _ _ _ h=>h) (Or.inl ⟨by rfl,?_⟩) (by assumption) ?_;rotate_left;(· (intro wq hq;(try dsimp only at hq);go_simp;first | done | with_reducible rfl));simp only [psA])
      (refine' wpAnyH_take (i:=12) rfl (by kernel_rfl) (by kernel_rfl) (by kernel_rfl) (fun _ _ _ h=>h) (Or.inl ⟨by rfl,?_⟩) (by assumption) ?_;rotate_left;(· (intro wq hq;(try dsimp only at hq);go_simp;first | done | with_reducible rfl));simp only [psA])
      refine wpAnyH_done (by kernel_rfl) ?_ _
      refine hKr _ _ ?_
      go_wp2
      go_ret
      exact ⟨rfl,B5.out⟩
     | true =>
      go_enter Tryz.func35,Tryz.ntmps35
      go_wp2_with fail
      refine Calls.mono (hof'.out _) ?_
      rintro e w3 ⟨rfl,b3⟩
      have B3:=hid (B1.out.trans (b3.mono B1.out.size))
      have A3:=hid (A1.out.keptAll b3)
      have T3:=hid (hT1.out.below b3)
      clear b3 c0 c1 c2 hof' A1 B1 hT1 hW1
      go_wp2_with fail
      rename_i Kr hKr
      refine wp_region_held_drew (S:=fun A=>At A w.heap.size #[.int .i64 2,.string nm,.int .i64 pl] 34) (by kernel_rfl) A3.out.drew (fun hH=>?_)
      have B4:=hid (show Below w.heap.size w (World.drew w3) from B3.out.drew)
      have A4:=hid (show At (World.drew w3) w.heap.size #[.int .i64 2,.string nm,.int .i64 pl] 34 from A3.out.drew)
      have T4:=hid (show TabU (World.drew w3) from T3.out.below (Below.refl _ _).drew)
      clear hH A3 B3 T3
      (refine' wpAnyH_take (i:=0) rfl (by kernel_rfl) (by kernel_rfl) (by kernel_rfl) (fun _ _ _ h=>h) (Or.inl ⟨by rfl,?_⟩) (by assumption) ?_;rotate_left;(· (intro wq hq;(try dsimp only at hq);go_simp;first | done | with_reducible rfl));simp only [psA])
      (refine wpAnyH_take (i:=2) (v:=.agg [.int .i64 2,.string nm,.int .i64 pl].toArray) rfl (by kernel_rfl) (by kernel_rfl) (by kernel_rfl) (fun _ _ _ h=>h) (yieldsIf_load_mid (by rfl) 34 _ rfl (w.heap.size) 0 rfl [.int .i64 2,.string nm,.int .i64 pl] _ (fun wq hq=>hq.range rfl) Tryz.underlying34 rfl sizeStp) (by assumption) ?_;simp only [psA])
      refine wpAnyH_ready (rs:=[1]) (by kernel_rfl) (by simp) ?_
      refine AllReadyH.cons rfl (fun K hK=>?_) ?_
      rotate_left
      ·exact AllReadyH.nil
      rw [if_pos (by rfl)]
      go_simp
      refine Calls.mono (hpl.out _) ?_
      rintro e w5 ⟨rfl,b5⟩
      have A5:=hid (A4.out.keptAll b5)
      have T5:=hid (T4.out.below b5)
      have B5:=hid (B4.out.trans (b5.mono B4.out.size))
      refine hK.out _ _ A5.out (fun hHa=>?_)
      clear hK K b5 hHa
      (refine' wpAnyH_take (i:=3) rfl (by kernel_rfl) (by kernel_rfl) (by kernel_rfl) (fun _ _ _ h=>h) (Or.inl ⟨by rfl,?_⟩) (by assumption) ?_;rotate_left;(· (intro wq hq;(try dsimp only at hq);go_simp;first | done | with_reducible rfl));simp only [psA])
      (refine' wpAnyH_take (i:=4) rfl (by kernel_rfl) (by kernel_rfl) (by kernel_rfl) (fun _ _ _ h=>h) (Or.inl ⟨by rfl,?_⟩) (by assumption) ?_;rotate_left;(· (intro wq hq;(try dsimp only at hq);go_simp;first | done | with_reducible rfl));simp only [psA])
      (refine' wpAnyH_take (i:=5) rfl (by kernel_rfl) (by kernel_rfl) (by kernel_rfl) (fun _ _ _ h=>h) (Or.inl ⟨by rfl,?_⟩) (by assumption) ?_;rotate_left;(· (intro wq hq;(try dsimp only at hq);go_simp;first | done | with_reducible rfl));simp only [psA])
      (refine' wpAnyH_take (i:=6) rfl (by kernel_rfl) (by kernel_rfl) (by kernel_rfl) (fun _ _ _ h=>h) (Or.inl ⟨by rfl,?_⟩) (by assumption) ?_;rotate_left;(· (intro wq hq;(try dsimp only at hq);go_simp;first | done | with_reducible rfl));simp only [psA])
      (refine' wpAnyH_take (i:=7) rfl (by kernel_rfl) (by kernel_rfl) (by kernel_rfl) (fun _ _ _ h=>h) (Or.inl ⟨by rfl,?_⟩) (by assumption) ?_;rotate_left;(· (intro wq hq;(try dsimp only at hq);go_simp;first | done | with_reducible rfl));simp only [psA])
      (refine' wpAnyH_take (i:=8) rfl (by kernel_rfl) (by kernel_rfl) (by kernel_rfl) (fun _ _ _ h=>h) (Or.inl ⟨by rfl,?_⟩) (by assumption) ?_;rotate_left;(· (intro wq hq;(try dsimp only at hq);go_simp;first | done | with_reducible rfl));simp only [psA])
      (refine' wpAnyH_take (i:=9) rfl (by kernel_rfl) (by kernel_rfl) (by kernel_rfl) (fun _ _ _ h=>h) (Or.inl ⟨by rfl,?_⟩) (by assumption) ?_;rotate_left;(· (intro wq hq;(try dsimp only at hq);go_simp;first | done | with_reducible rfl));simp only [psA])
      (refine' wpAnyH_take (i:=10) rfl (by kernel_rfl) (by kernel_rfl) (by kernel_rfl) (fun _ _ _ h=>h) (Or.inl ⟨by rfl,?_⟩) (by assumption) ?_;rotate_left;(· (intro wq hq;(try dsimp only at hq);go_simp;first | done | with_reducible rfl));simp only [psA])
      (refine' wpAnyH_take (i:=11) rfl (by kernel_rfl) (by kernel_rfl) (by kernel_rfl) (fun _ _ _ h=>h) (Or.inl ⟨by rfl,?_⟩) (by assumption) ?_;rotate_left;(· (intro wq hq;(try dsimp only at hq);go_simp;first | done | with_reducible rfl));simp only [psA])
      (refine' wpAnyH_take (i:=12) rfl (by kernel_rfl) (by kernel_rfl) (by kernel_rfl) (fun _ _ _ h=>h) (Or.inl ⟨by rfl,?_⟩) (by assumption) ?_;rotate_left;(· (intro wq hq;(try dsimp only at hq);go_simp;first | done | with_reducible rfl));simp only [psA])
      refine wpAnyH_done (by kernel_rfl) ?_ _
      refine hKr _ _ ?_
      go_wp2
      go_ret
      exact ⟨rfl,B5.out⟩
  ·by_cases h3:k=3
   ·subst h3
    have hof':Hid (∀ u,Calls Tryz.prog 30 #[.agg #[.int .i64 3,.string nm,.int .i64 pl]] u fun e w'=>e = .returned (.iface 89 (.agg #[]))∧Below u.heap.size u w'):=hof
    have hfm:fmS ⟨3,nm,pl⟩=(decide (nm=⟨#[]⟩) && decide (pl=0)):=rfl
    rw [hfm]
    have hpl:=hid (fun u=>plnE22_calls u)
    have aB:=asE_B
    have aP:=asE_P
    have aE:=asE_E
    have eqs:=fun u=>eqStp 3 3 0 pl ⟨#[]⟩ nm u
    have e0:((0:Int) == pl)=decide (pl=0):=by
     by_cases h:pl=0
     ·subst h;rfl
     ·rw [decide_eq_false h];exact beq_eq_false_iff_ne.2 (by omega)
    rw [show ((3:Int) == 3)=true from rfl,Bool.true_and,eq_str,show decide ((⟨#[]⟩:ByteArray)=nm)=decide (nm=⟨#[]⟩) from decide_eq_decide.2 eq_comm,e0] at eqs
    clear hof hfm hs hT h1 h2 e0
    generalize (decide (nm=⟨#[]⟩) && decide (pl=0))=E at eqs ⊢
    go_enter Tryz.func35,Tryz.ntmps35
    go_wp2_with fail
    refine Calls.mono (hof'.out _) ?_
    rintro e w3 ⟨rfl,b3⟩
    have B3:=hid (B1.out.trans (b3.mono B1.out.size))
    have A3:=hid (A1.out.keptAll b3)
    have T3:=hid (hT1.out.below b3)
    clear b3 c0 c1 c2 hof' A1 B1 hT1 hW1
    go_wp2_with fail
    have B3:=hid (show Below w.heap.size w (w3.alloc (.cells #[] 89)) from B3.out.alloc B3.out.size _)
    have A3:=hid (A3.out.alloc (.cells #[] 89))
    have T3:=hid (T3.out.below (show Below w3.heap.size w3 (w3.alloc (.cells #[] 89)) from (Below.refl _ _).alloc (Nat.le_refl _) _))
    generalize w3.alloc (.cells #[] 89)=w3a at *
    rename_i Kr hKr
    refine wp_region_held_drew (S:=fun A=>At A w.heap.size #[.int .i64 3,.string nm,.int .i64 pl] 34) (by kernel_rfl) A3.out.drew (fun hH=>?_)
    have B4:=hid (show Below w.heap.size w (World.drew w3a) from B3.out.drew)
    have A4:=hid (show At (World.drew w3a) w.heap.size #[.int .i64 3,.string nm,.int .i64 pl] 34 from A3.out.drew)
    have T4:=hid (show TabU (World.drew w3a) from T3.out.below (Below.refl _ _).drew)
    clear hH A3 B3 T3
    (refine' wpAnyH_take (i:=0) rfl (by kernel_rfl) (by kernel_rfl) (by kernel_rfl) (fun _ _ _ h=>h) (Or.inl ⟨by rfl,?_⟩) (by assumption) ?_;rotate_left;(· (intro wq hq;(try dsimp only at hq);go_simp;first | done | with_reducible rfl));simp only [psA])
    (refine wpAnyH_take (i:=2) (v:=.agg [.int .i64 3,.string nm,.int .i64 pl].toArray) rfl (by kernel_rfl) (by kernel_rfl) (by kernel_rfl) (fun _ _ _ h=>h) (yieldsIf_load_mid (by rfl) 34 _ rfl (w.heap.size) 0 rfl [.int .i64 3,.string nm,.int .i64 pl] _ (fun wq hq=>hq.range rfl) Tryz.underlying34 rfl sizeStp) (by assumption) ?_;simp only [psA])
    refine wpAnyH_ready (rs:=[1]) (by kernel_rfl) (by simp) ?_
    refine AllReadyH.cons rfl (fun K hK=>?_) ?_
    rotate_left
    ·exact AllReadyH.nil
    rw [if_pos (by rfl)]
    go_simp
    refine Calls.mono (hpl.out _) ?_
    rintro e w5 ⟨rfl,b5⟩
    have A5:=hid (A4.out.keptAll b5)
    have T5:=hid (T4.out.below b5)
    have B5:=hid (B4.out.trans (b5.mono B4.out.size))
    refine hK.out _ _ A5.out (fun hHa=>?_)
    clear hK K b5 hHa
    (refine' wpAnyH_take (i:=3) rfl (by kernel_rfl) (by kernel_rfl) (by kernel_rfl) (fun _ _ _ h=>h) (Or.inl ⟨by rfl,?_⟩) (by assumption) ?_;rotate_left;(· (intro wq hq;(try dsimp only at hq);go_simp;first | done | with_reducible rfl));simp only [psA])
    (refine' wpAnyH_take (i:=4) rfl (by kernel_rfl) (by kernel_rfl) (by kernel_rfl) (fun _ _ _ h=>h) (Or.inl ⟨by rfl,?_⟩) (by assumption) ?_;rotate_left;(· (intro wq hq;(try dsimp only at hq);go_simp;first | done | with_reducible rfl));simp only [psA])
    refine wpAnyH_done (by kernel_rfl) ?_ _
    refine hKr _ _ ?_
    go_wp2
    go_ret
    exact ⟨rfl,B5.out⟩
   ·have hfm:fmS ⟨k,nm,pl⟩=false:=by unfold fmS;rw [if_neg h1,if_neg h2,if_neg h3]
    have hof':Hid (∀ u,Calls Tryz.prog 30 #[.agg #[.int .i64 k,.string nm,.int .i64 pl]] u fun e w'=>e = .returned .nilIface∧Below u.heap.size u w'):=hid (fun u=>by
     have h:=hof.out u
     rw [show ifV ⟨k,nm,pl⟩ = .nilIface by unfold ifV;rw [if_neg h1,if_neg h2,if_neg h3]] at h
     exact h)
    rw [hfm]
    have aB:=asN_B
    have aP:=asN_P
    have aE:=asN_E
    clear hof hfm hs hT h1 h2 h3
    go_enter Tryz.func35,Tryz.ntmps35
    go_wp2_with fail
    refine Calls.mono (hof'.out _) ?_
    rintro e w3 ⟨rfl,b3⟩
    have B3:=hid (B1.out.trans (b3.mono B1.out.size))
    clear b3 c0 c1 c2 hof' A1 B1 hT1 hW1
    go_wp2
    go_ret
    exact ⟨rfl,B3.out⟩
end Go.Proofs.YtjcpamjeekfblaaGreatDoor

namespace Go.Proofs.YtjcpamjeekfblaaGreatDoor
open Go.RowKit Go.Shelf
def IsFst (ks:List ByteArray) (nm:ByteArray) (f:Int):Prop:=(f = -1∧∀ j:Nat,ks[j]?≠some nm)∨∃ i:Nat,f=(i:Int)∧ks[i]? = some nm∧∀ j,j<i→ks[j]?≠some nm
theorem IsFst.uniq {ks:List ByteArray} {nm:ByteArray} {f g:Int} (h:IsFst ks nm f) (h':IsFst ks nm g):f=g:=by
 rcases h with ⟨rfl,h⟩ | ⟨i,rfl,h1,h2⟩ <;> rcases h' with ⟨rfl,h'⟩ | ⟨i',rfl,h1',h2'⟩
 ·rfl
 ·exact absurd h1' (h i')
 ·exact absurd h1 (h' i)
 ·by_cases hlt:i<i'
  ·exact absurd h1 (h2' i hlt)
  ·by_cases hgt:i'<i
   ·exact absurd h1' (h2 i' hgt)
   ·have:i=i':=by omega
    rw [this]
end Go.Proofs.YtjcpamjeekfblaaGreatDoor

namespace Go.Proofs.YtjcpamjeekfblaaGreatDoor
open Go.RowKit Go.Shelf
def KeysOn (S:Nat→Prop) (w:World) (ao:Option Addr) (ks:List ByteArray):Prop:=∀ (i:Nat) (s:ByteArray),ks[i]? = some s→s.size≤capT∧∃ b off,ao=some ⟨b,off,none⟩∧S b∧b<w.heap.size∧w.cell? ⟨b,off+i,none⟩=some (.string s)
def RowOn (S:Nat→Prop) (w:World) (ao:Option Addr) (n:Nat) (X:Nat→Array Value):Prop:=∀ i,i<n→(X i).size=6∧∃ b off,ao=some ⟨b,off,none⟩∧S b∧b<w.heap.size∧∀ j,j<6→w.cell? ⟨b,off+i*6+j,none⟩=(X i)[j]?
inductive ValOn (S:Nat→Prop) (w:World):Vt→Value→Prop
 | mk (k:Int) (b:Bool) (r t:ByteArray) (ks:List ByteArray) (vs:List Vt) (ko:Option Addr) (kc:Nat) (vo:Option Addr) (vc:Nat) (X:Nat→Array Value)
   (hw:(Lit.int .i64 k).wf=true) (hz:r.size≤capT∧t.size≤capT∧ks.length≤capT∧vs.length≤capT) (hk:KeysOn S w ko ks) (hr:RowOn S w vo vs.length X) (hv:∀ (i:Nat) (u:Vt),vs[i]? = some u→ValOn S w u (.agg (X i))) :
   ValOn S w (.mk k b r t ks vs) (.agg #[.int .i64 k,.bool b,.string r,.string t,.slice ko ks.length kc,.slice vo vs.length vc])
theorem KeysOn.at {S:Nat→Prop} {w:World} {ao:Option Addr} {ks:List ByteArray} (h:KeysOn S w ao ks):KeysAt w ao ks:=fun i s hi=>by
 obtain ⟨h0,b,off,h1,-,h2,h3⟩:=h i s hi
 exact ⟨h0,b,off,h1,h2,h3⟩
theorem RowOn.at {S:Nat→Prop} {w:World} {ao:Option Addr} {n:Nat} {X:Nat→Array Value} (h:RowOn S w ao n X):RowAt w ao n X:=fun i hi=>by
 obtain ⟨h0,b,off,h1,-,h2,h3⟩:=h i hi
 exact ⟨h0,b,off,h1,h2,h3⟩
theorem ValOn.at {S:Nat→Prop} {w:World} {t:Vt} {v:Value} (h:ValOn S w t v):ValAt w t v:=by
 induction h with
 | mk k b r t ks vs ko kc vo vc X hw hz hk hr hv ih=>exact .mk k b r t ks vs ko kc vo vc X hw hz hk.at hr.at ih
def SameOn (S:Nat→Prop) (w w':World):Prop:=w.heap.size≤w'.heap.size∧∀ b,S b→b<w.heap.size→w'.heap[b]? = w.heap[b]?
theorem cell_same {w w':World} {b o:Nat} (h:w'.heap[b]? = w.heap[b]?):w'.cell? ⟨b,o,none⟩=w.cell? ⟨b,o,none⟩:=World.cell?_of_block (w:=w) h
theorem KeysOn.kept {S S':Nat→Prop} {w w':World} {ao:Option Addr} {ks:List ByteArray} (h:KeysOn S w ao ks) (hS:∀ b,b<w.heap.size→S b→S' b) (hb:SameOn S w w'):KeysOn S' w' ao ks:=fun i s hi=>by
 obtain ⟨h0,b,off,h1,h4,h2,h3⟩:=h i s hi
 exact ⟨h0,b,off,h1,hS b h2 h4,Nat.lt_of_lt_of_le h2 hb.1,(cell_same (hb.2 b h4 h2)).trans h3⟩
theorem RowOn.kept {S S':Nat→Prop} {w w':World} {ao:Option Addr} {n:Nat} {X:Nat→Array Value} (h:RowOn S w ao n X) (hS:∀ b,b<w.heap.size→S b→S' b) (hb:SameOn S w w'):RowOn S' w' ao n X:=fun i hi=>by
 obtain ⟨h0,b,off,h1,h4,h2,h3⟩:=h i hi
 exact ⟨h0,b,off,h1,hS b h2 h4,Nat.lt_of_lt_of_le h2 hb.1,fun j hj=>(cell_same (hb.2 b h4 h2)).trans (h3 j hj)⟩
theorem ValOn.kept {S S':Nat→Prop} {w w':World} {t:Vt} {v:Value} (h:ValOn S w t v) (hS:∀ b,b<w.heap.size→S b→S' b) (hb:SameOn S w w'):ValOn S' w' t v:=by
 induction h with
 | mk k b r t ks vs ko kc vo vc X hw hz hk hr hv ih=>exact .mk k b r t ks vs ko kc vo vc X hw hz (hk.kept hS hb) (hr.kept hS hb) ih
theorem SameOn.below {S:Nat→Prop} {w w':World} (hb:Below w.heap.size w w'):SameOn S w w':=⟨hb.size,fun b _ h=>hb.block b h⟩
theorem ValOn.keptB {S:Nat→Prop} {w w':World} {t:Vt} {v:Value} (h:ValOn S w t v) (hb:Below w.heap.size w w'):ValOn S w' t v:=h.kept (fun _ _ h=>h) (SameOn.below hb)
theorem ValOn.mono {S S':Nat→Prop} {w:World} {t:Vt} {v:Value} (h:ValOn S w t v) (hS:∀ b,b<w.heap.size→S b→S' b):ValOn S' w t v:=h.kept hS ⟨Nat.le_refl _,fun _ _ _=>rfl⟩
theorem ValOn.six {S:Nat→Prop} {w:World} {u:Vt} {v:Value} (h:ValOn S w u v):∃ ko kc vo vc,v = .agg #[.int .i64 u.kind,.bool u.b,.string u.raw,.string u.text,.slice ko u.keys.length kc,.slice vo u.kids.length vc]:=by
 cases h with
 | mk k b r t ks vs ko kc vo vc X hw hz hk hr hv=>exact ⟨ko,kc,vo,vc,rfl⟩
mutual
def lnV:Vt→Prop
 | .mk _ _ _ _ ks vs=>ks.length≤1099511627776∧vs.length≤1099511627776∧lnL vs
def lnL:List Vt→Prop
 | []=>True
 | v :: vs=>lnV v∧lnL vs
end
theorem lnL_get:∀ {vs:List Vt} {i:Nat} {u:Vt},lnL vs→vs[i]? = some u→lnV u
 | [],i,u,_,h=>by simp at h
 | v :: vs,i,u,hs,h=>by
  unfold lnL at hs
  cases i with
  | zero=>simp at h;subst h;exact hs.1
  | succ i=>exact lnL_get hs.2 (by simpa using h)
theorem cloneT_calls (s:ByteArray) (hs:s.size≤281474976710656) (w:World) :
  Calls Tryz.prog 61 #[.string s] w fun e w'=>e = .returned (.string s)∧Below w.heap.size w w':=by
 have hc:=hid (show Calls Tryz.prog 86 #[.string s] w fun e w'=>e = .returned (.string s)∧Below w.heap.size w w' from Any.stringslite_Clone Tryz.laysM316 s w hs)
 go_enter Tryz.func61,Tryz.ntmps61
 go_wp2_with fail
 refine Calls.mono hc.out ?_
 rintro e w1 ⟨rfl,hb⟩
 clear hc
 go_wp2
 go_ret
 exact ⟨rfl,hb⟩
theorem append_fresh {t e:TypeId} {i:TypeInfo} {z:Value} (ht:Tryz.prog.underlying t=some (.slice e)) (hi:Tryz.prog.info? e=some i) (hz:i.zero=some z) {x:Value} {n:Nat} {news:List Value} (w:World) (hs:Src Tryz.prog i.size t x n news w) (h0:0<n) (hn:n*i.bytes≤281474976710656) (hn2:n≤1099511627776) :
  ∃ (cap:Nat) (cs:Array Value),(∀ ty,(Builtin.append_ #[t,t] ty #[.slice none 0 0,x]).run Tryz.prog w = .ok (.slice (some ⟨w.heap.size,0,none⟩) n cap) (w.drew.alloc (.cells cs e)))∧∀ j,j<news.length→cs[j]? = news[j]?:=by
 have h:=fun ty=>run_append_grow_src (P:=Tryz.prog) w t t ty e i z ht hi hz none 0 0 [] (run_firstCells_none w.drew i.size 0 0 0) x n news hs (by omega) (by omega) (by rw [Nat.zero_add,nextslicecap_zero h0];exact hn)
 simp only [Nat.zero_add] at h
 refine ⟨_,_,h,fun j hj=>?_⟩
 simp only [List.nil_append]
 rw [Array.getElem?_append_left (by simpa using hj)]
 simp
theorem append_none {t e:TypeId} {i:TypeInfo} (ht:Tryz.prog.underlying t=some (.slice e)) (hi:Tryz.prog.info? e=some i) {x:Value} (w:World) (hs:Src Tryz.prog i.size t x 0 [] w) (ty:TypeId) :
  (Builtin.append_ #[t,t] ty #[.slice none 0 0,x]).run Tryz.prog w = .ok (.slice none 0 0) w :=
 run_append_nothing w t t ty e i ht hi none 0 0 (Nat.le_refl _) x hs
end Go.Proofs.YtjcpamjeekfblaaGreatDoor

namespace Go.Proofs.YtjcpamjeekfblaaGreatDoor
open Go.RowKit Go.Shelf
def plN (s:ByteArray):Nat→Nat
 | 0=>0
 | i+1=>plN s i*10+(lk s i-48)
def plB (s:ByteArray):Bool:=decide (1≤s.size∧s.size≤18∧(lk s 0=48→s.size=1)) && decide (∀ i,i<s.size→48≤lk s i∧lk s i≤57)
def plV (s:ByteArray):Int:=if plB s=true then (plN s s.size:Int) else 0
theorem plN_lt (s:ByteArray):∀ i,(∀ j,j<i→lk s j≤57)→plN s i<10 ^ i
 | 0,_=>by simp [plN]
 | i+1,h=>by
  have h1:=plN_lt s i (fun j hj=>h j (by omega))
  have h2:=h i (by omega)
  rw [plN,Nat.pow_succ]
  omega
theorem plN_17 (s:ByteArray) (i:Nat) (hi:i≤17) (h:∀ j,j<i→lk s j≤57):plN s i<100000000000000000:=by
 have h1:=plN_lt s i h
 have h2:10 ^ i≤10 ^ 17:=Nat.pow_le_pow_right (by decide) hi
 exact Nat.lt_of_lt_of_le h1 h2
theorem plB_no {s:ByteArray} (h:¬ (1≤s.size∧s.size≤18∧(lk s 0=48→s.size=1))):plB s=false:=by unfold plB;rw [decide_eq_false h];rfl
theorem plB_bad {s:ByteArray} {i:Nat} (hi:i<s.size) (h:¬ (48≤lk s i∧lk s i≤57)):plB s=false:=by
 unfold plB
 rw [show decide (∀ i,i<s.size→48≤lk s i∧lk s i≤57)=false from decide_eq_false (fun h'=>h (h' i hi)),Bool.and_false]
theorem plB_yes {s:ByteArray} (h1:1≤s.size) (h2:s.size≤18) (h3:lk s 0=48→s.size=1) (h:∀ i,i<s.size→48≤lk s i∧lk s i≤57):plB s=true:=by
 unfold plB
 rw [decide_eq_true (show 1≤s.size∧s.size≤18∧(lk s 0=48→s.size=1) from ⟨h1,h2,h3⟩),decide_eq_true h]
 rfl
theorem plV_no {s:ByteArray} (h:plB s=false):plV s=0:=by unfold plV;rw [h];rfl
theorem plV_yes {s:ByteArray} (h:plB s=true):plV s=(plN s s.size:Int):=by unfold plV;rw [h];rfl
end Go.Proofs.YtjcpamjeekfblaaGreatDoor

namespace Go.Proofs.YtjcpamjeekfblaaGreatDoor
open Go.RowKit Go.Shelf
theorem dec_low (s:ByteArray) (i:Nat) (h:i<s.size) (h1:lk s i<128):Utf8.decode s i=(lk s i,1):=by rw [lk_at s i h] at h1 ⊢;exact decode_ascii s i h h1
theorem dec_high (s:ByteArray) (i:Nat) (h:i<s.size) (h1:128≤lk s i):128≤(Utf8.decode s i).1∧1≤(Utf8.decode s i).2:=by rw [lk_at s i h] at h1;exact decode_high s i h h1
theorem dec_pos (s:ByteArray) (i:Nat) (h:i<s.size):1≤(Utf8.decode s i).2:=by
 by_cases h1:lk s i<128
 ·rw [dec_low s i h h1];exact Nat.le_refl _
 ·exact (dec_high s i h (by omega)).2
theorem lk_get20 (s:ByteArray) (i:Nat):(s.get! i).toNat=lk s i:=by
 unfold lk
 by_cases h:i<s.size
 ·rw [dif_pos h,← get_at s i h];rfl
 ·rw [dif_neg h]
  have:s.get! i=0:=by
   show s.data[i]! = 0
   rw [getElem!_neg s.data i (by simpa using h)]
   rfl
  rw [this];rfl
theorem dec_conts (s:ByteArray) (i:Nat) (h:i<s.size):i+(Utf8.decode s i).2≤s.size∧∀ j,i<j→j<i+(Utf8.decode s i).2→128≤lk s j:=by
 have hc:=Lib.decodeN_conts (s.size-i) (s.get! i).toNat (s.get! (i+1)).toNat (s.get! (i+2)).toNat (s.get! (i+3)).toNat
 rw [← Lib.decode_at s i,lk_get20,lk_get20,lk_get20] at hc
 obtain ⟨c1,c2,c3,c4⟩:=hc
 obtain ⟨D,hD⟩:∃ D,(Utf8.decode s i).2=D:=⟨_,rfl⟩
 rw [hD] at c1 c2 c3 c4 ⊢
 refine ⟨?_,fun j hj1 hj2=>?_⟩
 ·rcases Nat.lt_or_ge D 2 with h2 | h2
  ·omega
  ·have:=(c1 h2).2
   rcases Nat.lt_or_ge D 3 with h3 | h3
   ·omega
   ·have:=(c2 h3).2
    rcases Nat.lt_or_ge D 4 with h4 | h4
    ·omega
    ·have:=(c3 h4).2
     omega
 ·have hj:j=i+1∨j=i+2∨j=i+3:=by omega
  rcases hj with rfl | rfl | rfl
  ·have:=(c1 (by omega)).1;omega
  ·have:=(c2 (by omega)).1;omega
  ·have:=(c3 (by omega)).1;omega
theorem eq_const (s:ByteArray) (l:List UInt8):(s.toList == l)=decide (s.data.toList=l):=by
 rw [Lib.toList_data]
 cases h:decide (s.data.toList=l)
 ·exact beq_eq_false_iff_ne.2 (of_decide_eq_false h)
 ·exact beq_iff_eq.2 (of_decide_eq_true h)
set_option maxRecDepth 10000 in
set_option maxHeartbeats 2000000 in
theorem plc_calls (s:ByteArray) (hs:s.size≤9223372036854775807) (w:World):Calls Tryz.prog 106 #[.string s] w fun e w'=>e = .returned (.tuple #[.int .i64 (plV s),.bool (plB s)])∧Below w.heap.size w w':=by
 by_cases h1:s.size<1
 ·have hb:=hid (plB_no (s:=s) (fun h=>by omega))
  obtain rfl:s=ByteArray.empty:=by
   apply ByteArray.ext
   apply Array.eq_empty_of_size_eq_zero
   have:s.data.size=s.size:=rfl
   omega
  clear h1
  go_enter Tryz.func106,Tryz.ntmps106
  go_wp2
  go_ret2
  exact ⟨by rw [plV_no hb.out,hb.out];rfl,Below.refl _ _⟩
 have h0:0<s.size:=by omega
 have e0:=lk_at s 0 h0
 have hne:(s.toList == [])=false:=by
  have:=eq_const s []
  rw [this]
  apply decide_eq_false
  intro h
  have h2:=congrArg List.length h
  rw [Array.length_toList] at h2
  have h3:s.data.size=0:=h2
  have h4:s.data.size=s.size:=rfl
  omega
 by_cases h2:s=(⟨#[48]⟩:ByteArray)
 ·subst h2
  have hb:=hid (show plB (⟨#[48]⟩:ByteArray)=true by decide)
  have hv:=hid (show plV (⟨#[48]⟩:ByteArray)=0 by rw [plV_yes hb.out];decide)
  clear hne e0 h0 h1 hs
  go_enter Tryz.func106,Tryz.ntmps106
  go_wp2
  go_ret2
  exact ⟨by rw [hv.out,hb.out];rfl,Below.refl _ _⟩
 have hn2:(s.toList == [48])=false:=by
  have:=eq_const s [48]
  rw [this]
  apply decide_eq_false
  intro h
  exact h2 (ByteArray.ext (Array.toList_inj.1 h))
 by_cases h3:(s[0]'h0).toNat=48
 ·have hz:1<s.size:=by
   rcases Nat.lt_or_ge 1 s.size with h | h
   ·exact h
   ·exfalso
    apply h2
    apply ByteArray.ext
    have hs1:s.data.size=1:=by have:s.data.size=s.size:=rfl;omega
    apply Array.ext
    ·exact hs1
    ·intro i hi1 hi2
     obtain rfl:i=0:=by simp at hi2;omega
     show (s[0]'h0)=48
     exact UInt8.toNat_inj.1 h3
  have hb:=hid (plB_no (s:=s) (fun h=>by have:=h.2.2 (by rw [e0];exact h3);omega))
  clear e0 h2
  go_enter Tryz.func106,Tryz.ntmps106
  go_wp2
  go_ret2
  exact ⟨by rw [plV_no hb.out,hb.out];rfl,Below.refl _ _⟩
 by_cases h4:18<s.size
 ·have hb:=hid (plB_no (s:=s) (fun h=>by omega))
  clear e0 h2
  go_enter Tryz.func106,Tryz.ntmps106
  go_wp2
  go_ret2
  exact ⟨by rw [plV_no hb.out,hb.out];rfl,Below.refl _ _⟩
 have hs18:s.size≤18:=by omega
 have h0':=hid (show lk s 0=48→s.size=1 from fun h=>by rw [e0] at h;omega)
 have b1:(((s[0]'h0).toNat:Int) == 48)=false:=beq_eq_false_iff_ne.2 (by omega)
 have b2:decide ((18:Int)<(s.size:Int))=false:=decide_eq_false (by omega)
 clear e0 h2
 go_enter Tryz.func106,Tryz.ntmps106
 go_wp2
 go_loopw [4] (fun nn wr=>∃ q:Nat,q≤s.size∧nn = .int .i64 ((plN s q:Nat):Int)∧Hid (wr.heap[w.heap.size]? = some (.stringIter s q))∧Hid (∀ j,j<q→48≤lk s j∧lk s j≤57)∧Hid (Below w.heap.size w wr)) (fun _ wr=>s.size-wr.iterPos w.heap.size)
 case atStart=>exact ⟨0,Nat.zero_le _,rfl,hid (World.iter_heap w s 0),hid (fun j hj=>by omega),hid ((Below.refl _ w).alloc (Nat.le_refl _) _)⟩
 case round =>
  obtain ⟨q,hqN,rfl,hI,hD,hB⟩:=hrel
  by_cases hq:q<s.size
  ·have hnx:=fun ty=>Lib.run_next_any_at (P:=Tryz.prog) wr w.heap.size s q ty hI.out hq
   have hwd:=dec_pos s q hq
   have hI2:=hid (Lib.iterAt_heap wr w.heap.size s q (q+(Utf8.decode s q).2) hI.out)
   have hB2:=hid (Lib.below_iterAt hB.out (k:=w.heap.size) (Nat.le_refl _) s (q+(Utf8.decode s q).2))
   by_cases hd:48≤lk s q∧lk s q≤57
   ·obtain ⟨hd1,hd2⟩:=hd
    have hN:=plN_17 s q (by omega) (fun j hj=>(hD.out j hj).2)
    have hnn:plN s (q+1)=plN s q*10+(lk s q-48):=rfl
    have hdec:=dec_low s q hq (by omega)
    rw [hdec] at hnx hI2 hB2
    obtain ⟨c,hc⟩:∃ c,lk s q=c:=⟨_,rfl⟩
    obtain ⟨n,hn⟩:∃ n,plN s q=n:=⟨_,rfl⟩
    have hc':=hid hc
    rw [hn] at hN hnn ⊢
    rw [hc] at hnx hd1 hd2 hnn
    have hnn':=hid hnn
    clear hnn hn hc hdec
    go_wp2
    go_roundw
    case rel=>exact ⟨q+1,by omega,by rw [hnn'.out];congr 1;omega,hI2,hid (fun j hj=>by
     by_cases e:j=q
     ·subst e;rw [hc'.out];exact ⟨hd1,hd2⟩
     ·exact hD.out j (by omega)),hB2⟩
    case measure=>simp only [World.iterPos,hI2.out,hI.out];omega
   ·have hb:=hid (plB_bad hq hd)
    obtain ⟨c,hc⟩:∃ c,(Utf8.decode s q).1=c:=⟨_,rfl⟩
    have hcb:c<48∨(48≤c∧57<c):=by
     by_cases hl:lk s q<128
     ·rw [dec_low s q hq hl] at hc;simp at hc;omega
     ·have:=(dec_high s q hq (by omega)).1;omega
    rw [hc] at hnx
    clear hd hc
    rcases hcb with h | ⟨h,h'⟩
    ·go_wp2
     go_ret2
     exact ⟨by rw [plV_no hb.out,hb.out];rfl,hB2.out⟩
    ·go_wp2
     go_ret2
     exact ⟨by rw [plV_no hb.out,hb.out];rfl,hB2.out⟩
  ·obtain rfl:q=s.size:=by omega
   have hnx:=fun ty=>Lib.run_next_end_at (P:=Tryz.prog) wr w.heap.size s s.size ty hI.out (by omega)
   have hb:=hid (plB_yes (by omega) hs18 h0'.out hD.out)
   go_wp2
   go_ret2
   exact ⟨by rw [plV_yes hb.out,hb.out];rfl,hB.out⟩
end Go.Proofs.YtjcpamjeekfblaaGreatDoor
