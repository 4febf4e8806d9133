/-
  Texts of mine that others lean on, one behind the other.
-/
import Derived.Test.YtongedjlmohogaaGreatDoorPack7
import Derived.Test.YtongedjlmohogaaGreatDoorPack11
import Derived.Test.YtongedjlmohogaaGreatDoorPack8
import Derived.Test.YtongedjlmohogaaGreatDoorPack1
import Derived.Test.YtongedjlmohogaaGreatDoorPack5
import Derived.Laws.AppendOwn
namespace Go.Proofs.YtongedjlmohogaaGreatDoor
open Go.RowKit Go.Shelf
structure CoS (b g:Nat) (s:ByteArray) (p:Nat) (w:World) (kd:Int) (pos:Nat) (kv vv:Value) (ks:List ByteArray) (vs:List Vt) (wr:World):Prop where
 pa:PaI b g s pos wr
 fr:PFr b w wr
 res:At wr p #[.int .i64 0,.bool false,.string ⟨#[]⟩,.string ⟨#[]⟩,.slice none 0 0,.slice none 0 0] 59
 box:At wr (p+1) #[.int .i64 kd,.bool false,.string ⟨#[]⟩,.string ⟨#[]⟩,kv,vv] 59
 obj:ObjG (p+2) wr kv vv ks vs
 sz:p+2≤wr.heap.size
 hw:w.heap.size=p
 lb:b<p
 lg:g<p
section
variable {b g p pos pos':Nat} {s:ByteArray} {w x x' y:World} {kd:Int} {kv vv kv' vv':Value} {ks ks':List ByteArray} {vs vs':List Vt}
theorem PaI.sameB (h:PaI b g s pos x) (h1:x'.heap[b]? = x.heap[b]?) (h2:x'.heap[g]? = x.heap[g]?):PaI b g s pos x':=⟨h1.trans h.at_,h2.trans h.tk,h.ne⟩
theorem CoS.call (h:CoS b g s p w kd pos kv vv ks vs x) (hP:PaI b g s pos' x') (hF:PFr b x x'):CoS b g s p w kd pos' kv vv ks vs x' where
 pa:=hP
 fr:=h.fr.trans hF
 res:=hF.at_ h.res (by have:=h.lb;omega)
 box:=hF.at_ h.box (by have:=h.lb;omega)
 obj:=h.obj.kept ⟨hF.size,fun c hc hl=>hF.block c hl (by have:=h.lb;omega)⟩
 sz:=Nat.le_trans h.sz hF.size
 hw:=h.hw
 lb:=h.lb
 lg:=h.lg
theorem CoS.kept (h:CoS b g s p w kd pos kv vv ks vs x) (hb:Below x.heap.size x x'):CoS b g s p w kd pos kv vv ks vs x':=h.call (h.pa.kept hb) (PFr.of_below hb)
theorem CoS.grow (h:CoS b g s p w kd pos kv vv ks vs x) {row:Option Nat} (hg:x.grownBy y row) (hr:∀ r,row=some r→p+2≤r) (ho:ObjG (p+2) y kv' vv' ks' vs') (i:Nat) (v:Value) (hv:(#[.int .i64 kd,.bool false,.string ⟨#[]⟩,.string ⟨#[]⟩,kv,vv]:Array Value).setIfInBounds i v = #[.int .i64 kd,.bool false,.string ⟨#[]⟩,.string ⟨#[]⟩,kv',vv']) :
  CoS b g s p w kd pos kv' vv' ks' vs' (y.setCell ⟨p+1,i,none⟩ v):=by
 have hlow:∀ c,c<p+2→y.heap[c]? = x.heap[c]?:=fun c hc=>hg.block c (Nat.lt_of_lt_of_le hc h.sz) (fun e=>by have:=hr c e.symm;omega)
 have hset:∀ c,c≠p+1→(y.setCell ⟨p+1,i,none⟩ v).heap[c]? = y.heap[c]?:=fun c hc=>Below.heap_setCell y ⟨p+1,i,none⟩ v c hc
 have hb:=h.lb
 have hgl:=h.lg
 have hbox:At y (p+1) #[.int .i64 kd,.bool false,.string ⟨#[]⟩,.string ⟨#[]⟩,kv,vv] 59:=(hlow (p+1) (by omega)).trans h.box
 have hs1:=hbox.set i v
 refine ⟨h.pa.sameB ((hset b (by omega)).trans (hlow b (by omega))) ((hset g (by omega)).trans (hlow g (by omega))),?_,(hset p (by omega)).trans ((hlow p (by omega)).trans h.res),?_,?_,?_,h.hw,h.lb,h.lg⟩
 ·refine ⟨hg.os.trans h.fr.os,hg.tape.trans h.fr.tape,hg.output.trans h.fr.output,by have:=h.fr.size;have:=hg.size;simp;omega,fun c hc hcb=>?_⟩
  have:=h.hw
  exact ((hset c (by omega)).trans (hlow c (by omega))).trans (h.fr.block c hc hcb)
 ·rw [← hv]
  exact hs1
 ·exact ho.kept ⟨by simp,fun c hc _=>hset c (by omega)⟩
 ·have:=h.sz;have:=hg.size;simp;omega
theorem CoS.kid (h:CoS b g s p w kd pos kv vv ks vs x) (hk:KidsG (p+2) kv.ownBlock y vv' vs') (hg:x.grownBy y vv.ownBlock) (ha:vv'.ownBlock=vv.ownBlock∨∃ g,vv'.ownBlock=some g∧x.heap.size≤g):CoS b g s p w kd pos kv vv' ks vs' (y.setCell ⟨p+1,5,none⟩ vv') :=
 h.grow hg (fun r hr=>(h.obj.2.1.blk hr).1) (h.obj.kid hk hg ha) 5 vv' (by simp)
theorem CoS.key (h:CoS b g s p w kd pos kv vv ks vs x) (hk:KeysG (p+2) y kv' ks') (hg:x.grownBy y kv.ownBlock) (ha:kv'.ownBlock=kv.ownBlock∨∃ g,kv'.ownBlock=some g∧x.heap.size≤g):CoS b g s p w kd pos kv' vv ks' vs (y.setCell ⟨p+1,4,none⟩ kv') :=
 h.grow hg (fun r hr=>(h.obj.1.blk hr).1) (h.obj.key hk hg ha) 4 kv' (by simp)
theorem CoS.done {ko vo:Option Addr} {n m kc vc:Nat} (h:CoS b g s p w kd pos (.slice ko n kc) (.slice vo m vc) ks vs x) (hwf:(Lit.int .i64 kd).wf=true) (hk:ks.length≤capT) (hv:vs.length≤capT) :
  n=ks.length∧m=vs.length∧ValOn (fun c=>p+2≤c) x (.mk kd false ⟨#[]⟩ ⟨#[]⟩ ks vs) (.agg #[.int .i64 kd,.bool false,.string ⟨#[]⟩,.string ⟨#[]⟩,.slice ko n kc,.slice vo m vc]):=by
 obtain ⟨h1,h2,-⟩:=h.obj
 obtain ⟨X,rfl,hr,hx⟩:=h2.row
 obtain ⟨rfl,hkk⟩:=h1.row
 exact ⟨rfl,rfl,.mk kd false _ _ ks vs ko kc vo vc X hwf ⟨by decide,by decide,hk,hv⟩ hkk hr hx⟩
end
theorem CoS.len {b g p pos n vc:Nat} {s:ByteArray} {w x:World} {kd:Int} {kv:Value} {vo:Option Addr} {ks:List ByteArray} {vs:List Vt} (h:CoS b g s p w kd pos kv (.slice vo n vc) ks vs x):lenP (p+1) 5 x=n:=by
 unfold lenP
 rw [show x.cell? ⟨p+1,5,none⟩=some (.slice vo n vc) from h.box.cell 5]
def posA (i:Nat) (c:Nat→Nat):Nat→Nat
 | 0=>i+1
 | q+1=>c q
theorem take_snocV {α:Type} {l:List α} {q:Nat} {u:α} (h:l[q]? = some u):l.take (q+1)=l.take q++[u]:=by
 rw [List.take_add_one,h];rfl
theorem wp_append_rowV {o:Oper} {a:Act} {w w':World} {K:Act→World→Prop} {Q:Exit→Act→World→Prop} {x y:Operand} {v v' u:Value} {ty:TypeId} (ho:o.op = .call { callee:=.builtin .append,args:=#[x,y],argTypes:=#[ty,ty] }) (hx:a.eval x=v) (hy:a.eval y=u)
  (hr:(Builtin.append_ #[ty,ty] o.type #[v,u]).run Tryz.prog w = .ok v' w') (h:K (a.put o.dst v') w'):o.wp Tryz.prog a w K Q:=by
 unfold Oper.wp execOp
 simp only [ho,resolve,invoke,builtin,Sem.run_bind,Sem.run_pure,Result.andThen_ok,List.map_toArray,List.map_cons,List.map_nil,hx,hy,hr]
 exact h
set_option maxRecDepth 10000 in
set_option maxHeartbeats 4000000 in
theorem arrayP_of (b g:Nat) (s:ByteArray) (hs:s.size≤8388608) (i:Nat) (hi:i<s.size) (vs:List Vt) (a bb cc:Nat→Nat) (h0:Hid (IsSkip s (i+1) (a 0)))
  (hq:Hid (∀ q,q<vs.length→byteAt s (a q)≠93∧a q<s.size∧IsSkip s (if byteAt s (a q)=44 then a q+1 else a q) (bb q)∧bb q<s.size))
  (hv:Hid (∀ (q:Nat) (u:Vt),vs[q]? = some u→∀ (z:Nat) (x:World),IsSkip s z (bb q)→Hid (PaI b g s z x)→Calls Tryz.prog 126 #[.pointer (some ⟨b,0,none⟩)] x fun e w'=>ParP b g s (cc q) u x e w'))
  (hss:Hid (∀ q,q<vs.length→IsSkip s (cc q) (a (q+1)))) (he:Hid (byteAt s (a vs.length)=93)) (hn:Hid (a vs.length<s.size)) (hlen:vs.length≤8388608) (w:World) (hP:Hid (PaI b g s i w)) :
  Calls Tryz.prog 142 #[.pointer (some ⟨b,0,none⟩)] w fun e w'=>ParP b g s (a vs.length+1) (.mk 5 false ⟨#[]⟩ ⟨#[]⟩ [] vs) w e w':=by
 obtain ⟨p,hp⟩:∃ p,Hid (w.heap.size=p):=⟨_,rfl⟩
 have s0:Hid (CoS b g s p w 5 i (.slice none 0 0) (.slice none 0 0) [] [] ((w.alloc (.cells #[.int .i64 0,.bool false,.string ⟨#[]⟩,.string ⟨#[]⟩,.slice none 0 0,.slice none 0 0] 59)).alloc (.cells #[.int .i64 5,.bool false,.string ⟨#[]⟩,.string ⟨#[]⟩,.slice none 0 0,.slice none 0 0] 59))):=by
  have q1:Below w.heap.size w (w.alloc (.cells #[.int .i64 0,.bool false,.string ⟨#[]⟩,.string ⟨#[]⟩,.slice none 0 0,.slice none 0 0] 59)):=(Below.refl _ w).alloc (Nat.le_refl _) _
  have q2:Below (w.alloc (.cells #[.int .i64 0,.bool false,.string ⟨#[]⟩,.string ⟨#[]⟩,.slice none 0 0,.slice none 0 0] 59)).heap.size (w.alloc (.cells #[.int .i64 0,.bool false,.string ⟨#[]⟩,.string ⟨#[]⟩,.slice none 0 0,.slice none 0 0] 59)) ((w.alloc (.cells #[.int .i64 0,.bool false,.string ⟨#[]⟩,.string ⟨#[]⟩,.slice none 0 0,.slice none 0 0] 59)).alloc (.cells #[.int .i64 5,.bool false,.string ⟨#[]⟩,.string ⟨#[]⟩,.slice none 0 0,.slice none 0 0] 59)):=(Below.refl _ _).alloc (Nat.le_refl _) _
  have q3:=q1.trans (q2.mono q1.size)
  have A0:=(At.new w #[.int .i64 0,.bool false,.string ⟨#[]⟩,.string ⟨#[]⟩,.slice none 0 0,.slice none 0 0] 59).keptAll q2
  have B0:=At.new (w.alloc (.cells #[.int .i64 0,.bool false,.string ⟨#[]⟩,.string ⟨#[]⟩,.slice none 0 0,.slice none 0 0] 59)) #[.int .i64 5,.bool false,.string ⟨#[]⟩,.string ⟨#[]⟩,.slice none 0 0,.slice none 0 0] 59
  have e1:(w.alloc (.cells #[.int .i64 0,.bool false,.string ⟨#[]⟩,.string ⟨#[]⟩,.slice none 0 0,.slice none 0 0] 59)).heap.size=p+1:=by rw [World.size_alloc,hp.out]
  rw [hp.out] at A0
  rw [e1] at B0
  have hlb:=hP.out.at_.lt
  have hlg:=hP.out.tk.lt
  rw [hp.out] at hlb hlg
  exact ⟨hP.out.kept q3,PFr.of_below q3,A0,B0,ObjG.nil _ _,by rw [World.size_alloc,e1];exact Nat.le_refl _,hp.out,hlb,hlg⟩
 have hsi:(i:Int)+1≤8388608:=by omega
 go_enter Tryz.func142,Tryz.ntmps142
 go_upto_region 2 with fail
 rw [hp.out]
 generalize (w.alloc (.cells #[.int .i64 0,.bool false,.string ⟨#[]⟩,.string ⟨#[]⟩,.slice none 0 0,.slice none 0 0] 59)).alloc (.cells #[.int .i64 5,.bool false,.string ⟨#[]⟩,.string ⟨#[]⟩,.slice none 0 0,.slice none 0 0] 59)=W0 at s0 ⊢
 have c1:W0.cell? ⟨b,1,none⟩=some (.int .i64 (i:Int)):=s0.out.pa.at_.cell 1
 have g1:=s0.out.pa.at_.frozen 1
 have s1:Hid (CoS b g s p w 5 (posA i cc 0) (.slice none 0 0) (.slice none 0 0) [] [] (W0.setCell ⟨b,1,none⟩ (.int .i64 ((i:Int)+1)))):=s0.out.call (s0.out.pa.go ((i:Int)+1) (i+1) (by omega)) ((PFr.refl b W0).set 1 _)
 go_upto_region 3 with fail
 clear c1 g1 s0 hP
 generalize W0.setCell ⟨b,1,none⟩ (.int .i64 ((i:Int)+1))=W1 at s1 ⊢
 go_loopw [] (fun wr=>∃ (q cp:Nat) (so:Option Addr),q≤vs.length∧Hid (CoS b g s p w 5 (posA i cc q) (.slice none 0 0) (.slice so q cp) [] (vs.take q) wr)) (fun wr=>vs.length-lenP (p+1) 5 wr)
 case atStart=>exact ⟨0,0,none,Nat.zero_le _,s1⟩
 case round =>
  obtain ⟨q,cp,so,hql,hS⟩:=hrel
  clear s1
  have hsk:IsSkip s (posA i cc q) (a q):=by
   cases q with
   | zero=>exact h0.out
   | succ q=>exact hss.out q (by omega)
  have haq:a q<s.size:=by
   by_cases e:q=vs.length
   ·rw [e];exact hn.out
   ·exact (hq.out q (by omega)).2.1
  have hgo:=hid (goesOnP_calls b g s (by omega) (posA i cc q) (a q) (hid hsk) haq 93 wr (hid hS.out.pa))
  by_cases hqe:q=vs.length
  ·have hlen0:=hid hqe
   have e93:=hid (show byteAt s (a q)=93 by rw [hqe];exact he.out)
   have htk:=hid (show vs.take q=vs by rw [hqe];exact List.take_length)
   have hpos:=hid (show a q+1=a vs.length+1 by rw [hqe])
   clear hqe
   go_wp2_with fail
   refine Calls.mono hgo.out ?_
   rintro e w1 (⟨-,rfl,hP1,hF1⟩ | ⟨hne,-⟩)
   ·have s2:=hid (hS.out.call hP1 hF1)
    rw [htk.out,hpos.out] at s2
    clear hgo hP1 hF1 hS htk hpos e93
    obtain ⟨z1,z2,hV⟩:=s2.out.done (by decide) (by decide) (by unfold capT;omega)
    have hV':=hid hV
    clear z1 z2 hV
    have e0:=s2.out.box.cell 0
    have e1:=s2.out.box.cell 1
    have e2:=s2.out.box.cell 2
    have e3:=s2.out.box.cell 3
    have e4:=s2.out.box.cell 4
    have e5:=s2.out.box.cell 5
    simp only [List.getElem?_toArray,List.getElem?_cons_zero,List.getElem?_cons_succ] at e0 e1 e2 e3 e4 e5
    have d0:=s2.out.res.cell 0
    have d1:=s2.out.res.cell 1
    have d2:=s2.out.res.cell 2
    have d3:=s2.out.res.cell 3
    have d4:=s2.out.res.cell 4
    have d5:=s2.out.res.cell 5
    simp only [List.getElem?_toArray,List.getElem?_cons_zero,List.getElem?_cons_succ] at d0 d1 d2 d3 d4 d5
    have f0:=s2.out.res.frozen 0
    have f1:=s2.out.res.frozen 1
    have f2:=s2.out.res.frozen 2
    have f3:=s2.out.res.frozen 3
    have f4:=s2.out.res.frozen 4
    have f5:=s2.out.res.frozen 5
    go_wp2
    refine ret_val1 (p:=2) rfl rfl (s2.out.res.six) rfl ?_
    have hpw:=hp.out
    refine ⟨_,rfl,?_,s2.out.pa.same same_six (Nat.ne_of_lt s2.out.lb) (Nat.ne_of_lt s2.out.lg),s2.out.fr.six (Nat.le_of_eq hp.out) _ _ _ _ _ _⟩
    refine hV'.out.kept (fun c _ hc=>?_) ⟨same_six.1,fun c hc hl=>same_six.2 c ?_ hl⟩
    ·show w.heap.size≤c
     have:p+2≤c:=hc
     omega
    ·show c≠p
     have:p+2≤c:=hc
     omega
   ·exact absurd e93.out hne
  ·have hlt:q<vs.length:=by omega
   obtain ⟨u,hu⟩:∃ u,vs[q]? = some u:=⟨_,List.getElem?_eq_getElem hlt⟩
   obtain ⟨n93,-,hsk2,-⟩:=hq.out q hlt
   have hval:=hid (fun x h=>hv.out q u hu _ x hsk2 h)
   have hts:=hid (take_snocV hu)
   have hlt':=hid hlt
   have hwo:∃ wo,wo=wr:=⟨_,rfl⟩
   clear hqe hsk haq
   go_wp2_with fail
   refine Calls.mono hgo.out ?_
   rintro e w1 (⟨h93,-⟩ | ⟨-,rfl,hP1,hF1⟩)
   ·exact absurd h93 n93
   have s2:=hid (hS.out.call hP1 hF1)
   have hm:=hid (hS.out.len)
   clear hgo hP1 hF1 hS hwo n93 hsk2 hu
   go_upto_region 4 with fail
   refine wp_region_held_drew (S:=fun _=>True) (by kernel_rfl) trivial (fun hHeld=>?_)
   have s0:=hid (s2.out.kept (Below.refl _ _).drew)
   obtain ⟨x0,ex0⟩:∃ x,World.drew w1=x:=⟨_,rfl⟩
   rw [ex0] at s0 ⊢
   clear ex0 s2
   (refine' wpAnyH_take (i:=0) rfl (by kernel_rfl) (by kernel_rfl) (by kernel_rfl) (fun _ _ _ h=>h) (Or.inl ⟨by rfl,?_⟩) (by assumption) ?_;rotate_left;(· (intro wq hq;(try dsimp only at hq);go_simp;first | done | with_reducible rfl));simp only [psA])
   (refine' wpAnyH_take (i:=2) rfl (by kernel_rfl) (by kernel_rfl) (by kernel_rfl) (fun _ _ _ h=>h) (Or.inl ⟨by rfl,?_⟩) (by assumption) ?_;rotate_left;(· (intro wq hq;(try dsimp only at hq);go_simp;first | done | with_reducible rfl));simp only [psA])
   refine wpAnyH_ready (rs:=[1,3]) (by kernel_rfl) (by simp) ?_
   refine AllReadyH.cons rfl (fun K hK=>?_) ?_
   ·have t5:x0.cell? ⟨p+1,5,none⟩=some (.slice so q cp):=s0.out.box.cell 5
    go_simp
    clear t5
    refine hK.out _ _ trivial (fun _=>?_)
    clear hK K
    refine wpAnyH_ready (rs:=[3]) (by kernel_rfl) (by simp) ?_
    refine AllReadyH.cons rfl (fun K hK=>?_) ?_
    ·rw [if_pos (by rfl)]
     go_simp
     refine Calls.mono (hval.out _ (hid s0.out.pa)) ?_
     rintro e x1 ⟨xv,rfl,hV,hP1,hF1⟩
     obtain ⟨ko,kc,vo,vc,rfl⟩:=hV.six
     have hz0:=s0.out.sz
     have V1:=hid (hV.mono (S':=fun c=>p+2≤c∧(Value.slice so q cp).ownBlock≠some c∧(Value.slice none 0 0).ownBlock≠some c) (fun c _ hc=>⟨Nat.le_trans hz0 hc,fun e=>absurd (s0.out.obj.2.1.blk e).2 (Nat.not_lt.2 hc),fun e=>absurd (s0.out.obj.1.blk e).2 (Nat.not_lt.2 hc)⟩))
     have s1:=hid (s0.out.call hP1 hF1)
     clear hV hP1 hF1 hz0 s0
     refine hK.out _ _ trivial (fun _=>?_)
     clear hK K
     refine wpAnyH_ready (rs:=[4]) (by kernel_rfl) (by simp) ?_
     refine AllReadyH.cons rfl (fun K hK=>?_) ?_
     ·go_simp
      obtain ⟨x2,ex⟩:∃ x,World.alloc x1 (.cells #[.int .i64 u.kind,.bool u.b,.string u.raw,.string u.text,.slice ko u.keys.length kc,.slice vo u.kids.length vc] 59)=x:=⟨_,rfl⟩
      have qz:Below x1.heap.size x1 x2:=by rw [← ex];exact (Below.refl _ _).alloc (Nat.le_refl _) _
      have hpz:=hid (show At x2 x1.heap.size #[.int .i64 u.kind,.bool u.b,.string u.raw,.string u.text,.slice ko u.keys.length kc,.slice vo u.kids.length vc] 59 by rw [← ex];exact At.new x1 _ _)
      rw [ex]
      obtain ⟨pz,ep⟩:∃ z,x1.heap.size=z:=⟨_,rfl⟩
      have s2:=hid (s1.out.kept qz)
      have V2:=hid (V1.out.keptB qz)
      rw [ep] at hpz ⊢
      clear ex ep qz
      refine hK.out _ _ trivial (fun _=>?_)
      clear hK K
      obtain ⟨nv,y,hrun,hk1,hgr,hap⟩:=(s2.out.obj.2.1).app V2.out ⟨pz,0,none⟩ 1 (fun j y hj=>by rw [show (⟨pz,0,none⟩:Addr).add j=⟨pz,j,none⟩ by by_cases h:j=0 <;> simp [Addr.add,h]];rw [hpz.out.cell j];exact hj) (by rw [List.length_take];omega) s2.out.sz
      obtain ⟨no,nc,rfl⟩:=hk1.shape
      have hrun':=hid hrun
      have fin:=hid (s2.out.kid hk1 hgr hap)
      obtain ⟨nn,hnn⟩:∃ n,(List.take q vs++[u]).length=n:=⟨_,rfl⟩
      rw [hnn] at hrun' fin
      have hbx:=(show At y (p+1) #[.int .i64 5,.bool false,.string ⟨#[]⟩,.string ⟨#[]⟩,.slice none 0 0,.slice so q cp] 59 from (hgr.block (p+1) (by have:=s2.out.sz;omega) (fun e=>by have:=(s2.out.obj.2.1.blk e.symm).1;omega)).trans s2.out.box)
      have t5:y.cell? ⟨p+1,5,none⟩=some (.slice so q cp):=hbx.cell 5
      have f5:=hbx.frozen 5
      clear hrun hk1 hgr hap hbx
      refine wpAnyH_ready (rs:=[5]) (by kernel_rfl) (by simp) ?_
      refine AllReadyH.cons rfl (fun K hK=>?_) ?_
      ·rw [if_pos (by rfl)]
       refine wp_append_rowV rfl rfl rfl hrun'.out ?_
       refine hK.out _ _ trivial (fun _=>?_)
       clear hK K
       (refine' wpAnyH_take (i:=6) rfl (by kernel_rfl) (by kernel_rfl) (by kernel_rfl) (fun _ _ _ h=>h) (Or.inl ⟨by rfl,?_⟩) (by assumption) ?_;rotate_left;(· (intro wq hq;(try dsimp only at hq);go_simp;first | done | with_reducible rfl));simp only [psA])
       refine wpAnyH_ready (rs:=[7]) (by kernel_rfl) (by simp) ?_
       refine AllReadyH.cons rfl (fun K hK=>?_) ?_
       ·go_simp
        refine hK.out _ _ trivial (fun _=>?_)
        clear hK K
        refine wpAnyH_done (by kernel_rfl) ?_ _
        obtain ⟨z,ez⟩:∃ z,World.setCell y ⟨p+1,5,none⟩ (.slice no nn nc)=z:=⟨_,rfl⟩
        rw [ez] at fin ⊢
        clear ez hrun' t5 f5 s2 hpz hHeld V2
        have hnn':nn=q+1:=by rw [← hnn,List.length_append,List.length_take,List.length_singleton];omega
        rw [← hts.out] at fin
        subst hnn'
        have hm2:=hid (fin.out.len)
        clear hnn hval
        refine ⟨⟨_,_,_,_,_,_,_,_,_,⟨q+1,nc,no,hlt'.out,fin⟩,rfl⟩,?_⟩
        rw [hm2.out,hm.out]
        have:=hlt'.out
        omega
       exact AllReadyH.nil
      exact AllReadyH.nil
     exact AllReadyH.nil
    exact AllReadyH.nil
   refine AllReadyH.cons rfl (fun K hK=>?_) ?_
   ·rw [if_pos (by rfl)]
    go_simp
    refine Calls.mono (hval.out _ (hid s0.out.pa)) ?_
    rintro e x1 ⟨xv,rfl,hV,hP1,hF1⟩
    obtain ⟨ko,kc,vo,vc,rfl⟩:=hV.six
    have hz0:=s0.out.sz
    have V1:=hid (hV.mono (S':=fun c=>p+2≤c∧(Value.slice so q cp).ownBlock≠some c∧(Value.slice none 0 0).ownBlock≠some c) (fun c _ hc=>⟨Nat.le_trans hz0 hc,fun e=>absurd (s0.out.obj.2.1.blk e).2 (Nat.not_lt.2 hc),fun e=>absurd (s0.out.obj.1.blk e).2 (Nat.not_lt.2 hc)⟩))
    have s1:=hid (s0.out.call hP1 hF1)
    clear hV hP1 hF1 hz0 s0
    refine hK.out _ _ trivial (fun _=>?_)
    clear hK K
    refine wpAnyH_ready (rs:=[1,4]) (by kernel_rfl) (by simp) ?_
    refine AllReadyH.cons rfl (fun K hK=>?_) ?_
    ·have t5:x1.cell? ⟨p+1,5,none⟩=some (.slice so q cp):=s1.out.box.cell 5
     go_simp
     clear t5
     refine hK.out _ _ trivial (fun _=>?_)
     clear hK K
     refine wpAnyH_ready (rs:=[4]) (by kernel_rfl) (by simp) ?_
     refine AllReadyH.cons rfl (fun K hK=>?_) ?_
     ·go_simp
      obtain ⟨x2,ex⟩:∃ x,World.alloc x1 (.cells #[.int .i64 u.kind,.bool u.b,.string u.raw,.string u.text,.slice ko u.keys.length kc,.slice vo u.kids.length vc] 59)=x:=⟨_,rfl⟩
      have qz:Below x1.heap.size x1 x2:=by rw [← ex];exact (Below.refl _ _).alloc (Nat.le_refl _) _
      have hpz:=hid (show At x2 x1.heap.size #[.int .i64 u.kind,.bool u.b,.string u.raw,.string u.text,.slice ko u.keys.length kc,.slice vo u.kids.length vc] 59 by rw [← ex];exact At.new x1 _ _)
      rw [ex]
      obtain ⟨pz,ep⟩:∃ z,x1.heap.size=z:=⟨_,rfl⟩
      have s2:=hid (s1.out.kept qz)
      have V2:=hid (V1.out.keptB qz)
      rw [ep] at hpz ⊢
      clear ex ep qz
      refine hK.out _ _ trivial (fun _=>?_)
      clear hK K
      obtain ⟨nv,y,hrun,hk1,hgr,hap⟩:=(s2.out.obj.2.1).app V2.out ⟨pz,0,none⟩ 1 (fun j y hj=>by rw [show (⟨pz,0,none⟩:Addr).add j=⟨pz,j,none⟩ by by_cases h:j=0 <;> simp [Addr.add,h]];rw [hpz.out.cell j];exact hj) (by rw [List.length_take];omega) s2.out.sz
      obtain ⟨no,nc,rfl⟩:=hk1.shape
      have hrun':=hid hrun
      have fin:=hid (s2.out.kid hk1 hgr hap)
      obtain ⟨nn,hnn⟩:∃ n,(List.take q vs++[u]).length=n:=⟨_,rfl⟩
      rw [hnn] at hrun' fin
      have hbx:=(show At y (p+1) #[.int .i64 5,.bool false,.string ⟨#[]⟩,.string ⟨#[]⟩,.slice none 0 0,.slice so q cp] 59 from (hgr.block (p+1) (by have:=s2.out.sz;omega) (fun e=>by have:=(s2.out.obj.2.1.blk e.symm).1;omega)).trans s2.out.box)
      have t5:y.cell? ⟨p+1,5,none⟩=some (.slice so q cp):=hbx.cell 5
      have f5:=hbx.frozen 5
      clear hrun hk1 hgr hap hbx
      refine wpAnyH_ready (rs:=[5]) (by kernel_rfl) (by simp) ?_
      refine AllReadyH.cons rfl (fun K hK=>?_) ?_
      ·rw [if_pos (by rfl)]
       refine wp_append_rowV rfl rfl rfl hrun'.out ?_
       refine hK.out _ _ trivial (fun _=>?_)
       clear hK K
       (refine' wpAnyH_take (i:=6) rfl (by kernel_rfl) (by kernel_rfl) (by kernel_rfl) (fun _ _ _ h=>h) (Or.inl ⟨by rfl,?_⟩) (by assumption) ?_;rotate_left;(· (intro wq hq;(try dsimp only at hq);go_simp;first | done | with_reducible rfl));simp only [psA])
       refine wpAnyH_ready (rs:=[7]) (by kernel_rfl) (by simp) ?_
       refine AllReadyH.cons rfl (fun K hK=>?_) ?_
       ·go_simp
        refine hK.out _ _ trivial (fun _=>?_)
        clear hK K
        refine wpAnyH_done (by kernel_rfl) ?_ _
        obtain ⟨z,ez⟩:∃ z,World.setCell y ⟨p+1,5,none⟩ (.slice no nn nc)=z:=⟨_,rfl⟩
        rw [ez] at fin ⊢
        clear ez hrun' t5 f5 s2 hpz hHeld V2
        have hnn':nn=q+1:=by rw [← hnn,List.length_append,List.length_take,List.length_singleton];omega
        rw [← hts.out] at fin
        subst hnn'
        have hm2:=hid (fin.out.len)
        clear hnn hval
        refine ⟨⟨_,_,_,_,_,_,_,_,_,⟨q+1,nc,no,hlt'.out,fin⟩,rfl⟩,?_⟩
        rw [hm2.out,hm.out]
        have:=hlt'.out
        omega
       exact AllReadyH.nil
      exact AllReadyH.nil
     exact AllReadyH.nil
    refine AllReadyH.cons rfl (fun K hK=>?_) ?_
    ·go_simp
     obtain ⟨x2,ex⟩:∃ x,World.alloc x1 (.cells #[.int .i64 u.kind,.bool u.b,.string u.raw,.string u.text,.slice ko u.keys.length kc,.slice vo u.kids.length vc] 59)=x:=⟨_,rfl⟩
     have qz:Below x1.heap.size x1 x2:=by rw [← ex];exact (Below.refl _ _).alloc (Nat.le_refl _) _
     have hpz:=hid (show At x2 x1.heap.size #[.int .i64 u.kind,.bool u.b,.string u.raw,.string u.text,.slice ko u.keys.length kc,.slice vo u.kids.length vc] 59 by rw [← ex];exact At.new x1 _ _)
     rw [ex]
     obtain ⟨pz,ep⟩:∃ z,x1.heap.size=z:=⟨_,rfl⟩
     have s2:=hid (s1.out.kept qz)
     have V2:=hid (V1.out.keptB qz)
     rw [ep] at hpz ⊢
     clear ex ep qz
     refine hK.out _ _ trivial (fun _=>?_)
     clear hK K
     refine wpAnyH_ready (rs:=[1]) (by kernel_rfl) (by simp) ?_
     refine AllReadyH.cons rfl (fun K hK=>?_) ?_
     ·have t5:x2.cell? ⟨p+1,5,none⟩=some (.slice so q cp):=s2.out.box.cell 5
      go_simp
      clear t5
      refine hK.out _ _ trivial (fun _=>?_)
      clear hK K
      obtain ⟨nv,y,hrun,hk1,hgr,hap⟩:=(s2.out.obj.2.1).app V2.out ⟨pz,0,none⟩ 1 (fun j y hj=>by rw [show (⟨pz,0,none⟩:Addr).add j=⟨pz,j,none⟩ by by_cases h:j=0 <;> simp [Addr.add,h]];rw [hpz.out.cell j];exact hj) (by rw [List.length_take];omega) s2.out.sz
      obtain ⟨no,nc,rfl⟩:=hk1.shape
      have hrun':=hid hrun
      have fin:=hid (s2.out.kid hk1 hgr hap)
      obtain ⟨nn,hnn⟩:∃ n,(List.take q vs++[u]).length=n:=⟨_,rfl⟩
      rw [hnn] at hrun' fin
      have hbx:=(show At y (p+1) #[.int .i64 5,.bool false,.string ⟨#[]⟩,.string ⟨#[]⟩,.slice none 0 0,.slice so q cp] 59 from (hgr.block (p+1) (by have:=s2.out.sz;omega) (fun e=>by have:=(s2.out.obj.2.1.blk e.symm).1;omega)).trans s2.out.box)
      have t5:y.cell? ⟨p+1,5,none⟩=some (.slice so q cp):=hbx.cell 5
      have f5:=hbx.frozen 5
      clear hrun hk1 hgr hap hbx
      refine wpAnyH_ready (rs:=[5]) (by kernel_rfl) (by simp) ?_
      refine AllReadyH.cons rfl (fun K hK=>?_) ?_
      ·rw [if_pos (by rfl)]
       refine wp_append_rowV rfl rfl rfl hrun'.out ?_
       refine hK.out _ _ trivial (fun _=>?_)
       clear hK K
       (refine' wpAnyH_take (i:=6) rfl (by kernel_rfl) (by kernel_rfl) (by kernel_rfl) (fun _ _ _ h=>h) (Or.inl ⟨by rfl,?_⟩) (by assumption) ?_;rotate_left;(· (intro wq hq;(try dsimp only at hq);go_simp;first | done | with_reducible rfl));simp only [psA])
       refine wpAnyH_ready (rs:=[7]) (by kernel_rfl) (by simp) ?_
       refine AllReadyH.cons rfl (fun K hK=>?_) ?_
       ·go_simp
        refine hK.out _ _ trivial (fun _=>?_)
        clear hK K
        refine wpAnyH_done (by kernel_rfl) ?_ _
        obtain ⟨z,ez⟩:∃ z,World.setCell y ⟨p+1,5,none⟩ (.slice no nn nc)=z:=⟨_,rfl⟩
        rw [ez] at fin ⊢
        clear ez hrun' t5 f5 s2 hpz hHeld V2
        have hnn':nn=q+1:=by rw [← hnn,List.length_append,List.length_take,List.length_singleton];omega
        rw [← hts.out] at fin
        subst hnn'
        have hm2:=hid (fin.out.len)
        clear hnn hval
        refine ⟨⟨_,_,_,_,_,_,_,_,_,⟨q+1,nc,no,hlt'.out,fin⟩,rfl⟩,?_⟩
        rw [hm2.out,hm.out]
        have:=hlt'.out
        omega
       exact AllReadyH.nil
      exact AllReadyH.nil
     exact AllReadyH.nil
    exact AllReadyH.nil
   exact AllReadyH.nil
set_option maxRecDepth 10000 in
set_option maxHeartbeats 4000000 in
theorem objectP_of (b g:Nat) (s:ByteArray) (hs:s.size≤8388608) (i:Nat) (hi:i<s.size) (ks:List ByteArray) (vs:List Vt) (hkv:ks.length=vs.length) (a nn0 mm dd bb cc:Nat→Nat) (h0:Hid (IsSkip s (i+1) (a 0)))
  (hq:Hid (∀ q,q<vs.length→byteAt s (a q)≠125∧a q<s.size∧IsSkip s (if byteAt s (a q)=44 then a q+1 else a q) (nn0 q)∧nn0 q<s.size∧IsSkip s (mm q) (dd q)∧dd q<s.size∧IsSkip s (dd q+1) (bb q)∧bb q<s.size))
  (hk:Hid (∀ (q:Nat) (K:ByteArray),ks[q]? = some K→Txt s (nn0 q) (mm q) K))
  (hv:Hid (∀ (q:Nat) (u:Vt),vs[q]? = some u→∀ (z:Nat) (x:World),IsSkip s z (bb q)→Hid (PaI b g s z x)→Calls Tryz.prog 126 #[.pointer (some ⟨b,0,none⟩)] x fun e w'=>ParP b g s (cc q) u x e w'))
  (hss:Hid (∀ q,q<vs.length→IsSkip s (cc q) (a (q+1)))) (he:Hid (byteAt s (a vs.length)=125)) (hn:Hid (a vs.length<s.size)) (hlen:vs.length≤8388608) (w:World) (hP:Hid (PaI b g s i w)) :
  Calls Tryz.prog 143 #[.pointer (some ⟨b,0,none⟩)] w fun e w'=>ParP b g s (a vs.length+1) (.mk 6 false ⟨#[]⟩ ⟨#[]⟩ ks vs) w e w':=by
 have hkv':=hid hkv
 clear hkv
 obtain ⟨p,hp⟩:∃ p,Hid (w.heap.size=p):=⟨_,rfl⟩
 have s0:Hid (CoS b g s p w 6 i (.slice none 0 0) (.slice none 0 0) [] [] ((w.alloc (.cells #[.int .i64 0,.bool false,.string ⟨#[]⟩,.string ⟨#[]⟩,.slice none 0 0,.slice none 0 0] 59)).alloc (.cells #[.int .i64 6,.bool false,.string ⟨#[]⟩,.string ⟨#[]⟩,.slice none 0 0,.slice none 0 0] 59))):=by
  have q1:Below w.heap.size w (w.alloc (.cells #[.int .i64 0,.bool false,.string ⟨#[]⟩,.string ⟨#[]⟩,.slice none 0 0,.slice none 0 0] 59)):=(Below.refl _ w).alloc (Nat.le_refl _) _
  have q2:Below (w.alloc (.cells #[.int .i64 0,.bool false,.string ⟨#[]⟩,.string ⟨#[]⟩,.slice none 0 0,.slice none 0 0] 59)).heap.size (w.alloc (.cells #[.int .i64 0,.bool false,.string ⟨#[]⟩,.string ⟨#[]⟩,.slice none 0 0,.slice none 0 0] 59)) ((w.alloc (.cells #[.int .i64 0,.bool false,.string ⟨#[]⟩,.string ⟨#[]⟩,.slice none 0 0,.slice none 0 0] 59)).alloc (.cells #[.int .i64 6,.bool false,.string ⟨#[]⟩,.string ⟨#[]⟩,.slice none 0 0,.slice none 0 0] 59)):=(Below.refl _ _).alloc (Nat.le_refl _) _
  have q3:=q1.trans (q2.mono q1.size)
  have A0:=(At.new w #[.int .i64 0,.bool false,.string ⟨#[]⟩,.string ⟨#[]⟩,.slice none 0 0,.slice none 0 0] 59).keptAll q2
  have B0:=At.new (w.alloc (.cells #[.int .i64 0,.bool false,.string ⟨#[]⟩,.string ⟨#[]⟩,.slice none 0 0,.slice none 0 0] 59)) #[.int .i64 6,.bool false,.string ⟨#[]⟩,.string ⟨#[]⟩,.slice none 0 0,.slice none 0 0] 59
  have e1:(w.alloc (.cells #[.int .i64 0,.bool false,.string ⟨#[]⟩,.string ⟨#[]⟩,.slice none 0 0,.slice none 0 0] 59)).heap.size=p+1:=by rw [World.size_alloc,hp.out]
  rw [hp.out] at A0
  rw [e1] at B0
  have hlb:=hP.out.at_.lt
  have hlg:=hP.out.tk.lt
  rw [hp.out] at hlb hlg
  exact ⟨hP.out.kept q3,PFr.of_below q3,A0,B0,ObjG.nil _ _,by rw [World.size_alloc,e1];exact Nat.le_refl _,hp.out,hlb,hlg⟩
 have hsi:(i:Int)+1≤8388608:=by omega
 go_enter Tryz.func143,Tryz.ntmps143
 go_upto_region 2 with fail
 rw [hp.out]
 generalize (w.alloc (.cells #[.int .i64 0,.bool false,.string ⟨#[]⟩,.string ⟨#[]⟩,.slice none 0 0,.slice none 0 0] 59)).alloc (.cells #[.int .i64 6,.bool false,.string ⟨#[]⟩,.string ⟨#[]⟩,.slice none 0 0,.slice none 0 0] 59)=W0 at s0 ⊢
 have c1:W0.cell? ⟨b,1,none⟩=some (.int .i64 (i:Int)):=s0.out.pa.at_.cell 1
 have g1:=s0.out.pa.at_.frozen 1
 have s1:Hid (CoS b g s p w 6 (posA i cc 0) (.slice none 0 0) (.slice none 0 0) [] [] (W0.setCell ⟨b,1,none⟩ (.int .i64 ((i:Int)+1)))):=s0.out.call (s0.out.pa.go ((i:Int)+1) (i+1) (by omega)) ((PFr.refl b W0).set 1 _)
 go_upto_region 3 with fail
 clear c1 g1 s0 hP
 generalize W0.setCell ⟨b,1,none⟩ (.int .i64 ((i:Int)+1))=W1 at s1 ⊢
 go_loopw [] (fun wr=>∃ (q ck cp:Nat) (sk so:Option Addr),q≤vs.length∧Hid (CoS b g s p w 6 (posA i cc q) (.slice sk q ck) (.slice so q cp) (ks.take q) (vs.take q) wr)) (fun wr=>vs.length-lenP (p+1) 5 wr)
 case atStart=>exact ⟨0,0,0,none,none,Nat.zero_le _,s1⟩
 case round =>
  obtain ⟨q,ck,cp,sk,so,hql,hS⟩:=hrel
  clear s1
  have hsk:IsSkip s (posA i cc q) (a q):=by
   cases q with
   | zero=>exact h0.out
   | succ q=>exact hss.out q (by omega)
  have haq:a q<s.size:=by
   by_cases e:q=vs.length
   ·rw [e];exact hn.out
   ·exact (hq.out q (by omega)).2.1
  have hgo:=hid (goesOnP_calls b g s (by omega) (posA i cc q) (a q) (hid hsk) haq 125 wr (hid hS.out.pa))
  by_cases hqe:q=vs.length
  ·have hlen0:=hid hqe
   have e93:=hid (show byteAt s (a q)=125 by rw [hqe];exact he.out)
   have htk:=hid (show vs.take q=vs by rw [hqe];exact List.take_length)
   have htk2:=hid (show ks.take q=ks by rw [hqe,← hkv'.out];exact List.take_length)
   have hpos:=hid (show a q+1=a vs.length+1 by rw [hqe])
   clear hqe
   go_wp2_with fail
   refine Calls.mono hgo.out ?_
   rintro e w1 (⟨-,rfl,hP1,hF1⟩ | ⟨hne,-⟩)
   ·have s2:=hid (hS.out.call hP1 hF1)
    rw [htk.out,htk2.out,hpos.out] at s2
    clear hgo hP1 hF1 hS htk htk2 hpos e93
    obtain ⟨z1,z2,hV⟩:=s2.out.done (by decide) (by rw [hkv'.out];unfold capT;omega) (by unfold capT;omega)
    have hV':=hid hV
    clear z1 z2 hV
    have e0:=s2.out.box.cell 0
    have e1:=s2.out.box.cell 1
    have e2:=s2.out.box.cell 2
    have e3:=s2.out.box.cell 3
    have e4:=s2.out.box.cell 4
    have e5:=s2.out.box.cell 5
    simp only [List.getElem?_toArray,List.getElem?_cons_zero,List.getElem?_cons_succ] at e0 e1 e2 e3 e4 e5
    have d0:=s2.out.res.cell 0
    have d1:=s2.out.res.cell 1
    have d2:=s2.out.res.cell 2
    have d3:=s2.out.res.cell 3
    have d4:=s2.out.res.cell 4
    have d5:=s2.out.res.cell 5
    simp only [List.getElem?_toArray,List.getElem?_cons_zero,List.getElem?_cons_succ] at d0 d1 d2 d3 d4 d5
    have f0:=s2.out.res.frozen 0
    have f1:=s2.out.res.frozen 1
    have f2:=s2.out.res.frozen 2
    have f3:=s2.out.res.frozen 3
    have f4:=s2.out.res.frozen 4
    have f5:=s2.out.res.frozen 5
    go_wp2
    refine ret_val1 (p:=2) rfl rfl (s2.out.res.six) rfl ?_
    have hpw:=hp.out
    refine ⟨_,rfl,?_,s2.out.pa.same same_six (Nat.ne_of_lt s2.out.lb) (Nat.ne_of_lt s2.out.lg),s2.out.fr.six (Nat.le_of_eq hp.out) _ _ _ _ _ _⟩
    refine hV'.out.kept (fun c _ hc=>?_) ⟨same_six.1,fun c hc hl=>same_six.2 c ?_ hl⟩
    ·show w.heap.size≤c
     have:p+2≤c:=hc
     omega
    ·show c≠p
     have:p+2≤c:=hc
     omega
   ·exact absurd e93.out hne
  ·have hlt:q<vs.length:=by omega
   obtain ⟨u,hu⟩:∃ u,vs[q]? = some u:=⟨_,List.getElem?_eq_getElem hlt⟩
   obtain ⟨KN,hKq⟩:∃ K,ks[q]? = some K:=⟨_,List.getElem?_eq_getElem (by rw [hkv'.out];exact hlt)⟩
   obtain ⟨n93,-,hsk2,hnn0,hsk3,hdd,hsk4,-⟩:=hq.out q hlt
   have hval:=hid (fun x h=>hv.out q u hu _ x hsk4 h)
   have hquo:=hid (fun x h=>quoted_calls b g s hs (nn0 q) (mm q) KN (hid (hk.out q KN hKq)) x h)
   have hKs:Hid (KN.size≤capT):=by have:=(hk.out q KN hKq).len;show _≤_;unfold capT;omega
   have hb1:=hid (fun x h=>blanksP_calls b g s (by omega) _ (nn0 q) (hid hsk2) hnn0 x h)
   have hb2:=hid (fun x h=>blanksP_calls b g s (by omega) (mm q) (dd q) (hid hsk3) hdd x h)
   have hts:=hid (take_snocV hu)
   have htk:=hid (take_snocV hKq)
   have hlt':=hid hlt
   have hddi:(dd q:Int)+1≤8388608:=by omega
   have hm:=hid (hS.out.len)
   clear hqe hsk haq
   go_wp2_with fail
   refine Calls.mono hgo.out ?_
   rintro e w1 (⟨h93,-⟩ | ⟨-,rfl,hP1,hF1⟩)
   ·exact absurd h93 n93
   have s2:=hid (hS.out.call hP1 hF1)
   clear hgo hP1 hF1 hS n93 hsk2 hsk3 hsk4 hdd hnn0 hu hKq
   go_wp2_with fail
   refine Calls.mono (hb1.out w1 (hid s2.out.pa)) ?_
   rintro e w2 ⟨rfl,hP1,hF1⟩
   have s3:=hid (s2.out.call hP1 hF1)
   clear hb1 hP1 hF1 s2
   go_upto_region 5 with fail
   go_cut [22] from 16 to 21 (fun _ wx=>∃ (sk2:Option Addr) (ck2:Nat),Hid (CoS b g s p w 6 (mm q) (.slice sk2 (q+1) ck2) (.slice so q cp) (ks.take (q+1)) (vs.take q) wx))
   case first =>
    rename_i Kr hKr
    refine wp_region_held_drew (S:=fun _=>True) (by kernel_rfl) trivial (fun hHeld=>?_)
    have s0:=hid (s3.out.kept (Below.refl _ _).drew)
    obtain ⟨x0,ex0⟩:∃ x,World.drew w2=x:=⟨_,rfl⟩
    rw [ex0] at s0 ⊢
    clear ex0 s3
    (refine' wpAnyH_take (i:=0) rfl (by kernel_rfl) (by kernel_rfl) (by kernel_rfl) (fun _ _ _ h=>h) (Or.inl ⟨by rfl,?_⟩) (by assumption) ?_;rotate_left;(· (intro wq hq;(try dsimp only at hq);go_simp;first | done | with_reducible rfl));simp only [psA])
    (refine' wpAnyH_take (i:=2) rfl (by kernel_rfl) (by kernel_rfl) (by kernel_rfl) (fun _ _ _ h=>h) (Or.inl ⟨by rfl,?_⟩) (by assumption) ?_;rotate_left;(· (intro wq hq;(try dsimp only at hq);go_simp;first | done | with_reducible rfl));simp only [psA])
    refine wpAnyH_ready (rs:=[1,3]) (by kernel_rfl) (by simp) ?_
    refine AllReadyH.cons rfl (fun K hK=>?_) ?_
    ·have t5:x0.cell? ⟨p+1,4,none⟩=some (.slice sk q ck):=s0.out.box.cell 4
     go_simp
     clear t5
     refine hK.out _ _ trivial (fun _=>?_)
     clear hK K
     refine wpAnyH_ready (rs:=[3]) (by kernel_rfl) (by simp) ?_
     refine AllReadyH.cons rfl (fun K hK=>?_) ?_
     ·rw [if_pos (by rfl)]
      go_simp
      refine Calls.mono (hquo.out _ (hid s0.out.pa)) ?_
      rintro e x1 ⟨rfl,hP1,hF1⟩
      have s1:=hid (s0.out.call hP1 hF1)
      clear hP1 hF1 s0
      refine hK.out _ _ trivial (fun _=>?_)
      clear hK K
      refine wpAnyH_ready (rs:=[4]) (by kernel_rfl) (by simp) ?_
      refine AllReadyH.cons rfl (fun K hK=>?_) ?_
      ·go_simp
       obtain ⟨x2,ex⟩:∃ x,World.alloc x1 (.cells #[.string KN] 9)=x:=⟨_,rfl⟩
       have qz:Below x1.heap.size x1 x2:=by rw [← ex];exact (Below.refl _ _).alloc (Nat.le_refl _) _
       have hpz:=hid (show At x2 x1.heap.size #[.string KN] 9 by rw [← ex];exact At.new x1 _ _)
       rw [ex]
       obtain ⟨pz,ep⟩:∃ z,x1.heap.size=z:=⟨_,rfl⟩
       have s2:=hid (s1.out.kept qz)
       rw [ep] at hpz ⊢
       clear ex ep qz
       refine hK.out _ _ trivial (fun _=>?_)
       clear hK K
       obtain ⟨nv,y,hrun,hk1,hgr,hap⟩:=(s2.out.obj.1).app hKs.out ⟨pz,0,none⟩ 1 (by simpa [Addr.add] using hpz.out.cell 0) (by rw [List.length_take];omega) s2.out.sz
       obtain ⟨no,nc,rfl⟩:=hk1.shape
       have hrun':=hid hrun
       have fin:=hid (s2.out.key hk1 hgr hap)
       obtain ⟨nn,hnn⟩:∃ n,(List.take q ks++[KN]).length=n:=⟨_,rfl⟩
       rw [hnn] at hrun' fin
       have hbx:=(show At y (p+1) #[.int .i64 6,.bool false,.string ⟨#[]⟩,.string ⟨#[]⟩,.slice sk q ck,.slice so q cp] 59 from (hgr.block (p+1) (by have:=s2.out.sz;omega) (fun e=>by have:=(s2.out.obj.1.blk e.symm).1;omega)).trans s2.out.box)
       have t5:y.cell? ⟨p+1,4,none⟩=some (.slice sk q ck):=hbx.cell 4
       have f5:=hbx.frozen 4
       clear hrun hk1 hgr hap hbx
       refine wpAnyH_ready (rs:=[5]) (by kernel_rfl) (by simp) ?_
       refine AllReadyH.cons rfl (fun K hK=>?_) ?_
       ·rw [if_pos (by rfl)]
        refine wp_append_rowV rfl rfl rfl hrun'.out ?_
        refine hK.out _ _ trivial (fun _=>?_)
        clear hK K
        (refine' wpAnyH_take (i:=6) rfl (by kernel_rfl) (by kernel_rfl) (by kernel_rfl) (fun _ _ _ h=>h) (Or.inl ⟨by rfl,?_⟩) (by assumption) ?_;rotate_left;(· (intro wq hq;(try dsimp only at hq);go_simp;first | done | with_reducible rfl));simp only [psA])
        refine wpAnyH_ready (rs:=[7]) (by kernel_rfl) (by simp) ?_
        refine AllReadyH.cons rfl (fun K hK=>?_) ?_
        ·go_simp
         refine hK.out _ _ trivial (fun _=>?_)
         clear hK K
         refine wpAnyH_done (by kernel_rfl) ?_ _
         refine hKr _ _ ?_
         obtain ⟨z,ez⟩:∃ z,World.setCell y ⟨p+1,4,none⟩ (.slice no nn nc)=z:=⟨_,rfl⟩
         rw [ez] at fin ⊢
         clear ez hrun' t5 f5 s2 hpz hHeld
         have hnn':nn=q+1:=by rw [← hnn,List.length_append,List.length_take,List.length_singleton];have:=hkv'.out;omega
         rw [← htk.out] at fin
         subst hnn'
         clear hnn hquo
         go_wp2
         go_meet
         case rel=>exact ⟨no,nc,fin⟩
        exact AllReadyH.nil
       exact AllReadyH.nil
      exact AllReadyH.nil
     exact AllReadyH.nil
    refine AllReadyH.cons rfl (fun K hK=>?_) ?_
    ·rw [if_pos (by rfl)]
     go_simp
     refine Calls.mono (hquo.out _ (hid s0.out.pa)) ?_
     rintro e x1 ⟨rfl,hP1,hF1⟩
     have s1:=hid (s0.out.call hP1 hF1)
     clear hP1 hF1 s0
     refine hK.out _ _ trivial (fun _=>?_)
     clear hK K
     refine wpAnyH_ready (rs:=[1,4]) (by kernel_rfl) (by simp) ?_
     refine AllReadyH.cons rfl (fun K hK=>?_) ?_
     ·have t5:x1.cell? ⟨p+1,4,none⟩=some (.slice sk q ck):=s1.out.box.cell 4
      go_simp
      clear t5
      refine hK.out _ _ trivial (fun _=>?_)
      clear hK K
      refine wpAnyH_ready (rs:=[4]) (by kernel_rfl) (by simp) ?_
      refine AllReadyH.cons rfl (fun K hK=>?_) ?_
      ·go_simp
       obtain ⟨x2,ex⟩:∃ x,World.alloc x1 (.cells #[.string KN] 9)=x:=⟨_,rfl⟩
       have qz:Below x1.heap.size x1 x2:=by rw [← ex];exact (Below.refl _ _).alloc (Nat.le_refl _) _
       have hpz:=hid (show At x2 x1.heap.size #[.string KN] 9 by rw [← ex];exact At.new x1 _ _)
       rw [ex]
       obtain ⟨pz,ep⟩:∃ z,x1.heap.size=z:=⟨_,rfl⟩
       have s2:=hid (s1.out.kept qz)
       rw [ep] at hpz ⊢
       clear ex ep qz
       refine hK.out _ _ trivial (fun _=>?_)
       clear hK K
       obtain ⟨nv,y,hrun,hk1,hgr,hap⟩:=(s2.out.obj.1).app hKs.out ⟨pz,0,none⟩ 1 (by simpa [Addr.add] using hpz.out.cell 0) (by rw [List.length_take];omega) s2.out.sz
       obtain ⟨no,nc,rfl⟩:=hk1.shape
       have hrun':=hid hrun
       have fin:=hid (s2.out.key hk1 hgr hap)
       obtain ⟨nn,hnn⟩:∃ n,(List.take q ks++[KN]).length=n:=⟨_,rfl⟩
       rw [hnn] at hrun' fin
       have hbx:=(show At y (p+1) #[.int .i64 6,.bool false,.string ⟨#[]⟩,.string ⟨#[]⟩,.slice sk q ck,.slice so q cp] 59 from (hgr.block (p+1) (by have:=s2.out.sz;omega) (fun e=>by have:=(s2.out.obj.1.blk e.symm).1;omega)).trans s2.out.box)
       have t5:y.cell? ⟨p+1,4,none⟩=some (.slice sk q ck):=hbx.cell 4
       have f5:=hbx.frozen 4
       clear hrun hk1 hgr hap hbx
       refine wpAnyH_ready (rs:=[5]) (by kernel_rfl) (by simp) ?_
       refine AllReadyH.cons rfl (fun K hK=>?_) ?_
       ·rw [if_pos (by rfl)]
        refine wp_append_rowV rfl rfl rfl hrun'.out ?_
        refine hK.out _ _ trivial (fun _=>?_)
        clear hK K
        (refine' wpAnyH_take (i:=6) rfl (by kernel_rfl) (by kernel_rfl) (by kernel_rfl) (fun _ _ _ h=>h) (Or.inl ⟨by rfl,?_⟩) (by assumption) ?_;rotate_left;(· (intro wq hq;(try dsimp only at hq);go_simp;first | done | with_reducible rfl));simp only [psA])
        refine wpAnyH_ready (rs:=[7]) (by kernel_rfl) (by simp) ?_
        refine AllReadyH.cons rfl (fun K hK=>?_) ?_
        ·go_simp
         refine hK.out _ _ trivial (fun _=>?_)
         clear hK K
         refine wpAnyH_done (by kernel_rfl) ?_ _
         refine hKr _ _ ?_
         obtain ⟨z,ez⟩:∃ z,World.setCell y ⟨p+1,4,none⟩ (.slice no nn nc)=z:=⟨_,rfl⟩
         rw [ez] at fin ⊢
         clear ez hrun' t5 f5 s2 hpz hHeld
         have hnn':nn=q+1:=by rw [← hnn,List.length_append,List.length_take,List.length_singleton];have:=hkv'.out;omega
         rw [← htk.out] at fin
         subst hnn'
         clear hnn hquo
         go_wp2
         go_meet
         case rel=>exact ⟨no,nc,fin⟩
        exact AllReadyH.nil
       exact AllReadyH.nil
      exact AllReadyH.nil
     refine AllReadyH.cons rfl (fun K hK=>?_) ?_
     ·go_simp
      obtain ⟨x2,ex⟩:∃ x,World.alloc x1 (.cells #[.string KN] 9)=x:=⟨_,rfl⟩
      have qz:Below x1.heap.size x1 x2:=by rw [← ex];exact (Below.refl _ _).alloc (Nat.le_refl _) _
      have hpz:=hid (show At x2 x1.heap.size #[.string KN] 9 by rw [← ex];exact At.new x1 _ _)
      rw [ex]
      obtain ⟨pz,ep⟩:∃ z,x1.heap.size=z:=⟨_,rfl⟩
      have s2:=hid (s1.out.kept qz)
      rw [ep] at hpz ⊢
      clear ex ep qz
      refine hK.out _ _ trivial (fun _=>?_)
      clear hK K
      refine wpAnyH_ready (rs:=[1]) (by kernel_rfl) (by simp) ?_
      refine AllReadyH.cons rfl (fun K hK=>?_) ?_
      ·have t5:x2.cell? ⟨p+1,4,none⟩=some (.slice sk q ck):=s2.out.box.cell 4
       go_simp
       clear t5
       refine hK.out _ _ trivial (fun _=>?_)
       clear hK K
       obtain ⟨nv,y,hrun,hk1,hgr,hap⟩:=(s2.out.obj.1).app hKs.out ⟨pz,0,none⟩ 1 (by simpa [Addr.add] using hpz.out.cell 0) (by rw [List.length_take];omega) s2.out.sz
       obtain ⟨no,nc,rfl⟩:=hk1.shape
       have hrun':=hid hrun
       have fin:=hid (s2.out.key hk1 hgr hap)
       obtain ⟨nn,hnn⟩:∃ n,(List.take q ks++[KN]).length=n:=⟨_,rfl⟩
       rw [hnn] at hrun' fin
       have hbx:=(show At y (p+1) #[.int .i64 6,.bool false,.string ⟨#[]⟩,.string ⟨#[]⟩,.slice sk q ck,.slice so q cp] 59 from (hgr.block (p+1) (by have:=s2.out.sz;omega) (fun e=>by have:=(s2.out.obj.1.blk e.symm).1;omega)).trans s2.out.box)
       have t5:y.cell? ⟨p+1,4,none⟩=some (.slice sk q ck):=hbx.cell 4
       have f5:=hbx.frozen 4
       clear hrun hk1 hgr hap hbx
       refine wpAnyH_ready (rs:=[5]) (by kernel_rfl) (by simp) ?_
       refine AllReadyH.cons rfl (fun K hK=>?_) ?_
       ·rw [if_pos (by rfl)]
        refine wp_append_rowV rfl rfl rfl hrun'.out ?_
        refine hK.out _ _ trivial (fun _=>?_)
        clear hK K
        (refine' wpAnyH_take (i:=6) rfl (by kernel_rfl) (by kernel_rfl) (by kernel_rfl) (fun _ _ _ h=>h) (Or.inl ⟨by rfl,?_⟩) (by assumption) ?_;rotate_left;(· (intro wq hq;(try dsimp only at hq);go_simp;first | done | with_reducible rfl));simp only [psA])
        refine wpAnyH_ready (rs:=[7]) (by kernel_rfl) (by simp) ?_
        refine AllReadyH.cons rfl (fun K hK=>?_) ?_
        ·go_simp
         refine hK.out _ _ trivial (fun _=>?_)
         clear hK K
         refine wpAnyH_done (by kernel_rfl) ?_ _
         refine hKr _ _ ?_
         obtain ⟨z,ez⟩:∃ z,World.setCell y ⟨p+1,4,none⟩ (.slice no nn nc)=z:=⟨_,rfl⟩
         rw [ez] at fin ⊢
         clear ez hrun' t5 f5 s2 hpz hHeld
         have hnn':nn=q+1:=by rw [← hnn,List.length_append,List.length_take,List.length_singleton];have:=hkv'.out;omega
         rw [← htk.out] at fin
         subst hnn'
         clear hnn hquo
         go_wp2
         go_meet
         case rel=>exact ⟨no,nc,fin⟩
        exact AllReadyH.nil
       exact AllReadyH.nil
      exact AllReadyH.nil
     exact AllReadyH.nil
    exact AllReadyH.nil
   case rest =>
    obtain ⟨sk2,ck2,s4⟩:=hcut
    clear s3 hquo hKs
    go_wp2_with fail
    refine Calls.mono (hb2.out _ (hid s4.out.pa)) ?_
    rintro e w3 ⟨rfl,hP1,hF1⟩
    have s5:=hid (s4.out.call hP1 hF1)
    clear hb2 hP1 hF1 s4
    have c1:w3.cell? ⟨b,1,none⟩=some (.int .i64 (dd q:Int)):=s5.out.pa.at_.cell 1
    have g1:=s5.out.pa.at_.frozen 1
    have s6:Hid (CoS b g s p w 6 (dd q+1) (.slice sk2 (q+1) ck2) (.slice so q cp) (ks.take (q+1)) (vs.take q) (w3.setCell ⟨b,1,none⟩ (.int .i64 ((dd q:Int)+1)))):=s5.out.call (s5.out.pa.go ((dd q:Int)+1) (dd q+1) (by omega)) ((PFr.refl b w3).set 1 _)
    go_upto_region 8 with fail
    clear c1 g1 s5
    generalize w3.setCell ⟨b,1,none⟩ (.int .i64 ((dd q:Int)+1))=w4 at s6 ⊢
    refine wp_region_held_drew (S:=fun _=>True) (by kernel_rfl) trivial (fun hHeld=>?_)
    have s0:=hid (s6.out.kept (Below.refl _ _).drew)
    obtain ⟨x0,ex0⟩:∃ x,World.drew w4=x:=⟨_,rfl⟩
    rw [ex0] at s0 ⊢
    clear ex0 s6
    (refine' wpAnyH_take (i:=0) rfl (by kernel_rfl) (by kernel_rfl) (by kernel_rfl) (fun _ _ _ h=>h) (Or.inl ⟨by rfl,?_⟩) (by assumption) ?_;rotate_left;(· (intro wq hq;(try dsimp only at hq);go_simp;first | done | with_reducible rfl));simp only [psA])
    (refine' wpAnyH_take (i:=2) rfl (by kernel_rfl) (by kernel_rfl) (by kernel_rfl) (fun _ _ _ h=>h) (Or.inl ⟨by rfl,?_⟩) (by assumption) ?_;rotate_left;(· (intro wq hq;(try dsimp only at hq);go_simp;first | done | with_reducible rfl));simp only [psA])
    refine wpAnyH_ready (rs:=[1,3]) (by kernel_rfl) (by simp) ?_
    refine AllReadyH.cons rfl (fun K hK=>?_) ?_
    ·have t5:x0.cell? ⟨p+1,5,none⟩=some (.slice so q cp):=s0.out.box.cell 5
     go_simp
     clear t5
     refine hK.out _ _ trivial (fun _=>?_)
     clear hK K
     refine wpAnyH_ready (rs:=[3]) (by kernel_rfl) (by simp) ?_
     refine AllReadyH.cons rfl (fun K hK=>?_) ?_
     ·rw [if_pos (by rfl)]
      go_simp
      refine Calls.mono (hval.out _ (hid s0.out.pa)) ?_
      rintro e x1 ⟨xv,rfl,hV,hP1,hF1⟩
      obtain ⟨ko,kc,vo,vc,rfl⟩:=hV.six
      have hz0:=s0.out.sz
      have V1:=hid (hV.mono (S':=fun c=>p+2≤c∧(Value.slice so q cp).ownBlock≠some c∧(Value.slice sk2 (q+1) ck2).ownBlock≠some c) (fun c _ hc=>⟨Nat.le_trans hz0 hc,fun e=>absurd (s0.out.obj.2.1.blk e).2 (Nat.not_lt.2 hc),fun e=>absurd (s0.out.obj.1.blk e).2 (Nat.not_lt.2 hc)⟩))
      have s1:=hid (s0.out.call hP1 hF1)
      clear hV hP1 hF1 hz0 s0
      refine hK.out _ _ trivial (fun _=>?_)
      clear hK K
      refine wpAnyH_ready (rs:=[4]) (by kernel_rfl) (by simp) ?_
      refine AllReadyH.cons rfl (fun K hK=>?_) ?_
      ·go_simp
       obtain ⟨x2,ex⟩:∃ x,World.alloc x1 (.cells #[.int .i64 u.kind,.bool u.b,.string u.raw,.string u.text,.slice ko u.keys.length kc,.slice vo u.kids.length vc] 59)=x:=⟨_,rfl⟩
       have qz:Below x1.heap.size x1 x2:=by rw [← ex];exact (Below.refl _ _).alloc (Nat.le_refl _) _
       have hpz:=hid (show At x2 x1.heap.size #[.int .i64 u.kind,.bool u.b,.string u.raw,.string u.text,.slice ko u.keys.length kc,.slice vo u.kids.length vc] 59 by rw [← ex];exact At.new x1 _ _)
       rw [ex]
       obtain ⟨pz,ep⟩:∃ z,x1.heap.size=z:=⟨_,rfl⟩
       have s2:=hid (s1.out.kept qz)
       have V2:=hid (V1.out.keptB qz)
       rw [ep] at hpz ⊢
       clear ex ep qz
       refine hK.out _ _ trivial (fun _=>?_)
       clear hK K
       obtain ⟨nv,y,hrun,hk1,hgr,hap⟩:=(s2.out.obj.2.1).app V2.out ⟨pz,0,none⟩ 1 (fun j y hj=>by rw [show (⟨pz,0,none⟩:Addr).add j=⟨pz,j,none⟩ by by_cases h:j=0 <;> simp [Addr.add,h]];rw [hpz.out.cell j];exact hj) (by rw [List.length_take];omega) s2.out.sz
       obtain ⟨no,nc,rfl⟩:=hk1.shape
       have hrun':=hid hrun
       have fin:=hid (s2.out.kid hk1 hgr hap)
       obtain ⟨nn,hnn⟩:∃ n,(List.take q vs++[u]).length=n:=⟨_,rfl⟩
       rw [hnn] at hrun' fin
       have hbx:=(show At y (p+1) #[.int .i64 6,.bool false,.string ⟨#[]⟩,.string ⟨#[]⟩,.slice sk2 (q+1) ck2,.slice so q cp] 59 from (hgr.block (p+1) (by have:=s2.out.sz;omega) (fun e=>by have:=(s2.out.obj.2.1.blk e.symm).1;omega)).trans s2.out.box)
       have t5:y.cell? ⟨p+1,5,none⟩=some (.slice so q cp):=hbx.cell 5
       have f5:=hbx.frozen 5
       clear hrun hk1 hgr hap hbx
       refine wpAnyH_ready (rs:=[5]) (by kernel_rfl) (by simp) ?_
       refine AllReadyH.cons rfl (fun K hK=>?_) ?_
       ·rw [if_pos (by rfl)]
        refine wp_append_rowV rfl rfl rfl hrun'.out ?_
        refine hK.out _ _ trivial (fun _=>?_)
        clear hK K
        (refine' wpAnyH_take (i:=6) rfl (by kernel_rfl) (by kernel_rfl) (by kernel_rfl) (fun _ _ _ h=>h) (Or.inl ⟨by rfl,?_⟩) (by assumption) ?_;rotate_left;(· (intro wq hq;(try dsimp only at hq);go_simp;first | done | with_reducible rfl));simp only [psA])
        refine wpAnyH_ready (rs:=[7]) (by kernel_rfl) (by simp) ?_
        refine AllReadyH.cons rfl (fun K hK=>?_) ?_
        ·go_simp
         refine hK.out _ _ trivial (fun _=>?_)
         clear hK K
         refine wpAnyH_done (by kernel_rfl) ?_ _
         obtain ⟨z,ez⟩:∃ z,World.setCell y ⟨p+1,5,none⟩ (.slice no nn nc)=z:=⟨_,rfl⟩
         rw [ez] at fin ⊢
         clear ez hrun' t5 f5 s2 hpz hHeld V2
         have hnn':nn=q+1:=by rw [← hnn,List.length_append,List.length_take,List.length_singleton];omega
         rw [← hts.out] at fin
         subst hnn'
         have hm2:=hid (fin.out.len)
         clear hnn hval
         refine ⟨⟨_,_,_,_,_,_,_,_,_,_,_,_,_,_,_,_,_,_,_,_,_,_,_,_,_,_,_,⟨q+1,ck2,nc,sk2,no,hlt'.out,fin⟩,rfl⟩,?_⟩
         rw [hm2.out,hm.out]
         have:=hlt'.out
         omega
        exact AllReadyH.nil
       exact AllReadyH.nil
      exact AllReadyH.nil
     exact AllReadyH.nil
    refine AllReadyH.cons rfl (fun K hK=>?_) ?_
    ·rw [if_pos (by rfl)]
     go_simp
     refine Calls.mono (hval.out _ (hid s0.out.pa)) ?_
     rintro e x1 ⟨xv,rfl,hV,hP1,hF1⟩
     obtain ⟨ko,kc,vo,vc,rfl⟩:=hV.six
     have hz0:=s0.out.sz
     have V1:=hid (hV.mono (S':=fun c=>p+2≤c∧(Value.slice so q cp).ownBlock≠some c∧(Value.slice sk2 (q+1) ck2).ownBlock≠some c) (fun c _ hc=>⟨Nat.le_trans hz0 hc,fun e=>absurd (s0.out.obj.2.1.blk e).2 (Nat.not_lt.2 hc),fun e=>absurd (s0.out.obj.1.blk e).2 (Nat.not_lt.2 hc)⟩))
     have s1:=hid (s0.out.call hP1 hF1)
     clear hV hP1 hF1 hz0 s0
     refine hK.out _ _ trivial (fun _=>?_)
     clear hK K
     refine wpAnyH_ready (rs:=[1,4]) (by kernel_rfl) (by simp) ?_
     refine AllReadyH.cons rfl (fun K hK=>?_) ?_
     ·have t5:x1.cell? ⟨p+1,5,none⟩=some (.slice so q cp):=s1.out.box.cell 5
      go_simp
      clear t5
      refine hK.out _ _ trivial (fun _=>?_)
      clear hK K
      refine wpAnyH_ready (rs:=[4]) (by kernel_rfl) (by simp) ?_
      refine AllReadyH.cons rfl (fun K hK=>?_) ?_
      ·go_simp
       obtain ⟨x2,ex⟩:∃ x,World.alloc x1 (.cells #[.int .i64 u.kind,.bool u.b,.string u.raw,.string u.text,.slice ko u.keys.length kc,.slice vo u.kids.length vc] 59)=x:=⟨_,rfl⟩
       have qz:Below x1.heap.size x1 x2:=by rw [← ex];exact (Below.refl _ _).alloc (Nat.le_refl _) _
       have hpz:=hid (show At x2 x1.heap.size #[.int .i64 u.kind,.bool u.b,.string u.raw,.string u.text,.slice ko u.keys.length kc,.slice vo u.kids.length vc] 59 by rw [← ex];exact At.new x1 _ _)
       rw [ex]
       obtain ⟨pz,ep⟩:∃ z,x1.heap.size=z:=⟨_,rfl⟩
       have s2:=hid (s1.out.kept qz)
       have V2:=hid (V1.out.keptB qz)
       rw [ep] at hpz ⊢
       clear ex ep qz
       refine hK.out _ _ trivial (fun _=>?_)
       clear hK K
       obtain ⟨nv,y,hrun,hk1,hgr,hap⟩:=(s2.out.obj.2.1).app V2.out ⟨pz,0,none⟩ 1 (fun j y hj=>by rw [show (⟨pz,0,none⟩:Addr).add j=⟨pz,j,none⟩ by by_cases h:j=0 <;> simp [Addr.add,h]];rw [hpz.out.cell j];exact hj) (by rw [List.length_take];omega) s2.out.sz
       obtain ⟨no,nc,rfl⟩:=hk1.shape
       have hrun':=hid hrun
       have fin:=hid (s2.out.kid hk1 hgr hap)
       obtain ⟨nn,hnn⟩:∃ n,(List.take q vs++[u]).length=n:=⟨_,rfl⟩
       rw [hnn] at hrun' fin
       have hbx:=(show At y (p+1) #[.int .i64 6,.bool false,.string ⟨#[]⟩,.string ⟨#[]⟩,.slice sk2 (q+1) ck2,.slice so q cp] 59 from (hgr.block (p+1) (by have:=s2.out.sz;omega) (fun e=>by have:=(s2.out.obj.2.1.blk e.symm).1;omega)).trans s2.out.box)
       have t5:y.cell? ⟨p+1,5,none⟩=some (.slice so q cp):=hbx.cell 5
       have f5:=hbx.frozen 5
       clear hrun hk1 hgr hap hbx
       refine wpAnyH_ready (rs:=[5]) (by kernel_rfl) (by simp) ?_
       refine AllReadyH.cons rfl (fun K hK=>?_) ?_
       ·rw [if_pos (by rfl)]
        refine wp_append_rowV rfl rfl rfl hrun'.out ?_
        refine hK.out _ _ trivial (fun _=>?_)
        clear hK K
        (refine' wpAnyH_take (i:=6) rfl (by kernel_rfl) (by kernel_rfl) (by kernel_rfl) (fun _ _ _ h=>h) (Or.inl ⟨by rfl,?_⟩) (by assumption) ?_;rotate_left;(· (intro wq hq;(try dsimp only at hq);go_simp;first | done | with_reducible rfl));simp only [psA])
        refine wpAnyH_ready (rs:=[7]) (by kernel_rfl) (by simp) ?_
        refine AllReadyH.cons rfl (fun K hK=>?_) ?_
        ·go_simp
         refine hK.out _ _ trivial (fun _=>?_)
         clear hK K
         refine wpAnyH_done (by kernel_rfl) ?_ _
         obtain ⟨z,ez⟩:∃ z,World.setCell y ⟨p+1,5,none⟩ (.slice no nn nc)=z:=⟨_,rfl⟩
         rw [ez] at fin ⊢
         clear ez hrun' t5 f5 s2 hpz hHeld V2
         have hnn':nn=q+1:=by rw [← hnn,List.length_append,List.length_take,List.length_singleton];omega
         rw [← hts.out] at fin
         subst hnn'
         have hm2:=hid (fin.out.len)
         clear hnn hval
         refine ⟨⟨_,_,_,_,_,_,_,_,_,_,_,_,_,_,_,_,_,_,_,_,_,_,_,_,_,_,_,⟨q+1,ck2,nc,sk2,no,hlt'.out,fin⟩,rfl⟩,?_⟩
         rw [hm2.out,hm.out]
         have:=hlt'.out
         omega
        exact AllReadyH.nil
       exact AllReadyH.nil
      exact AllReadyH.nil
     refine AllReadyH.cons rfl (fun K hK=>?_) ?_
     ·go_simp
      obtain ⟨x2,ex⟩:∃ x,World.alloc x1 (.cells #[.int .i64 u.kind,.bool u.b,.string u.raw,.string u.text,.slice ko u.keys.length kc,.slice vo u.kids.length vc] 59)=x:=⟨_,rfl⟩
      have qz:Below x1.heap.size x1 x2:=by rw [← ex];exact (Below.refl _ _).alloc (Nat.le_refl _) _
      have hpz:=hid (show At x2 x1.heap.size #[.int .i64 u.kind,.bool u.b,.string u.raw,.string u.text,.slice ko u.keys.length kc,.slice vo u.kids.length vc] 59 by rw [← ex];exact At.new x1 _ _)
      rw [ex]
      obtain ⟨pz,ep⟩:∃ z,x1.heap.size=z:=⟨_,rfl⟩
      have s2:=hid (s1.out.kept qz)
      have V2:=hid (V1.out.keptB qz)
      rw [ep] at hpz ⊢
      clear ex ep qz
      refine hK.out _ _ trivial (fun _=>?_)
      clear hK K
      refine wpAnyH_ready (rs:=[1]) (by kernel_rfl) (by simp) ?_
      refine AllReadyH.cons rfl (fun K hK=>?_) ?_
      ·have t5:x2.cell? ⟨p+1,5,none⟩=some (.slice so q cp):=s2.out.box.cell 5
       go_simp
       clear t5
       refine hK.out _ _ trivial (fun _=>?_)
       clear hK K
       obtain ⟨nv,y,hrun,hk1,hgr,hap⟩:=(s2.out.obj.2.1).app V2.out ⟨pz,0,none⟩ 1 (fun j y hj=>by rw [show (⟨pz,0,none⟩:Addr).add j=⟨pz,j,none⟩ by by_cases h:j=0 <;> simp [Addr.add,h]];rw [hpz.out.cell j];exact hj) (by rw [List.length_take];omega) s2.out.sz
       obtain ⟨no,nc,rfl⟩:=hk1.shape
       have hrun':=hid hrun
       have fin:=hid (s2.out.kid hk1 hgr hap)
       obtain ⟨nn,hnn⟩:∃ n,(List.take q vs++[u]).length=n:=⟨_,rfl⟩
       rw [hnn] at hrun' fin
       have hbx:=(show At y (p+1) #[.int .i64 6,.bool false,.string ⟨#[]⟩,.string ⟨#[]⟩,.slice sk2 (q+1) ck2,.slice so q cp] 59 from (hgr.block (p+1) (by have:=s2.out.sz;omega) (fun e=>by have:=(s2.out.obj.2.1.blk e.symm).1;omega)).trans s2.out.box)
       have t5:y.cell? ⟨p+1,5,none⟩=some (.slice so q cp):=hbx.cell 5
       have f5:=hbx.frozen 5
       clear hrun hk1 hgr hap hbx
       refine wpAnyH_ready (rs:=[5]) (by kernel_rfl) (by simp) ?_
       refine AllReadyH.cons rfl (fun K hK=>?_) ?_
       ·rw [if_pos (by rfl)]
        refine wp_append_rowV rfl rfl rfl hrun'.out ?_
        refine hK.out _ _ trivial (fun _=>?_)
        clear hK K
        (refine' wpAnyH_take (i:=6) rfl (by kernel_rfl) (by kernel_rfl) (by kernel_rfl) (fun _ _ _ h=>h) (Or.inl ⟨by rfl,?_⟩) (by assumption) ?_;rotate_left;(· (intro wq hq;(try dsimp only at hq);go_simp;first | done | with_reducible rfl));simp only [psA])
        refine wpAnyH_ready (rs:=[7]) (by kernel_rfl) (by simp) ?_
        refine AllReadyH.cons rfl (fun K hK=>?_) ?_
        ·go_simp
         refine hK.out _ _ trivial (fun _=>?_)
         clear hK K
         refine wpAnyH_done (by kernel_rfl) ?_ _
         obtain ⟨z,ez⟩:∃ z,World.setCell y ⟨p+1,5,none⟩ (.slice no nn nc)=z:=⟨_,rfl⟩
         rw [ez] at fin ⊢
         clear ez hrun' t5 f5 s2 hpz hHeld V2
         have hnn':nn=q+1:=by rw [← hnn,List.length_append,List.length_take,List.length_singleton];omega
         rw [← hts.out] at fin
         subst hnn'
         have hm2:=hid (fin.out.len)
         clear hnn hval
         refine ⟨⟨_,_,_,_,_,_,_,_,_,_,_,_,_,_,_,_,_,_,_,_,_,_,_,_,_,_,_,⟨q+1,ck2,nc,sk2,no,hlt'.out,fin⟩,rfl⟩,?_⟩
         rw [hm2.out,hm.out]
         have:=hlt'.out
         omega
        exact AllReadyH.nil
       exact AllReadyH.nil
      exact AllReadyH.nil
     exact AllReadyH.nil
    exact AllReadyH.nil
end Go.Proofs.YtongedjlmohogaaGreatDoor

namespace Go.Proofs.YtongedjlmohogaaGreatDoor
def NoBad (s:ByteArray):Prop:=∀ k,¬ BadAt s k
theorem read_end_scan (s:ByteArray) (p:Nat):(readS s p).2.1=(scanS s p).2:=by
 unfold readS
 split
 ·rfl
 ·split <;> rfl
theorem step_in {s:ByteArray} (hb:NoBad s) {i:Nat} {m:Mc} (t:Tk s i m) (hw:wholeM m=false):∃ k,stepM m (byteAt s i)=some k:=by
 cases h:stepM m (byteAt s i) with
 | none=>exact absurd (t.fail hw h) (hb i)
 | some k=>exact ⟨k,rfl⟩
theorem qe_ex {s:ByteArray} (hb:NoBad s) {nm:Bool} {op:List Nat}:∀ (n p:Nat) (m:Mc),s.size-p≤n→Tk s p m→(m.st=6∨m.st=8)→m.nm=nm→m.op=op→∃ e k,QE s p e∧Tk s (e+1) k∧k.op=op∧k.st=if nm then 4 else 5:=by
 intro n
 induction n with
 | zero =>
  intro p m hn t hst hnm hop
  exfalso
  obtain ⟨k,hk⟩:=step_in hb t (whole_not (by omega) (by omega) (by omega) (by omega) (by omega))
  rw [byteAt_out s p (by omega)] at hk
  rcases hst with h | h
  ·rw [step_text h] at hk
   have hlo:=t.lo h
   unfold charM at hk
   repeat' split at hk
   all_goals first | (cases hk;done) | omega
  ·rw [step_esc (.inr h)] at hk
   unfold escM at hk
   rw [if_pos h,if_neg (by decide)] at hk
   cases hk
 | succ n ih =>
  intro p m hn t hst hnm hop
  obtain ⟨k,hk⟩:=step_in hb t (whole_not (by omega) (by omega) (by omega) (by omega) (by omega))
  have hlo:=t.lo
  have hp:p<s.size:=by
   rcases Nat.lt_or_ge p s.size with h | h
   ·exact h
   ·exfalso
    rw [byteAt_out s p h] at hk
    rcases hst with h | h
    ·rw [step_text h] at hk
     have hlo':=hlo h
     unfold charM at hk
     repeat' split at hk
     all_goals first | (cases hk;done) | omega
    ·rw [step_esc (.inr h)] at hk
     unfold escM at hk
     rw [if_pos h,if_neg (by decide)] at hk
     cases hk
  have tk:=t.next hp hk
  rcases hst with h | h
  ·by_cases h34:byteAt s p=34∧m.lf=0
   ·obtain ⟨k',t',o',s'⟩:=InT.done (nm:=nm) (op:=op) t ⟨h,h34.2,hnm,hop⟩ h34.1
    exact ⟨p,k',.stop p hp h34.1,t',o',s'⟩
   ·by_cases h92:byteAt s p=92∧m.lf=0
    ·obtain ⟨k',t',hE⟩:=InT.slash (nm:=nm) (op:=op) t ⟨h,h92.2,hnm,hop⟩ h92.1
     have hEst:=hE.st
     obtain ⟨k2,hk2⟩:=step_in hb t' (whole_not (by omega) (by omega) (by omega) (by omega) (by omega))
     have hk2':=hk2
     rw [step_esc (.inl hE.st)] at hk2
     unfold escM at hk2
     rw [if_neg (by omega)] at hk2
     have hp1:p+1<s.size:=by
      rcases Nat.lt_or_ge (p+1) s.size with x | x
      ·exact x
      ·exfalso
       rw [byteAt_out s _ x] at hk2
       simp at hk2
     have t2:=t'.next hp1 hk2'
     have hst2:(k2.st=6∨k2.st=8)∧k2.nm=nm∧k2.op=op:=by
      split at hk2
      ·injection hk2 with hk2;subst hk2;exact ⟨.inl rfl,hE.nm,hE.op⟩
      ·split at hk2
       ·injection hk2 with hk2;subst hk2;exact ⟨.inr rfl,hE.nm,hE.op⟩
       ·cases hk2
     obtain ⟨e,k3,q1,q2,q3,q4⟩:=ih (p+2) k2 (by omega) t2 hst2.1 hst2.2.1 hst2.2.2
     exact ⟨e,k3,.esc p e hp h92.1 q1,q2,q3,q4⟩
    ·have hks:k.st=6∧k.nm=nm∧k.op=op∧byteAt s p≠34∧byteAt s p≠92:=by
      rw [step_text h] at hk
      unfold charM at hk
      have hlo':=hlo h
      by_cases hlf:0<m.lf
      ·rw [if_pos hlf] at hk
       split at hk
       ·cases hk
       ·rename_i hr
        injection hk with hk
        subst hk
        have:=hlo' hlf
        exact ⟨h,hnm,hop,by omega,by omega⟩
      ·have n34:byteAt s p≠34:=fun e=>h34 ⟨e,by omega⟩
       have n92:byteAt s p≠92:=fun e=>h92 ⟨e,by omega⟩
       rw [if_neg hlf,if_neg (by omega),if_neg n34,if_neg n92] at hk
       refine ⟨?_,?_,?_,n34,n92⟩
       all_goals
        repeat' split at hk
        all_goals first
         | (cases hk;done)
         | (injection hk with hk;subst hk;first | exact h | exact hnm | exact hop)
     obtain ⟨e,k3,q1,q2,q3,q4⟩:=ih (p+1) k (by omega) tk (.inl hks.1) hks.2.1 hks.2.2.1
     exact ⟨e,k3,.step p e hp hks.2.2.2.1 hks.2.2.2.2 q1,q2,q3,q4⟩
  ·rw [step_esc (.inr h)] at hk
   unfold escM at hk
   rw [if_pos h] at hk
   split at hk
   ·rename_i hx
    injection hk with hk
    have hx':=of_decide_eq_true hx
    have hks:(k.st=6∨k.st=8)∧k.nm=nm∧k.op=op:=by
     subst hk
     refine ⟨?_,hnm,hop⟩
     show (if m.lf=1 then 6 else 8)=6∨(if m.lf=1 then 6 else 8)=8
     split
     ·exact .inl rfl
     ·exact .inr rfl
    obtain ⟨e,k3,q1,q2,q3,q4⟩:=ih (p+1) k (by omega) tk hks.1 hks.2.1 hks.2.2
    exact ⟨e,k3,.step p e hp (by omega) (by omega) q1,q2,q3,q4⟩
   ·cases hk
theorem txt_ex {s:ByteArray} (hb:NoBad s) {nm:Bool} {i:Nat} {m:Mc} (t:Tk s i m) (h:Qw s i nm m):∃ T j k,Txt s i j T∧Tk s j k∧k.op=m.op∧k.st=if nm then 4 else 5:=by
 have hc:byteAt s i=34:=by
  by_cases hc:byteAt s i=34
  ·exact hc
  ·exact absurd (h.off t hc) (hb i)
 obtain ⟨k,t',hI⟩:=h.go t hc
 obtain ⟨e,k',q1,q2,q3,q4⟩:=qe_ex hb (nm:=nm) (op:=m.op) _ (i+1) k (Nat.le_refl _) t' (.inl hI.st) hI.nm hI.op
 exact ⟨_,e+1,k',⟨hc,e,q1,rfl,rfl⟩,q2,q3,q4⟩
theorem word_ex {s:ByteArray} (hb:NoBad s) {i:Nat} {m:Mc} (t:Tk s i m) (hv:Vw s i m) {u:List Nat} (hu:IsWord u) (hc:byteAt s i=u.getD 0 0):∃ k,Tk s (i+u.length) k∧k.op=m.op∧k.st=5:=by
 have key:∀ j,j≤u.length→∃ k,Tk s (i+j) k∧InW u j m k:=by
  intro j
  induction j with
  | zero=>exact fun _=>⟨m,t,.inl ⟨rfl,rfl⟩⟩
  | succ j ih =>
   intro hj
   obtain ⟨k,t',h'⟩:=ih (by omega)
   by_cases hx:byteAt s (i+j)=u.getD j 0
   ·exact InW.go hu hv h' t' (by omega) hx
   ·exfalso
    by_cases hj0:j=0
    ·subst hj0;exact hx hc
    ·exact hb _ (InW.off (by omega) h' t' (by omega) hx)
 obtain ⟨k,t',h'⟩:=key u.length (Nat.le_refl _)
 obtain ⟨h1,h2⟩:=h'.done hu t'
 exact ⟨k,t',h1,h2⟩
end Go.Proofs.YtongedjlmohogaaGreatDoor

namespace Go.Proofs.YtongedjlmohogaaGreatDoor
def push0 (x:Nat) (f:Nat→Nat):Nat→Nat
 | 0=>x
 | q+1=>f q
theorem skip_self {s:ByteArray} {j:Nat} (h:j≤s.size) (hb:blankN (byteAt s j)=false):IsSkip s j j:=⟨Nat.le_refl _,h,fun q a b=>by omega,.inr hb⟩
def ValEx (s:ByteArray) (i:Nat):Prop:=∀ (j:Nat) (m:Mc),i<j→Tk s j m→Vw s j m→blankN (byteAt s j)=false→∃ t e k,PV s j t e∧Tk s e k∧Bhd s e k∧k.op=m.op∧j<e
theorem arr_ex {s:ByteArray} (hb:NoBad s) {i:Nat} (hi:ValEx s i) {op:List Nat}:∀ (n p:Nat) (m:Mc),s.size-p≤n→i<p→Tk s p m→(m.st=1∨Bhd s p m)→m.op=op++[91]→blankN (byteAt s p)=false →
  ∃ (vs:List Vt) (a b c:Nat→Nat) (k:Mc),a 0=p∧(∀ q,q<vs.length→byteAt s (a q)≠93∧a q<s.size∧IsSkip s (if byteAt s (a q)=44 then a q+1 else a q) (b q)∧b q<s.size) ∧
   (∀ (q:Nat) (u:Vt),vs[q]? = some u→PV s (b q) u (c q))∧(∀ q,q<vs.length→IsSkip s (c q) (a (q+1)))∧byteAt s (a vs.length)=93∧a vs.length<s.size∧Tk s (a vs.length+1) k∧k.op=op∧k.st=5∧p≤a vs.length:=by
 intro n
 induction n with
 | zero =>
  intro p m hn hp t hst ho hbl
  exfalso
  have hps:s.size≤p:=by omega
  have h0:byteAt s p=0:=byteAt_out s p hps
  rcases hst with h | h
  ·obtain ⟨k,hk⟩:=step_in hb t (whole_open (by rw [ho];simp))
   rw [step_value (.inr ⟨h,by omega,hbl⟩) hbl,h0] at hk
   unfold valueM at hk
   simp [digN] at hk
  ·exact hb p (comma_off t h ho hbl (by omega) (by omega))
 | succ n ih =>
  intro p m hn hp t hst ho hbl
  by_cases h93:byteAt s p=93
  ·obtain ⟨k,t',o',s'⟩:=Cw.shut t (hst.elim .inl (fun h=>.inr (.inr h))) ho h93
   exact ⟨[],fun _=>p,fun _=>p,fun _=>p,k,rfl,fun q h=>by simp at h,fun q u h=>by simp at h,fun q h=>by simp at h,h93,(show p<s.size from byteAt_in (by omega)),t',o',s',Nat.le_refl _⟩
  ·-- where the value begins
   have hbeg:∃ b k0,IsSkip s (if byteAt s p=44 then p+1 else p) b∧Tk s b k0∧Vw s b k0∧k0.op=m.op∧i<b∧blankN (byteAt s b)=false:=by
    rcases hst with h | h
    ·have n44:byteAt s p≠44:=fun e=>by
      obtain ⟨k,hk⟩:=step_in hb t (whole_open (by rw [ho];simp))
      rw [step_value (.inr ⟨h,h93,hbl⟩) hbl,e] at hk
      unfold valueM at hk
      simp [digN] at hk
     rw [if_neg n44]
     exact ⟨p,m,skip_self t.1 hbl,t,.inr ⟨h,h93,hbl⟩,rfl,hp,hbl⟩
    ·have e44:byteAt s p=44:=by
      by_cases e:byteAt s p=44
      ·exact e
      ·exact absurd (comma_off t h ho hbl (by omega) e) (hb p)
     rw [if_pos e44]
     obtain ⟨k,t',o',s'⟩:=comma_tk t h ho e44
     rw [if_pos rfl] at s'
     obtain ⟨b,hsk⟩:=skip_ex s _ (p+1) (Nat.le_refl _) t'.1
     obtain ⟨t2,-⟩:=t'.skip (by omega) hsk
     exact ⟨b,k,hsk,t2,.inl s',o',by have:=hsk.1;omega,skip_not hsk⟩
   obtain ⟨b0,k0,hsk,t0,v0,o0,hib,hbl0⟩:=hbeg
   obtain ⟨u0,e0,k1,hPV,t1,hB1,o1,hlt⟩:=hi b0 k0 hib t0 v0 hbl0
   obtain ⟨p',hsk'⟩:=skip_ex s _ e0 (Nat.le_refl _) t1.1
   obtain ⟨k2,t2,hB2,o2,-⟩:=t1.skipB hB1 hsk'
   have hle:=hPV.le
   have hb1:=hsk.1
   have hb2:=hsk'.1
   have hpb:p≤b0:=by split at hb1 <;> omega
   obtain ⟨vs,a,b,c,k,ha,hq,hv,hs,he,hne,tk,ok,sk,hpa⟩:=ih p' k2 (by omega) (by omega) t2 (.inr hB2) (by rw [o2,o1,o0,ho]) (skip_not hsk')
   refine ⟨u0 :: vs,push0 p a,push0 b0 b,push0 e0 c,k,rfl,fun q hqq=>?_,fun q u hu=>?_,fun q hqq=>?_,he,hne,tk,ok,sk,(show p≤a vs.length by omega)⟩
   ·cases q with
    | zero=>exact ⟨h93,by show p<s.size;omega,hsk,hle.1⟩
    | succ q=>exact hq q (by simpa using hqq)
   ·cases q with
    | zero=>simp at hu;subst hu;exact hPV
    | succ q=>exact hv q u (by simpa using hu)
   ·cases q with
    | zero =>
     show IsSkip s e0 (a 0)
     rw [ha]
     exact hsk'
    | succ q=>exact hs q (by simpa using hqq)
theorem obj_ex {s:ByteArray} (hb:NoBad s) {i:Nat} (hi:ValEx s i) {op:List Nat}:∀ (n p:Nat) (m:Mc),s.size-p≤n→i<p→Tk s p m→(m.st=2∨Bhd s p m)→m.op=op++[123]→blankN (byteAt s p)=false →
  ∃ (ks:List ByteArray) (vs:List Vt) (a nn mm d b c:Nat→Nat) (k:Mc),ks.length=vs.length∧a 0=p∧(∀ q,q<vs.length→byteAt s (a q)≠125∧a q<s.size∧IsSkip s (if byteAt s (a q)=44 then a q+1 else a q) (nn q)∧nn q<s.size∧IsSkip s (mm q) (d q)∧d q<s.size∧IsSkip s (d q+1) (b q)∧b q<s.size) ∧
   (∀ (q:Nat) (K:ByteArray),ks[q]? = some K→Txt s (nn q) (mm q) K) ∧
   (∀ (q:Nat) (u:Vt),vs[q]? = some u→PV s (b q) u (c q))∧(∀ q,q<vs.length→IsSkip s (c q) (a (q+1)))∧byteAt s (a vs.length)=125∧a vs.length<s.size∧Tk s (a vs.length+1) k∧k.op=op∧k.st=5∧p≤a vs.length:=by
 intro n
 induction n with
 | zero =>
  intro p m hn hp t hst ho hbl
  exfalso
  have hps:s.size≤p:=by omega
  have h0:byteAt s p=0:=byteAt_out s p hps
  rcases hst with h | h
  ·have hq:=qw_name t (.inr ⟨h,by omega⟩) hbl
   exact hb p (hq.off t (by omega))
  ·exact hb p (comma_off t h ho hbl (by omega) (by omega))
 | succ n ih =>
  intro p m hn hp t hst ho hbl
  by_cases h125:byteAt s p=125
  ·obtain ⟨k,t',o',s'⟩:=Cw.shut t (hst.elim (fun h=>.inr (.inl h)) (fun h=>.inr (.inr h))) ho h125
   exact ⟨[],[],fun _=>p,fun _=>p,fun _=>p,fun _=>p,fun _=>p,fun _=>p,k,rfl,rfl,fun q h=>by simp at h,fun q u h=>by simp at h,fun q u h=>by simp at h,fun q h=>by simp at h,h125,(show p<s.size from byteAt_in (by omega)),t',o',s',Nat.le_refl _⟩
  ·have hbeg:∃ b k0,IsSkip s (if byteAt s p=44 then p+1 else p) b∧Tk s b k0∧Qw s b true k0∧k0.op=m.op∧i<b:=by
    rcases hst with h | h
    ·have hq:=qw_name t (.inr ⟨h,h125⟩) hbl
     have n44:byteAt s p≠44:=fun e=>hb p (hq.off t (by omega))
     rw [if_neg n44]
     exact ⟨p,m,skip_self t.1 hbl,t,hq,rfl,hp⟩
    ·have e44:byteAt s p=44:=by
      by_cases e:byteAt s p=44
      ·exact e
      ·exact absurd (comma_off t h ho hbl (by omega) e) (hb p)
     rw [if_pos e44]
     obtain ⟨k,t',o',s'⟩:=comma_tk t h ho e44
     rw [if_neg (by decide)] at s'
     obtain ⟨b,hsk⟩:=skip_ex s _ (p+1) (Nat.le_refl _) t'.1
     obtain ⟨t2,-⟩:=t'.skip (by omega) hsk
     exact ⟨b,k,hsk,t2,qw_name t2 (.inl s') (skip_not hsk),o',by have:=hsk.1;omega⟩
   obtain ⟨n0,k0,hsk,t0,hq0,o0,hib⟩:=hbeg
   obtain ⟨K0,m0,k1,hT,t1,o1,s1⟩:=txt_ex hb t0 hq0
   have s1':k1.st=4:=by simpa using s1
   obtain ⟨d0,hskd⟩:=skip_ex s _ m0 (Nat.le_refl _) t1.1
   obtain ⟨t2,-⟩:=t1.skip (by omega) hskd
   have h58:byteAt s d0=58:=by
    by_cases e:byteAt s d0=58
    ·exact e
    ·exact absurd (colon_off t2 s1' (skip_not hskd) e) (hb d0)
   obtain ⟨k2,t3,o3,s3⟩:=colon_tk t2 s1' h58
   obtain ⟨b0,hskb⟩:=skip_ex s _ (d0+1) (Nat.le_refl _) t3.1
   obtain ⟨t4,-⟩:=t3.skip (by omega) hskb
   have hTl:=hT.le
   have hb1:=hsk.1
   have hb2:=hskd.1
   have hb3:=hskb.1
   obtain ⟨u0,e0,k3,hPV,t5,hB5,o5,hlt⟩:=hi b0 k2 (by omega) t4 (.inl s3) (skip_not hskb)
   obtain ⟨p',hsk'⟩:=skip_ex s _ e0 (Nat.le_refl _) t5.1
   obtain ⟨k6,t6,hB6,o6,-⟩:=t5.skipB hB5 hsk'
   have hle:=hPV.le
   have hb4:=hsk'.1
   have hpn:p≤n0:=by split at hb1 <;> omega
   obtain ⟨ks,vs,a,nn,mm,d,b,c,k,hkv,ha,hq,hk,hv,hs,he,hne,tk,ok,sk,hpa⟩:=ih p' k6 (by omega) (by omega) t6 (.inr hB6) (by rw [o6,o5,o3,o1,o0,ho]) (skip_not hsk')
   refine ⟨K0 :: ks,u0 :: vs,push0 p a,push0 n0 nn,push0 m0 mm,push0 d0 d,push0 b0 b,push0 e0 c,k,by simp [hkv],rfl,fun q hqq=>?_,fun q K hK=>?_,fun q u hu=>?_,fun q hqq=>?_,he,hne,tk,ok,sk,(show p≤a vs.length by omega)⟩
   ·cases q with
    | zero=>exact ⟨h125,by show p<s.size;omega,hsk,hTl.1,hskd,(show d0<s.size from byteAt_in (by omega)),hskb,hle.1⟩
    | succ q=>exact hq q (by simpa using hqq)
   ·cases q with
    | zero=>simp at hK;subst hK;exact hT
    | succ q=>exact hk q K (by simpa using hK)
   ·cases q with
    | zero=>simp at hu;subst hu;exact hPV
    | succ q=>exact hv q u (by simpa using hu)
   ·cases q with
    | zero =>
     show IsSkip s e0 (a 0)
     rw [ha]
     exact hsk'
    | succ q=>exact hs q (by simpa using hqq)
theorem pv_ex {s:ByteArray} (hb:NoBad s):∀ (n i:Nat) (m:Mc),s.size-i≤n→Tk s i m→Vw s i m→blankN (byteAt s i)=false→∃ t j k,PV s i t j∧Tk s j k∧Bhd s j k∧k.op=m.op∧i<j:=by
 intro n
 induction n with
 | zero =>
  intro i m hn t hv hbl
  exfalso
  obtain ⟨k,hk⟩:=step_in hb t hv.whole
  rw [step_value hv hbl,byteAt_out s i (by omega)] at hk
  unfold valueM at hk
  simp [digN] at hk
 | succ n ih =>
  intro i m hn t hv hbl
  have hi:ValEx s i:=fun j k h1 h2 h3 h4=>ih j k (by omega) h2 h3 h4
  by_cases c1:byteAt s i=110
  ·obtain ⟨k,t',o',s'⟩:=word_ex hb t hv (u:=[110,117,108,108]) (.inl rfl) c1
   exact ⟨_,_,k,.null i c1 t'.1,t',bhd_five s',o',by simp⟩
  by_cases c2:byteAt s i=116
  ·obtain ⟨k,t',o',s'⟩:=word_ex hb t hv (u:=[116,114,117,101]) (.inr (.inl rfl)) c2
   exact ⟨_,_,k,.yes i c2 t'.1,t',bhd_five s',o',by simp⟩
  by_cases c3:byteAt s i=102
  ·obtain ⟨k,t',o',s'⟩:=word_ex hb t hv (u:=[102,97,108,115,101]) (.inr (.inr rfl)) c3
   exact ⟨_,_,k,.no i c3 t'.1,t',bhd_five s',o',by simp⟩
  by_cases c4:byteAt s i=34
  ·obtain ⟨T,j,k,hT,t',o',s'⟩:=txt_ex hb t (qw_value t hv c4)
   have:=hT.le
   exact ⟨_,j,k,.text i j T hT,t',bhd_five (by simpa using s'),o',by omega⟩
  by_cases c5:byteAt s i=91
  ·obtain ⟨k,t',o',s'⟩:=open_tk t hv (.inl c5)
   rw [if_pos c5] at s'
   rw [c5] at o'
   obtain ⟨p,hsk⟩:=skip_ex s _ (i+1) (Nat.le_refl _) t'.1
   obtain ⟨t2,-⟩:=t'.skip (by omega) hsk
   have hp:=hsk.1
   obtain ⟨vs,a,b,c,k3,ha,hq,hvv,hs,he,hne,tk,ok,sk,hpa⟩:=arr_ex hb hi _ p k (Nat.le_refl _) (by omega) t2 (.inl s') o' (skip_not hsk)
   have hPV:=PV.arr i vs a b c c5 (by rw [ha];exact hsk) hq hvv hs he hne
   exact ⟨_,_,k3,hPV,tk,bhd_five sk,ok,by omega⟩
  by_cases c6:byteAt s i=123
  ·obtain ⟨k,t',o',s'⟩:=open_tk t hv (.inr c6)
   rw [if_neg (by omega)] at s'
   rw [c6] at o'
   obtain ⟨p,hsk⟩:=skip_ex s _ (i+1) (Nat.le_refl _) t'.1
   obtain ⟨t2,-⟩:=t'.skip (by omega) hsk
   have hp:=hsk.1
   obtain ⟨ks,vs,a,nn,mm,d,b,c,k3,hkv,ha,hq,hk,hvv,hs,he,hne,tk,ok,sk,hpa⟩:=obj_ex hb hi _ p k (Nat.le_refl _) (by omega) t2 (.inl s') o' (skip_not hsk)
   have hPV:=PV.obj i ks vs hkv a nn mm d b c c6 (by rw [ha];exact hsk) hq hk hvv hs he hne
   exact ⟨_,_,k3,hPV,tk,bhd_five sk,ok,by omega⟩
  ·rcases num_tk t hv hbl ⟨c5,c6,c4,c1,c2,c3⟩ with ⟨-,h⟩ | ⟨-,h1,-,k,h2,h3,h4⟩
   ·exact absurd h (hb _)
   ·have hre:=read_end_scan s i
    exact ⟨_,_,k,.num i _ (by have:=h2.1;omega) ⟨c5,c6,c4,c1,c2,c3⟩ hre (by omega) h2.1,h2,h4,h3,h1⟩
theorem doc_pv {s:ByteArray} (h:docM (byts s)):∃ i t j,IsSkip s 0 i∧PV s i t j:=by
 have hb:NoBad s:=fun k hk=>bad_doc hk h
 obtain ⟨i,hsk⟩:=skip_ex s _ 0 (Nat.le_refl _) (Nat.zero_le _)
 obtain ⟨t2,-⟩:=(tk0 s).skip (by decide) hsk
 obtain ⟨t,j,k,hPV,-⟩:=pv_ex hb _ i mc0 (Nat.le_refl _) t2 (.inl rfl) (skip_not hsk)
 exact ⟨i,t,j,hsk,hPV⟩
end Go.Proofs.YtongedjlmohogaaGreatDoor

/- What the reference of documents answers of a byte. -/
namespace Go.Proofs.YtongedjlmohogaaGreatDoor
open Go.RowKit Go.Shelf
end Go.Proofs.YtongedjlmohogaaGreatDoor
/- What the reference's machine does with a byte behind a backslash. -/
namespace Go.Proofs.YtongedjlmohogaaGreatDoor
open Go.RowKit Go.Shelf
end Go.Proofs.YtongedjlmohogaaGreatDoor
/- What the reference's machine does with a byte within a text. -/
namespace Go.Proofs.YtongedjlmohogaaGreatDoor
open Go.RowKit Go.Shelf
end Go.Proofs.YtongedjlmohogaaGreatDoor
/- What the reference's machine does with a byte within a text,put together. -/
namespace Go.Proofs.YtongedjlmohogaaGreatDoor
open Go.RowKit Go.Shelf
end Go.Proofs.YtongedjlmohogaaGreatDoor
/- The reference's machine in memory;which bracket was opened last. -/
namespace Go.Proofs.YtongedjlmohogaaGreatDoor
open Go.RowKit Go.Shelf
def opC (l:List Nat):List Value:=l.map fun n=>.int .u8 ((n:Nat):Int)
theorem opC_app (a b:List Nat):opC (a++b)=opC a++opC b:=by simp [opC]
structure BelX (o:Option Nat) (b:Nat) (w w':World):Prop where
 os:w'.os=w.os
 tape:w'.tape=w.tape
 output:w'.output=w.output
 size:w.heap.size≤w'.heap.size
 block:∀ k,k<w.heap.size→k≠b→some k≠o→w'.heap[k]? = w.heap[k]?
theorem BelX.refl (o:Option Nat) (b:Nat) (w:World):BelX o b w w:=⟨rfl,rfl,rfl,Nat.le_refl _,fun _ _ _ _=>rfl⟩
theorem BelX.trans {o:Option Nat} {b:Nat} {x y z:World} (h:BelX o b x y) (k:BelX o b y z):BelX o b x z :=
 ⟨k.os.trans h.os,k.tape.trans h.tape,k.output.trans h.output,Nat.le_trans h.size k.size,fun i hi hb ho=>(k.block i (by have:=h.size;omega) hb ho).trans (h.block i hi hb ho)⟩
theorem BelX.of_only {o:Option Nat} {b:Nat} {w w':World} (h:Only b w w'):BelX o b w w':=⟨h.1.os,h.1.tape,h.1.output,h.1.size,fun k _ hk _=>h.2.2 k hk⟩
theorem BelX.of_below {o:Option Nat} {b:Nat} {w w':World} (h:Below w.heap.size w w'):BelX o b w w':=⟨h.os,h.tape,h.output,h.size,fun k hk _ _=>h.block k hk⟩
theorem BelX.of_grown {o:Option Nat} {b:Nat} {w w':World} (h:w.grownBy w' o):BelX o b w w' :=
 ⟨h.os,h.tape,h.output,h.size,fun k hk _ ho=>h.block k hk ho⟩
theorem own_only {B b n:Nat} {v:Value} {xs:List Value} {w w':World} (h:w.ownsRow B 5 1 v n xs) (hb:b<B) (ho:Only b w w'):w'.ownsRow B 5 1 v n xs :=
 h.kept (row:=some b) ⟨ho.1.os,ho.1.tape,ho.1.output,ho.1.size,fun k _ hk=>ho.2.2 k (fun e=>hk (by rw [e]))⟩ (by
  cases hv:v.ownBlock with
  | none=>exact .inl rfl
  | some g=>exact .inr (fun e=>by have:=(h.lt g hv).1;injection e with e;omega))
theorem own_below {B n:Nat} {v:Value} {xs:List Value} {w w':World} (h:w.ownsRow B 5 1 v n xs) (hb:Below w.heap.size w w'):w'.ownsRow B 5 1 v n xs :=
 h.kept (row:=none) ⟨hb.os,hb.tape,hb.output,hb.size,fun k hk _=>hb.block k hk⟩ (by cases v.ownBlock <;> simp)
end Go.Proofs.YtongedjlmohogaaGreatDoor
