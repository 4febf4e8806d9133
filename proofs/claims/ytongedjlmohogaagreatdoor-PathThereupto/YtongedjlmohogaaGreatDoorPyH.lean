import Derived.Test.YtongedjlmohogaaGreatDoorPack7
import Derived.Test.YtongedjlmohogaaGreatDoorPyG
import Derived.Test.YtongedjlmohogaaGreatDoorPack19
import Derived.Test.YtongedjlmohogaaGreatDoorPack21
import Derived.Deep.RegionHeld
import Derived.Test.YtongedjlmohogaaGreatDoorPack1
import Derived.Test.YtongedjlmohogaaGreatDoorPack12
import Derived.Test.YtongedjlmohogaaGreatDoorPwF
import Derived.Test.YtongedjlmohogaaGreatDoorPack22
namespace Go.Proofs.YtongedjlmohogaaGreatDoor
open Go.RowKit Go.Shelf
attribute [local go_sem] Oper.semAt_some
def KpX (S K:Nat→Prop) (c:Nat) (W W':World):Prop:=W.heap.size≤W'.heap.size∧∀ k o,(S k∨(K k∧k<c))→W.heap[k]? = some o→W'.heap[k]? = some o
theorem KpX.trans {S K:Nat→Prop} {c:Nat} {X Y Z:World} (h:KpX S K c X Y) (h':KpX S K c Y Z):KpX S K c X Z:=⟨Nat.le_trans h.1 h'.1,fun k o hk ho=>h'.2 k o hk (h.2 k o hk ho)⟩
theorem KpX.below {S K:Nat→Prop} {c:Nat} {X Y:World} (h:Below X.heap.size X Y):KpX S K c X Y:=⟨h.size,fun k _ _ ho=>(h.block k (Array.getElem?_eq_some_iff.1 ho).1).trans ho⟩
theorem KpX.sameS {S K:Nat→Prop} {c:Nat} {W W':World} (h:KpX S K c W W'):SameOn S W W':=⟨h.1,fun b hb hl=>by
 have e:W.heap[b]? = some W.heap[b]:=Array.getElem?_eq_getElem hl
 rw [h.2 b _ (.inl hb) e,e]⟩
def offP (ss:List Stp) (way:List (List UInt8)) (P:List (List UInt8 × Vt)) (r:Nat):Nat:=((P.take r).flatMap (fun x=>fdP ss x.2 (way++[x.1]))).length
theorem flat_get {α β:Type} (f:α→List β):∀ (P:List α) (r:Nat) (x:α) (j:Nat) (z:β),P[r]? = some x→(f x)[j]? = some z→(P.flatMap f)[((P.take r).flatMap f).length+j]? = some z
 | [],r,x,j,z,h,_=>by simp at h
 | a :: P,0,x,j,z,h,hz=>by
  simp at h
  subst h
  rw [List.take_zero,List.flatMap_nil,List.length_nil,Nat.zero_add,List.flatMap_cons,List.getElem?_append_left (List.getElem?_eq_some_iff.1 hz).1]
  exact hz
 | a :: P,r+1,x,j,z,h,hz=>by
  rw [List.take_succ_cons,List.flatMap_cons,List.flatMap_cons,List.length_append,List.getElem?_append_right (by omega),show (f a).length+((P.take r).flatMap f).length+j-(f a).length=((P.take r).flatMap f).length+j by omega]
  exact flat_get f P r x j z (by simpa using h) hz
theorem offP_succ {ss:List Stp} {way:List (List UInt8)} {P:List (List UInt8 × Vt)} {r:Nat} {x:List UInt8 × Vt} (h:P[r]? = some x):offP ss way P (r+1)=offP ss way P r+(fdP ss x.2 (way++[x.1])).length:=by
 unfold offP
 rw [List.take_add_one,h]
 simp
theorem offP_all {ss:List Stp} {way:List (List UInt8)} {P:List (List UInt8 × Vt)}:offP ss way P P.length=(P.flatMap (fun x=>fdP ss x.2 (way++[x.1]))).length:=by
 unfold offP
 rw [List.take_length]
def OuI (J:Nat→World→Prop) (g cap:Nat) (way:List (List UInt8)) (S:Nat→Prop) (W0:World) (y Bs Bw:Nat) (yv sv wv:Value) (off:Nat→Nat) (h:Nat) (r:Nat) (A:World):Prop :=
 (J (off r) A∧At A y #[yv] 79∧At A Bs #[sv] 82∧At A Bw #[wv] 56∧GRow A g cap way∧SameOn S W0 A)∧h≤A.heap.size
theorem ouI_free {J:Nat→World→Prop} {g cap n B:Nat} {way:List (List UInt8)} {S:Nat→Prop} {W0:World} {y Bs Bw:Nat} {yv sv wv:Value} {off:Nat→Nat} {h:Nat} (hJ:RFree (RelG g n B) J) (hB:B≤h) (hg:g<h) (hy:y<h) (hs:Bs<h) (hw:Bw<h) (h0:W0.heap.size≤h) :
  BFree h (OuI J g cap way S W0 y Bs Bw yv sv wv off h):=fun r X Y ⟨⟨a1,a2,a3,a4,a5,a6⟩,a7⟩ hb =>
 ⟨⟨hJ _ _ _ a1 (RelG.below hb hB hg),(hb.block _ hy).trans a2,(hb.block _ hs).trans a3,(hb.block _ hw).trans a4,a5.rel (RelG.below (B:=0) hb (Nat.zero_le _) hg),⟨Nat.le_trans a6.1 hb.size,fun q hq hl=>(hb.block q (by omega)).trans (a6.2 q hq hl)⟩⟩,Nat.le_trans a7 hb.size⟩
def OuY (S:Nat→Prop) (P:List (List UInt8 × Vt)) (h r c:Nat) (y:List UInt8 × Nat × Array Value) (A:World):Prop:=∃ t,P[r]? = some (y.1,t)∧h≤y.2.1∧c≤y.2.1∧At A y.2.1 y.2.2 59∧ValOn S A t (.agg y.2.2)
theorem valOn_own {S:Nat→Prop} {B:Nat} {W W':World} {t:Vt} {v:Value} {row:Option Nat} (h:ValOn S W t v) (hg:W.grownBy W' row) (hr:∀ r,row=some r→B≤r∧∃ o:Obj,W.heap[r]? = some o∧o.isCells=false):ValOn S W' t v:=by
 induction h with
 | mk k b r t ks vs ko kc vo vc X hw hz hk hrw hv ih =>
  refine .mk k b r t ks vs ko kc vo vc X hw hz (fun i s hi=>?_) (fun i hi=>?_) ih
  ·obtain ⟨h0,g,off,h1,hS,h2,h3⟩:=hk i s hi
   exact ⟨h0,g,off,h1,hS,Nat.lt_of_lt_of_le h2 hg.size,cell_ownB h2 h3 hg hr⟩
  ·obtain ⟨h0,g,off,h1,hS,h2,h3⟩:=hrw i hi
   refine ⟨h0,g,off,h1,hS,Nat.lt_of_lt_of_le h2 hg.size,fun j hj=>?_⟩
   have hx:(X i)[j]? = some (X i)[j]:=Array.getElem?_eq_getElem (by rw [h0];exact hj)
   rw [hx]
   exact cell_ownB h2 ((h3 j hj).trans hx) hg hr
theorem ouY_own {S:Nat→Prop} {P:List (List UInt8 × Vt)} {h B:Nat} (r c:Nat) (y:List UInt8 × Nat × Array Value):OwnFrom B (fun (_:Unit) W=>OuY S P h r c y W):=fun _ _ _ _ ⟨t,h1,h2,h3,h4,h5⟩ hg hr=>⟨t,h1,h2,h3,h4.ownB hg hr,valOn_own h5 hg hr⟩
def OuX (Jx:Nat→World→Prop) (n h:Nat) (c:Code) (_:Nat) (A:World):Prop:=(c = .ret∧∃ r',r'≤n∧Jx r' A)∧h≤A.heap.size
theorem ouX_free {Jx:Nat→World→Prop} {g n B m h:Nat} (hJ:RFree (RelG g n B) Jx) (hB:B≤h) (hg:g<h) (c:Code):BFree h (OuX Jx m h c):=fun _ _ _ ⟨⟨a1,r',a2,a3⟩,a4⟩ hb=>⟨⟨a1,r',a2,hJ _ _ _ a3 (RelG.below hb hB hg)⟩,Nat.le_trans a4 hb.size⟩
def InI (J:Nat→World→Prop) (g cap:Nat) (way:List (List UInt8)) (S S':Nat→Prop) (W0 A0:World) (y Bs Bw:Nat) (yv sv wv:Value) (o hb c h:Nat) (r:Nat) (A:World):Prop :=
 (J (o+r) A∧At A y #[yv] 79∧At A Bs #[sv] 82∧At A Bw #[wv] 56∧GRow A g cap way∧SameOn S W0 A∧(∀ k ob,(S' k∨(hb≤k∧k<c))→A0.heap[k]? = some ob→A.heap[k]? = some ob)∧KeepsFrom hb A0 A)∧h≤A.heap.size
theorem inI_free {J:Nat→World→Prop} {g cap n n2 B:Nat} {way:List (List UInt8)} {S S':Nat→Prop} {W0 A0:World} {y Bs Bw:Nat} {yv sv wv:Value} {o hb c h:Nat} (hn:way.length=n2) (hnn:n≤n2) (hJ:RFree (RelG g n B) J) (hB:B≤h) (hy:y<h∧y≠g) (hs:Bs<h∧Bs≠g) (hw:Bw<h∧Bw≠g) (h0:W0.heap.size≤h) (hA:A0.heap.size≤h) (hSg:¬ S g) (hSg':¬ S' g) (hbg:g<hb) :
  RFree (RelG g n2 h) (InI J g cap way S S' W0 A0 y Bs Bw yv sv wv o hb c h):=fun r X Y ⟨⟨a1,a2,a3,a4,a5,a6,a7,a8⟩,a9⟩ hr=>by
 have lt:∀ {k:Nat} {ob:Obj},A0.heap[k]? = some ob→k<h:=fun hk=>Nat.lt_of_lt_of_le (Array.getElem?_eq_some_iff.1 hk).1 hA
 refine ⟨⟨hJ _ _ _ a1 (hr.mono hnn hB),(hr.2.1 _ hy.1 hy.2).trans a2,(hr.2.1 _ hs.1 hs.2).trans a3,(hr.2.1 _ hw.1 hw.2).trans a4,a5.rel (hr.mono (by omega) (Nat.le_refl _)),⟨Nat.le_trans a6.1 hr.1,fun q hq hl=>(hr.2.1 q (by omega) (fun e=>hSg (e ▸ hq))).trans (a6.2 q hq hl)⟩,fun k ob hk ho=>?_,⟨Nat.le_trans a8.size hr.1,fun k ob hk ho hc=>?_⟩⟩,Nat.le_trans a9 hr.1⟩
 ·refine (hr.2.1 k (lt ho) (fun e=>?_)).trans (a7 k ob hk ho)
  subst e
  rcases hk with hk | hk
  ·exact hSg' hk
  ·omega
 ·exact (hr.2.1 k (lt ho) (fun e=>by omega)).trans (a8.same k ob hk ho hc)
def InX (Jx:Nat→World→Prop) (n:Nat) (S':Nat→Prop) (A0:World) (hb c h:Nat) (cd:Code) (_:Nat) (A:World):Prop :=
 ((cd = .ret∧∃ r',r'≤n∧Jx r' A)∧(∀ k ob,(S' k∨(hb≤k∧k<c))→A0.heap[k]? = some ob→A.heap[k]? = some ob)∧KeepsFrom hb A0 A)∧h≤A.heap.size
theorem inX_free {Jx:Nat→World→Prop} {g n n2 B m:Nat} {S':Nat→Prop} {A0:World} {hb c h:Nat} (hnn:n≤n2) (hJ:RFree (RelG g n B) Jx) (hB:B≤h) (hA:A0.heap.size≤h) (hSg':¬ S' g) (hbg:g<hb) (cd:Code):RFree (RelG g n2 h) (InX Jx m S' A0 hb c h cd):=fun r X Y ⟨⟨⟨a1,r',a2,a3⟩,a7,a8⟩,a9⟩ hr=>by
 have lt:∀ {k:Nat} {ob:Obj},A0.heap[k]? = some ob→k<h:=fun hk=>Nat.lt_of_lt_of_le (Array.getElem?_eq_some_iff.1 hk).1 hA
 refine ⟨⟨⟨a1,r',a2,hJ _ _ _ a3 (hr.mono hnn hB)⟩,fun k ob hk ho=>?_,⟨Nat.le_trans a8.size hr.1,fun k ob hk ho hc=>?_⟩⟩,Nat.le_trans a9 hr.1⟩
 ·refine (hr.2.1 k (lt ho) (fun e=>?_)).trans (a7 k ob hk ho)
  subst e
  rcases hk with hk | hk
  ·exact hSg' hk
  ·omega
 ·exact (hr.2.1 k (lt ho) (fun e=>by omega)).trans (a8.same k ob hk ho hc)
def InY (L:List (List UInt8 × Vt)) (h r c:Nat) (y:List UInt8 × Nat × Array Value) (A:World):Prop:=∃ t,L[r]? = some (y.1,t)∧h≤c∧c≤A.heap.size∧At A y.2.1 y.2.2 59∧ValOn (fun k=>c≤k) A t (.agg y.2.2)
theorem inY_own {L:List (List UInt8 × Vt)} {h B:Nat} (r c:Nat) (y:List UInt8 × Nat × Array Value):OwnFrom B (fun (_:Unit) W=>InY L h r c y W):=fun _ _ _ _ ⟨t,h1,h2,h3,h4,h5⟩ hg hr=>⟨t,h1,h2,Nat.le_trans h3 hg.size,h4.ownB hg hr,valOn_own h5 hg hr⟩
theorem GRow.pop {W:World} {g cap:Nat} {way:List (List UInt8)} {x:List UInt8} (h:GRow W g cap (way++[x])):GRow W g cap way:=by
 obtain ⟨h1,h2 | ⟨g',cap',cur,h3,h4,h5,h6,h7,h8,h9⟩⟩:=h
 ·cases h2.1
 ·simp only [Value.slice.injEq,Option.some.injEq,Addr.mk.injEq,and_true,true_and] at h3
  obtain ⟨rfl,rfl⟩:=h3
  rw [List.length_append] at h6
  refine ⟨by simp,.inr ⟨g,cap,cur,rfl,h4,h5,by omega,h7,h8,?_⟩⟩
  rw [Nat.mul_one] at h9 ⊢
  have:=congrArg (List.take way.length) h9
  have e2:((way++[x]).map fun x=>Value.string (mkL x)).take way.length=way.map fun x=>Value.string (mkL x):=by
   rw [List.map_append,List.take_append_of_le_length (by simp),List.take_of_length_le (by simp)]
  rw [e2,List.take_take,Nat.min_eq_left (by simp)] at this
  exact this
def InG (T:Array Value) (y:List UInt8 × Nat × Array Value):Act :=
 { tmps:=(((T.setIfInBounds 39 (.string (mkL y.1))).setIfInBounds 40 (.agg y.2.2)).setIfInBounds 9 (.string (mkL y.1))).setIfInBounds 10 (.pointer (some ⟨y.2.1,0,none⟩)),defers:=[] }
def OuG (T:Array Value) (y:List UInt8 × Nat × Array Value):Act :=
 { tmps:=(((T.setIfInBounds 29 (.string (mkL y.1))).setIfInBounds 30 (.agg y.2.2)).setIfInBounds 7 (.string (mkL y.1))).setIfInBounds 8 (.pointer (some ⟨y.2.1,0,none⟩)),defers:=[] }
theorem steps_slice (S:Nat→Prop) (w:World) (so:Option Addr) (s0:Stp) (ss:List Stp) (n sc:Nat) (hn:ss.length=n) (hc:n+1≤sc) (h:StsOn S w so (s0 :: ss)) :
  ∃ so',(∀ u,(Instr.slice 82 (.slice so (n+1) sc) (some (.int .i64 1)) none none).run Tryz.prog u = .ok (.slice so' n (sc-1)) u)∧∀ u,SameOn S w u→StsOn S u so' ss:=by
 obtain ⟨b,off,rfl,hS,hb,hcl⟩:=h 0 s0 rfl
 have hrun:∀ u,(Instr.slice 82 (.slice (some ⟨b,off,none⟩) (n+1) sc) (some (.int .i64 1)) none none).run Tryz.prog u = .ok (.slice (if sc=1 then some ⟨b,off,none⟩ else some ⟨b,off+1,none⟩) n (sc-1)) u:=fun u=>by
  have hsz:(sizeOf (Tryz.prog.elem 82)).run Tryz.prog u = .ok 1 u:=by kernel_rfl
  rw [run_slice_l (P:=Tryz.prog) u 82 (some ⟨b,off,none⟩) (n+1) sc (by kernel_rfl) .i64 1 (by omega) (by omega),hsz]
  by_cases h1:sc=1
  ·simp [Result.andThen,sliced,h1]
  ·simp [Result.andThen,sliced,h1,Addr.add]
 refine ⟨_,hrun,fun u hu i s hi=>?_⟩
 obtain ⟨b',off',e,h1,h2,h3⟩:=h (i+1) s hi
 injection e with e
 injection e with e1 e2
 subst e1 e2
 have hsc:sc≠1:=by
  have:i<ss.length:=(List.getElem?_eq_some_iff.1 hi).1
  omega
 rw [if_neg hsc]
 refine ⟨b,off+1,rfl,h1,Nat.lt_of_lt_of_le h2 hu.1,?_⟩
 rw [show off+1+i=off+(i+1) by omega]
 exact (cell_same (hu.2 b h1 h2)).trans h3
theorem wfP_kind {k:Int} {b:Bool} {r t:ByteArray} {ks:List ByteArray} {vs:List Vt} {l:Int} (h:wfV (.mk k b r t ks vs) l=true):(k=6→ks.length=vs.length)∧(¬ (k=5∨k=6)→vs.length=0)∧((k=5∨k=6)→l≠0)∧wfL vs (l-1)=true:=by
 obtain ⟨h1,h2,h3⟩:=wf_parts h
 refine ⟨fun hk=>?_,fun hk=>plain_kids h1 hk,h2,h3⟩
 subst hk
 unfold plainV at h1
 rw [if_neg (by decide),if_neg (by decide),if_neg (by decide),if_neg (by decide),if_neg (by decide),if_pos rfl] at h1
 simp only [Bool.and_eq_true,decide_eq_true_eq] at h1
 exact h1.2.2.2.2
theorem wfP_get:∀ {vs:List Vt} {l:Int} {u:Vt},wfL vs l=true→u ∈ vs→wfV u l=true
 | [],l,u,_,h=>by simp at h
 | v :: vs,l,u,hw,h=>by
  unfold wfL at hw
  simp only [Bool.and_eq_true] at hw
  rcases List.mem_cons.1 h with rfl | h
  ·exact hw.1
  ·exact wfP_get hw.2 h
theorem tk_name {s:Stp} {k:Int} {b:Bool} {rr tx:ByteArray} {ks:List ByteArray} {vs:List Vt} {x:List UInt8 × Vt} (h:x ∈ tkL s (.mk k b rr tx ks vs)) (hok:okP (.mk k b rr tx ks vs)):x.1.length≤2147483640:=by
 unfold okP at hok
 by_cases h6:k=6
 ·rw [show tkL s (.mk k b rr tx ks vs)=mbT s ks vs ks.length by unfold tkL;exact if_pos h6] at h
  obtain ⟨i,key,-,h2,h3,h4⟩:=mbT_mem _ _ _ _ _ h
  rcases hok.1 i (List.getElem?_eq_some_iff.1 h4).1 with h5 | ⟨-,s',h5,h7⟩
  ·omega
  ·rw [h2] at h5
   cases h5
   rw [h3]
   simpa using h7
 ·rw [show tkL s (.mk k b rr tx ks vs)=elT s vs vs.length by unfold tkL;exact if_neg h6] at h
  obtain ⟨i,h1,h2,-⟩:=elT_mem _ _ _ _ h
  rw [h2,itoa_nat]
  have h3:=hok.2.1
  have:=dec_len 12 i (by have:(10:Nat) ^ (12+1)=10000000000000:=(by decide);omega)
  omega
theorem GRow.le {W:World} {g cap:Nat} {way:List (List UInt8)} (h:GRow W g cap way):way.length≤cap:=by
 obtain ⟨h1,h2 | ⟨g',cap',cur,h3,h4,h5,h6,h7⟩⟩:=h
 ·cases h2.1
 ·simp only [Value.slice.injEq,Option.some.injEq,Addr.mk.injEq,and_true,true_and] at h3
  obtain ⟨rfl,rfl⟩:=h3
  exact h6
set_option maxRecDepth 10000 in
set_option maxHeartbeats 16000000 in
theorem found1_ex (S:Nat→Prop) (g cap:Nat) (hSg:¬ S g) (hcap:cap≤1024) :
  ∀ (ss:List Stp),(∀ s ∈ ss,okS s)→∀ (t:Vt) (d:Int),0≤d→d≤1024→wfV t d=true→lnV t→okP t →
  ∀ (way:List (List UInt8)) (n:Nat),way.length=n→(∀ a ∈ way,a.length≤2147483640)→(n+ss.length≤cap∨(n:Int)+d≤cap)→(∀ x ∈ fdP ss t way,x.1.length≤140737488355328) →
  ∀ (K:Nat→Prop) (B nn l:Nat) (J Jx:Nat→World→Prop),3*ss.length+1≤nn→RFree (RelG g n B) J→RFree (RelG g n B) Jx→(∀ r A,J r A→GdP A) →
  (∀ r c x W1,J r W1→r<(fdP ss t way).length→TellP (fdP ss t way) B r c x W1→YieldAt Fence.wide (nn-1) Tryz.prog l x W1 fun e W' =>
   (e = .returned (.bool true)∧J (r+1) W'∧KpX S K c W1 W')∨(e = .returned (.bool false)∧Jx (r+1) W'∧KpX S K c W1 W')) →
  ∀ (so:Option Addr) (sc Bs Bv Bw:Nat) (va:Value) (W:World),(∀ k,B≤k→K k)→(∀ k,S k→k<B)→B≤W.heap.size→K Bs→K Bw→K g→Bs≠g→Bw≠g→ss.length≤sc→J 0 W →
  At W Bs #[.slice so ss.length sc] 82→At W Bv va.cells 59→At W Bw #[.slice (some ⟨g,0,none⟩) n cap] 56→GRow W g cap way→ValOn S W t va→StsOn S W so ss →
  CallsIn Fence.wide nn Tryz.prog 74 #[.func (.yield l) #[] #[],.pointer (some ⟨Bs,0,none⟩),.pointer (some ⟨Bv,0,none⟩),.pointer (some ⟨Bw,0,none⟩)] W fun e W'=>(∃ v,e = .returned v)∧(J (fdP ss t way).length W'∨∃ r',r'≤(fdP ss t way).length∧Jx r' W'):=by
 intro ss
 induction ss with
 | nil =>
  intro hss t d hd0 hd1 hwf hln hok way n hn hwe hcp hLl K B nn l J Jx hnn hJ hJx hGd hY so sc Bs Bv Bw va W hKB hSB hB hKs hKw hKg hns hnw hsc hJ0 hs hv hw hg hV hS
  obtain ⟨k1,b1,r1,t1,ko1,N1,kc1,vo1,M1,vc1,rfl⟩:=hV.at.lets
  have hnc:=hg.le
  refine found1_nil (KpX S K) B nn l J Jx [(wrL way,t)] hGd hY t (wf_up t d 1024 hd0 hd1 hwf) hln k1 b1 r1 t1 ko1 N1 kc1 vo1 M1 vc1 way n hn (by omega) hwe (hLl (wrL way,t) (by simp [fdP])) so sc g cap Bs Bv Bw 0 W ?_ hB hJ0 hs hv hw hg hV.at rfl
  intro s X Y hX hJs hb
  exact hJ s X Y hJs (RelG.below hb hB hg.lt)
 | cons s0 ss ih =>
  intro hss t d hd0 hd1 hwf hln hok way n hn hwe hcp hLl K B nn l J Jx hnn hJ hJx hGd hY so sc Bs Bv Bw va W hKB hSB hB hKs hKw hKg hns hnw hsc hJ0 hs hv hw hg hV hS
  have hV0:=hid hV
  cases hV with
  | mk k b rr tx ks vs ko kc vo vc X hwk hz hk hr hv' =>
  obtain ⟨tt,vv,hfv⟩:=(hss s0 (by simp)).iface
  obtain ⟨P,hP⟩:∃ P,Hid (tkL s0 (.mk k b rr tx ks vs)=P):=⟨_,rfl⟩
  obtain ⟨m,hm⟩:∃ m,Hid (ss.length=m):=⟨_,rfl⟩
  have hL:Hid (fdP (s0 :: ss) (.mk k b rr tx ks vs) way=P.flatMap (fun x=>fdP ss x.2 (way++[x.1]))):=hid (by rw [← hP.out];rfl)
  have hglt:=hid hg.lt
  obtain ⟨so2,hsl,hS2⟩:=steps_slice S W so s0 ss m sc hm.out (by rw [List.length_cons,hm.out] at hsc;exact hsc) hS
  obtain ⟨gs,off,rfl,hSs,hgs,hcs⟩:=hS 0 s0 rfl
  rw [Nat.add_zero,hfv] at hcs
  rw [List.length_cons,hm.out] at hs hsc
  obtain ⟨n1,hn1⟩:∃ n1,Hid (m+1=n1):=⟨_,rfl⟩
  rw [hn1.out] at hs hsl hsc
  have hn1p:(0:Int)<(n1:Int):=by have:=hn1.out;omega
  have hn1q:0<n1:=by have:=hn1.out;omega
  have b0:((n1:Int) == 0)=false:=beq_eq_false_iff_ne.2 (by omega)
  have htk:=hid (taken_seq S (nn-1) s0 (hss s0 (by simp)) k b rr tx ks vs (fun h6=>(wfP_kind hwf).1 h6) ko kc vo vc)
  rw [hfv,hP.out] at htk
  obtain ⟨N,hN⟩:∃ N,Hid (ks.length=N):=⟨_,rfl⟩
  obtain ⟨M,hM⟩:∃ M,Hid (vs.length=M):=⟨_,rfl⟩
  rw [hN.out,hM.out] at hV0 hv htk
  have q4:=hid (show Below W.heap.size W (W.alloc (.cells #[.func (.yield l) #[] #[]] 79)) from (Below.refl _ W).alloc (Nat.le_refl _) _)
  have q4d:=hid (show Below W.heap.size W (W.alloc (.cells #[.func (.yield l) #[] #[]] 79)).drew from q4.out.drew)
  have Y4:=hid (At.new W #[.func (.yield l) #[] #[]] 79).drew
  have S4:=hid (hs.keptAll q4d.out)
  have V4:=hid (hv.keptAll q4d.out)
  have W4:=hid (hw.keptAll q4d.out)
  have G4:=hid (hg.rel (RelG.below (B:=0) q4d.out (Nat.zero_le _) hg.lt))
  have X4:=hid (hV0.out.keptB q4d.out)
  have c4:=hid (show (W.alloc (.cells #[.func (.yield l) #[] #[]] 79)).drew.cell? ⟨gs,off,none⟩=some (.iface tt vv) from (cell_same (q4d.out.block gs hgs)).trans hcs)
  have J4:=hid (hJ 0 W _ hJ0 (RelG.below q4d.out hB hg.lt))
  have s4:Hid ((W.alloc (.cells #[.func (.yield l) #[] #[]] 79)).drew.heap.size=W.heap.size+1):=hid (World.size_alloc _ _)
  have c1:(W.alloc (.cells #[.func (.yield l) #[] #[]] 79)).cell? ⟨Bs,0,none⟩=some (.slice (some ⟨gs,off,none⟩) n1 sc):=S4.out.cell 0
  have ih':=hid ih
  have hJ':=hid hJ
  have hJx':=hid hJx
  have hGd':=hid hGd
  have hY':=hid hY
  have hLl':=hid hLl
  have hcp':=hid hcp
  have hwe':=hid hwe
  have hss':=hid hss
  have hwf':=hid hwf
  have hln':=hid hln
  have hok':=hid hok
  have hsl':=hid hsl
  have hS2':=hid hS2
  have hKB':=hid hKB
  have hSB':=hid hSB
  clear ih hJ hJx hGd hY hLl hcp hwe hss hwf hln hok hsl hS2 hKB hSB hs hv hw hg hS hJ0 hk hr hv' hz hwk hcs
  have ad0:(⟨gs,off,none⟩:Addr).add 0=⟨gs,off,none⟩:=by simp [Addr.add]
  refine callsIn_of_wp_marks Tryz.func74 rfl trivial ?_ rfl
  simp only [Tryz.ntmps74,List.size_toArray,List.length_cons,List.length_nil,Nat.reduceAdd,Nat.reduceSub,Array.replicate_succ,Array.replicate_zero,List.push_toArray,List.append_toArray,List.nil_append,List.cons_append]
  gi_wp2_with fail
  refine wpIn_wide.2 ?_
  refine wp_onlyN ?_
  rename_i Kr hKr
  refine wp_region_held_drew (S:=fun A=>At A Bv #[.int .i64 k,.bool b,.string rr,.string tx,.slice ko N kc,.slice vo M vc] 59∧A.cell? ⟨Bs,0,none⟩=some (.slice (some ⟨gs,off,none⟩) n1 sc)∧A.cell? ⟨gs,off,none⟩=some (.iface tt vv)) (by kernel_rfl) ⟨V4.out,S4.out.cell 0,c4.out⟩ (fun hH=>?_)
  (refine wpAnyH_take (i:=0) (v:=.agg [.int .i64 k,.bool b,.string rr,.string tx,.slice ko N kc,.slice vo M vc].toArray) rfl (by kernel_rfl) (by kernel_rfl) (by kernel_rfl) (fun _ _ _ h=>h) (yieldsIf_load_mid (by rfl) 59 _ rfl (Bv) 0 rfl [.int .i64 k,.bool b,.string rr,.string tx,.slice ko N kc,.slice vo M vc] _ (fun wq hq=>hq.1.range rfl) Tryz.underlying59 rfl sizeVl) (by assumption) ?_;simp only [psA])
  (refine' wpAnyH_take (i:=1) rfl (by kernel_rfl) (by kernel_rfl) (by kernel_rfl) (fun _ _ _ h=>h) (Or.inl ⟨by rfl,?_⟩) (by assumption) ?_;rotate_left;(· (intro wq hq;(try dsimp only at hq);go_simp;first | done | with_reducible rfl));simp only [psA])
  (refine' wpAnyH_take (i:=2) rfl (by kernel_rfl) (by kernel_rfl) (by kernel_rfl) (fun _ _ _ h=>h) (Or.inl ⟨by rfl,?_⟩) (by assumption) ?_;rotate_left;(· (intro wq hq;(try dsimp only at hq);go_simp;first | done | with_reducible rfl));simp only [psA])
  (refine' wpAnyH_take (i:=3) rfl (by kernel_rfl) (by kernel_rfl) (by kernel_rfl) (fun _ _ _ h=>h) (Or.inl ⟨by rfl,?_⟩) (by assumption) ?_;rotate_left;(· (intro wq hq;(try dsimp only at hq);go_simp;first | done | with_reducible rfl));simp only [psA])
  refine wpAnyH_ready (rs:=[4]) (by kernel_rfl) (by simp) ?_
  refine AllReadyH.cons rfl (fun K hK=>?_) ?_
  ·rw [if_pos (by rfl)]
   go_simp
   refine Calls.mono (htk.out _ X4.out) ?_
   rintro e w5 ⟨gf,Bv2,Bx2,rfl,hb2,heg,hseq,b5⟩
   refine hK.out _ _ ⟨V4.out.keptAll b5,((S4.out.keptAll b5).cell 0),(cell_same (b5.block gs (Nat.lt_of_lt_of_le hgs q4d.out.size))).trans c4.out⟩ (fun _=>?_)
   clear hK K
   refine wpAnyH_done (by kernel_rfl) ?_ _
   refine hKr _ _ ?_
   have hseq':=hid hseq
   have hb2':=hid hb2
   have heg':=hid heg
   have Y5:=hid (Y4.out.keptAll b5)
   have S5:=hid (S4.out.keptAll b5)
   have W5:=hid (W4.out.keptAll b5)
   have G5:=hid (G4.out.rel (RelG.below (B:=0) b5 (Nat.zero_le _) G4.out.lt))
   have q5:=hid (q4d.out.trans (b5.mono q4d.out.size))
   have J5:=hid (hJ'.out 0 _ _ J4.out (RelG.below (b5.mono (show W.heap.size+1≤_ by rw [s4.out];exact Nat.le_refl _)) (by omega) (by have:=hglt.out;omega)))
   have b5s:=hid b5.size
   clear hseq heg Y4 S4 V4 W4 G4 X4 c4 J4 b5 htk hH q4 q4d c1 hb2 ad0 b0 hn1p hKr
   gi_wp2_with fail
   have hwl:=hid (show W.heap.size+1≤w5.heap.size from by have:=q5.out.size;have:=b5s.out;have:=s4.out;omega)
   have hB5:B≤w5.heap.size:=by have:=hwl.out;omega
   have hg5:g<w5.heap.size:=by have:=hglt.out;have:=hwl.out;omega
   have hy5:W.heap.size<w5.heap.size:=hwl.out
   have hfree:=hid (ouI_free (cap:=cap) (way:=way) (S:=S) (W0:=W) (yv:=.func (.yield l) #[] #[]) (sv:=.slice (some ⟨gs,off,none⟩) n1 sc) (wv:=.slice (some ⟨g,0,none⟩) n cap) (off:=offP ss way P) hJ'.out hB5 hg5 hy5 S5.out.lt W5.out.lt q5.out.size)
   have hfreeX:=hid (fun c=>ouX_free (m:=(fdP (s0 :: ss) (.mk k b rr tx ks vs) way).length) hJx'.out hB5 hg5 c)
   refine range_tellY (n:=nn) (by omega) (gf:=gf) (lb:=#[.pointer (some ⟨Bv2,0,none⟩),.pointer (some ⟨Bx2,0,none⟩)]) rfl heg'.out hseq'.out (Below.refl _ _) ?ps KpC.trans ?kl
    (OuI J g cap way S W W.heap.size Bs Bw (.func (.yield l) #[] #[]) (.slice (some ⟨gs,off,none⟩) n1 sc) (.slice (some ⟨g,0,none⟩) n cap) (offP ss way P) w5.heap.size) (OuX Jx (fdP (s0 :: ss) (.mk k b rr tx ks vs) way).length w5.heap.size)
    hfree.out hfreeX.out (fun r A h=>h.2) (fun c r A h=>h.2)
    ⟨⟨J5.out,Y5.out,S5.out,W5.out,G5.out,SameOn.below q5.out⟩,Nat.le_refl _⟩ (fun r A h=>hGd'.out _ _ h.1.1) (OuY S P w5.heap.size) OuG ?own ?assign ?body ?done ?stop
   case ps =>
    rintro b r c x A ⟨p,t,v,-,rfl,-⟩
    rfl
   case kl =>
    intro c A l' r r' h1 h2 h3
    refine ⟨by simp,fun q o hq ho=>(World.putObj_heap_other (fun e=>?_)).trans ho⟩
    subst e
    have hb:=hb2'.out
    rcases hq with (hq | hq | hq) | hq
    ·have:=hSB'.out q hq
     omega
    ·omega
    ·omega
    ·omega
   case own=>exact fun r c y=>ouY_own r c y
   case assign =>
    intro l' r c x A Kc hlt hI hE hK
    obtain ⟨p,t,v,hLr,rfl,hbc,hce,hv⟩:=hE
    obtain ⟨k5,b5,r5,t5,ko5,N5,kc5,vo5,M5,vc5,rfl⟩:=hv.at.lets
    have hb:Below A.heap.size A (A.alloc (.cells #[.int .i64 k5,.bool b5,.string r5,.string t5,.slice ko5 N5 kc5,.slice vo5 M5 vc5] 59)):=(Below.refl _ _).alloc (Nat.le_refl _) _
    have hK2:=hK (p,A.heap.size,#[.int .i64 k5,.bool b5,.string r5,.string t5,.slice ko5 N5 kc5,.slice vo5 M5 vc5]) (A.alloc (.cells #[.int .i64 k5,.bool b5,.string r5,.string t5,.slice ko5 N5 kc5,.slice vo5 M5 vc5] 59)) ((keeps_below hb).from _) (KpS.c (KpS.below hb)) (hfree.out r _ _ hI (hb.mono hI.2)) ⟨t,hLr,hI.2,Nat.le_of_eq hce,At.new _ _ _,hv.keptB hb⟩
    simp only [OuG,List.setIfInBounds_toArray,List.set_cons_zero,List.set_cons_succ] at hK2
    clear hK hI hv hb
    gi_wp2
    exact hK2
   case body =>
    rintro l' r c ⟨p,q,c5⟩ A hll ⟨rl,hrl⟩ hlt hI ⟨u,hPr,hq,hcq,hQ,hVu⟩
    dsimp only at hPr hq hcq hQ hVu
    obtain ⟨k5,b5,r5,t5,ko5,N5,kc5,vo5,M5,vc5,he⟩:=hVu.at.lets
    injection he with he
    subst he
    obtain ⟨⟨jA,yA,sA,wA,gA,mA⟩,hA5⟩:=hI
    simp only [OuG,List.setIfInBounds_toArray,List.set_cons_zero,List.set_cons_succ]
    have hmem:(p,u) ∈ tkL s0 (.mk k b rr tx ks vs):=by rw [hP.out];exact List.mem_of_getElem? hPr
    have hkid:u ∈ vs:=tkL_mem hmem
    obtain ⟨iu,hiu⟩:=List.mem_iff_getElem?.1 hkid
    have hpl:=hid (tk_name hmem hok'.out)
    obtain ⟨-,wk2,wk3,wk4⟩:=wfP_kind hwf'.out
    have hvs:vs.length≠0:=by have:=(List.getElem?_eq_some_iff.1 hiu).1;omega
    have hk56:k=5∨k=6:=by
     by_cases h:k=5∨k=6
     ·exact h
     ·exact absurd (wk2 h) hvs
    have hd3:0≤d-1∧d-1≤1024:=by have:=wk3 hk56;omega
    have hd3':=hid hd3
    have hwu:=hid (wfP_get wk4 hkid)
    have hlu:=hid (lnL_get (show lnL vs by have:=hln'.out;unfold lnV at this;exact this.2.2) hiu)
    have hou:=hid (okPL_get (show okPL vs by have:=hok'.out;unfold okP at this;exact this.2.2) hiu)
    have hcpx:n+(m+1)≤cap∨(n:Int)+d≤cap:=by have:=hcp'.out;rw [List.length_cons,hm.out] at this;exact this
    have hncap:way.length<cap:=by rw [hn];omega
    have hcp2:=hid (show n+1+ss.length≤cap∨((n+1:Nat):Int)+(d-1)≤cap by rw [hm.out];omega)
    have hPr':=hid hPr
    clear hmem hkid hiu wk2 wk3 wk4 hvs hk56 hcpx hd3 hPr
    have hslu:=hsl'.out
    have bd:=hid (show Below A.heap.size A A.drew from (Below.refl _ _).drew)
    have jD:=hid (hJ'.out _ _ _ jA (RelG.below (bd.out.mono hA5) hB5 hg5))
    have gD:=hid (gA.rel (RelG.below (B:=0) (bd.out) (Nat.zero_le _) gA.lt))
    have mD:=hid (show SameOn S W A.drew from ⟨mA.1,fun x hx hl=>mA.2 x hx hl⟩)
    have yD:=hid yA.drew
    have sD:=hid sA.drew
    have wD:=hid wA.drew
    have qD:=hid hQ.drew
    have vD:=hid (hVu.keptB bd.out)
    have hA5':=hid hA5
    have hrl':=hid hrl
    have hcq':=hid hcq
    have hq':=hid hq
    clear jA yA sA wA gA mA hQ hVu bd hrl hA5 hcq hq
    gi_wp2_with fail
    refine wpIn_region_round (S:=fun A'=>At A' q #[.int .i64 k5,.bool b5,.string r5,.string t5,.slice ko5 N5 kc5,.slice vo5 M5 vc5] 59∧A'.cell? ⟨Bs,0,none⟩=some (.slice (some ⟨gs,off,none⟩) n1 sc)∧A'.cell? ⟨Bw,0,none⟩=some (.slice (some ⟨g,0,none⟩) n cap)) (by kernel_rfl) (by kernel_rfl) (fun _ _ h=>h) ⟨qD.out,sD.out.cell 0,wD.out.cell 0⟩ (fun hH=>?_)
    (refine wpAnyH_take (i:=0) (v:=.agg [.int .i64 k5,.bool b5,.string r5,.string t5,.slice ko5 N5 kc5,.slice vo5 M5 vc5].toArray) rfl (by kernel_rfl) (by kernel_rfl) (by kernel_rfl) (fun _ _ _ h=>h) (yieldsIf_load_mid (by rfl) 59 _ rfl (q) 0 rfl [.int .i64 k5,.bool b5,.string r5,.string t5,.slice ko5 N5 kc5,.slice vo5 M5 vc5] _ (fun wq hq=>hq.1.range rfl) Tryz.underlying59 rfl sizeVl) (by assumption) ?_;simp only [psA])
    (refine' wpAnyH_take (i:=1) rfl (by kernel_rfl) (by kernel_rfl) (by kernel_rfl) (fun _ _ _ h=>h) (Or.inl ⟨by rfl,?_⟩) (by assumption) ?_;rotate_left;(· (intro wq hq;(try dsimp only at hq);go_simp;first | done | with_reducible rfl));simp only [psA])
    (refine' wpAnyH_take (i:=2) rfl (by kernel_rfl) (by kernel_rfl) (by kernel_rfl) (fun _ _ _ h=>h) (Or.inl ⟨by rfl,?_⟩) (by assumption) ?_;rotate_left;(· (intro wq hq;(try dsimp only at hq);go_simp;first | done | with_reducible rfl));simp only [psA])
    (refine' wpAnyH_take (i:=3) rfl (by kernel_rfl) (by kernel_rfl) (by kernel_rfl) (fun _ _ _ h=>h) (Or.inl ⟨by rfl,?_⟩) (by assumption) ?_;rotate_left;(· (intro wq hq;(try dsimp only at hq);go_simp;first | done | with_reducible rfl));simp only [psA])
    (refine' wpAnyH_take (i:=4) rfl (by kernel_rfl) (by kernel_rfl) (by kernel_rfl) (fun _ _ _ h=>h) (Or.inl ⟨by rfl,?_⟩) (by assumption) ?_;rotate_left;(· (intro wq hq;(try dsimp only at hq);go_simp;first | done | with_reducible rfl));simp only [psA])
    refine wpAnyH_ready (rs:=[5]) (by kernel_rfl) (by simp) ?_
    refine AllReadyH.cons rfl (fun K hK=>?_) ?_
    ·go_simp
     have b1:Below A.drew.heap.size A.drew (A.alloc (.cells #[.string (mkL p)] 9)).drew:=show Below A.drew.heap.size A.drew (A.drew.alloc (.cells #[.string (mkL p)] 9)) from (Below.refl _ _).alloc (Nat.le_refl _) _
     have cn:(A.alloc (.cells #[.string (mkL p)] 9)).drew.cell? ((⟨A.heap.size,0,none⟩:Addr).add 0)=some (.string (mkL p)):=by
      rw [show (⟨A.heap.size,0,none⟩:Addr).add 0=⟨A.heap.size,0,none⟩ by simp [Addr.add]]
      exact (At.new A #[.string (mkL p)] 9).drew.cell 0
     have sz1:(A.alloc (.cells #[.string (mkL p)] 9)).drew.heap.size=A.heap.size+1:=World.size_alloc _ _
     obtain ⟨A1,hA1⟩:∃ X,(A.alloc (.cells #[.string (mkL p)] 9)).drew=X:=⟨_,rfl⟩
     rw [hA1] at b1 cn sz1 ⊢
     have gA1:=gD.out.rel (RelG.below (B:=0) b1 (Nat.zero_le _) gD.out.lt)
     obtain ⟨A2,hrun,gA2,rA2,grA2⟩:=GRow.push (x:=p) (ty:=56) (B:=A1.heap.size) gA1 hncap (Nat.le_refl _) ⟨A.heap.size,0,none⟩ 1 cn
     rw [hn] at hrun rA2
     have r2:RelG g n A.drew.heap.size A.drew A2:=(RelG.below b1 (Nat.le_refl _) gD.out.lt).trans (rA2.mono (Nat.le_refl _) b1.size)
     have kp2:∀ {k:Nat} {ob:Obj},k≠g→A.drew.heap[k]? = some ob→A2.heap[k]? = some ob:=fun hk ho=>(r2.2.1 _ (Array.getElem?_eq_some_iff.1 ho).1 hk).trans ho
     have hqg:q≠g:=by have:=hq'.out;omega
     have qA1:At A1 q #[.int .i64 k5,.bool b5,.string r5,.string t5,.slice ko5 N5 kc5,.slice vo5 M5 vc5] 59:=qD.out.keptAll b1
     refine hK.out _ _ ⟨qA1,(sD.out.keptAll b1).cell 0,(wD.out.keptAll b1).cell 0⟩ (fun hHa=>?_)
     clear hK K hHa
     have hrun':=hid hrun
     have gA2':=hid gA2
     have r2':=hid r2
     have kp2':=hid (fun k ob (h1:k≠g) (h2:A.drew.heap[k]? = some ob)=>kp2 h1 h2)
     have s12:=hid (show A.heap.size+1≤A2.heap.size by rw [← sz1];exact rA2.1)
     clear hrun gA2 r2 kp2 cn gA1 rA2 grA2 b1 sz1 hA1 qA1
     refine wpAnyH_ready (rs:=[6]) (by kernel_rfl) (by simp) ?_
     refine AllReadyH.cons rfl (fun K hK=>?_) ?_
     ·rw [if_pos (by rfl)]
      refine wp_append_rowV rfl rfl rfl hrun'.out ?_
      have q2:=hid (show At A2 q #[.int .i64 k5,.bool b5,.string r5,.string t5,.slice ko5 N5 kc5,.slice vo5 M5 vc5] 59 from kp2'.out _ _ hqg qD.out)
      have s2:=hid (show At A2 Bs #[.slice (some ⟨gs,off,none⟩) n1 sc] 82 from kp2'.out _ _ hns sD.out)
      have w2:=hid (show At A2 Bw #[.slice (some ⟨g,0,none⟩) n cap] 56 from kp2'.out _ _ hnw wD.out)
      have y2:=hid (show At A2 W.heap.size #[.func (.yield l) #[] #[]] 79 from kp2'.out _ _ (by have:=hglt.out;omega) yD.out)
      refine hK.out _ _ ⟨q2.out,s2.out.cell 0,w2.out.cell 0⟩ (fun hHa=>?_)
      clear hK K hrun' hHa
      refine wpAnyH_ready (rs:=[7]) (by kernel_rfl) (by simp) ?_
      refine AllReadyH.cons rfl (fun K hK=>?_) ?_
      ·rw [if_pos (by rfl)]
       go_simp
       refine Calls.mono (found_calls k5 b5 r5 t5 ko5 N5 kc5 vo5 M5 vc5 so2 m (sc-1) (some ⟨g,0,none⟩) (n+1) cap A2) ?_
       rintro e w7 ⟨rfl,v7,st7,wy7,sz7,b7⟩
       refine hK.out _ _ ⟨q2.out.keptAll b7,(s2.out.keptAll b7).cell 0,(w2.out.keptAll b7).cell 0⟩ (fun hHa=>?_)
       clear hK K hHa
       refine wpAnyH_done (by kernel_rfl) ?_ _
       rename_i Kz hKz
       refine hKz _ _ ?_
       have r7:RelG g n A.drew.heap.size A.drew w7:=r2'.out.trans (RelG.below b7 (Nat.le_of_lt (Nat.lt_of_lt_of_le (Nat.lt_succ_self _) s12.out)) gA2'.out.lt)
       have kp7:=hid (fun k ob (h1:k≠g) (h2:A.drew.heap[k]? = some ob)=>(b7.block k (Array.getElem?_eq_some_iff.1 (kp2'.out k ob h1 h2)).1).trans (kp2'.out k ob h1 h2))
       have g7:=hid (gA2'.out.rel (RelG.below (B:=0) b7 (Nat.zero_le _) gA2'.out.lt))
       have hB7:B≤A.drew.heap.size:=Nat.le_trans hB5 hA5'.out
       have j7:=hid (hJ'.out _ _ _ jD.out (r7.mono (Nat.le_refl _) hB7))
       have q7:=hid (q2.out.keptAll b7)
       have s7:=hid (s2.out.keptAll b7)
       have w7':=hid (w2.out.keptAll b7)
       have y7:=hid (y2.out.keptAll b7)
       have m7:=hid (show SameOn S W w7 from ⟨Nat.le_trans mD.out.1 r7.1,fun x hx hl=>(r7.2.1 x (Nat.lt_of_lt_of_le hl mD.out.1) (fun e=>hSg (e ▸ hx))).trans (mD.out.2 x hx hl)⟩)
       have v7':=hid v7
       have st7':=hid st7
       have wy7':=hid wy7
       have vu7:=hid (vD.out.kept (S':=S) (fun _ _ h=>h) ⟨r7.1,fun x hx hl=>r7.2.1 x hl (fun e=>hSg (e ▸ hx))⟩)
       have sz7':=hid sz7
       have hrl7:=hid (kp7.out l' _ (by have:=hll;omega) hrl'.out)
       clear r7 hKz v7 st7 wy7 sz7 b7 q2 s2 w2 y2 qD sD wD yD gD mD jD vD r2' kp2' gA2' hrl' hH hslu
       have hg7:g<w7.heap.size:=g7.out.lt
       have hB7':B≤w7.heap.size:=Nat.le_trans hB (Nat.le_trans m7.out.1 (Nat.le_refl _))
       have hw7:W.heap.size<w7.heap.size:=y7.out.lt
       have hS'g:¬ (fun x=>S x∨x=Bv2∨x=Bx2) g:=by
        rintro (h | h | h)
        ·exact hSg h
        ·have:=hb2'.out;have:=hglt.out;have:=s4.out;omega
        ·have:=hb2'.out;have:=hglt.out;have:=s4.out;omega
       have hAle:A.heap.size≤w7.heap.size:=Nat.le_trans (Nat.le_succ _) (Nat.le_trans s12.out (by rw [sz7'.out];omega))
       have hgy:W.heap.size≠g:=by have:=hglt.out;omega
       have infree:=hid (inI_free (S':=(fun x=>S x∨x=Bv2∨x=Bx2)) (W0:=W) (A0:=A) (yv:=.func (.yield l) #[] #[]) (sv:=(.slice (some ⟨gs,off,none⟩) n1 sc)) (wv:=(.slice (some ⟨g,0,none⟩) n cap)) (o:=offP ss way P r) (hb:=w5.heap.size) (c:=c) (n2:=n+1) (cap:=cap) (way:=way++[p]) (by simp [hn]) (Nat.le_succ n) hJ'.out hB7' ⟨hw7,hgy⟩ ⟨s7.out.lt,hns⟩ ⟨w7'.out.lt,hnw⟩ m7.out.1 hAle hSg hS'g hg5)
       have inxfree:=hid (fun cd=>inX_free (S':=(fun x=>S x∨x=Bv2∨x=Bx2)) (A0:=A) (hb:=w5.heap.size) (c:=c) (n2:=n+1) (m:=(fdP (s0 :: ss) (.mk k b rr tx ks vs) way).length) (Nat.le_succ n) hJx'.out hB7' hAle hS'g hg5 cd)
       have hR1:=hid (fun (B':Nat) (X Y:World) (h1:w7.heap.size≤B') (h2:Below B' X Y)=>(RelG.below h2 (Nat.le_refl _) (Nat.lt_of_lt_of_le hg7 h1):RelG g (n+1) B' X Y))
       gi_wp2_with fail
       refine range_tellNY (l0:=l') (r0:=rl) hrl7.out (n:=nn-1-1) (by rw [List.length_cons] at hnn;omega) (gf:=74) (lb:=#[.pointer (some ⟨A2.heap.size+1,0,none⟩),.pointer (some ⟨A2.heap.size,0,none⟩),.pointer (some ⟨A2.heap.size+1+1,0,none⟩)]) rfl (enters_of Tryz.func74 (by kernel_rfl) rfl)
        (RelG g (n+1)) hR1.out (fun B1 B2 X Y h1 h2=>h2.mono (Nat.le_refl _) h1) (fun B1 X Y k' h1 h2 h3=>h1.2.1 k' h3 (by omega))
        (E:=TellP (fdP ss u (way++[p]))) (Kp:=fun _ c'=>KpX S (fun x=>K x∧x≠w7.heap.size) c') (N:=(fdP ss u (way++[p])).length) ?seq ?ps2 KpX.trans ?kl2
        (InI J g cap (way++[p]) S (fun x=>S x∨x=Bv2∨x=Bx2) W A W.heap.size Bs Bw (.func (.yield l) #[] #[]) (.slice (some ⟨gs,off,none⟩) n1 sc) (.slice (some ⟨g,0,none⟩) n cap) (offP ss way P r) w5.heap.size c w7.heap.size) (InX Jx (fdP (s0 :: ss) (.mk k b rr tx ks vs) way).length (fun x=>S x∨x=Bv2∨x=Bx2) A w5.heap.size c w7.heap.size) infree.out inxfree.out (fun _ _ h=>h.2) (fun _ _ _ h=>h.2)
        ⟨⟨j7.out,y7.out,s7.out,w7'.out,g7.out,m7.out,fun x ob hx ho=>kp7.out x ob (fun e=>?_) ho,⟨hAle,fun x ob hx ho _=>kp7.out x ob (by omega) ho⟩⟩,Nat.le_refl _⟩
        (fun _ _ h=>hGd'.out _ _ h.1.1) (InY (fdP ss u (way++[p])) (w7.heap.size+1)) InG ?own2 ?assign2 ?body2 ?done2 ?stop2
       case own2=>exact fun r c y=>inY_own r c y
       case ps2 =>
        rintro b r c x X ⟨p,t,v,-,rfl,-⟩
        rfl
       case kl2 =>
        intro c' X r1 r2 hx
        refine ⟨by simp,fun x o hk ho=>(World.putObj_heap_other (fun e=>?_)).trans ho⟩
        subst e
        rcases hk with hk | hk
        ·have:=hSB'.out _ hk
         omega
        ·exact hk.1.2 rfl
       case seq =>
        intro rec l2 J2 Jx2 hJ2 hJx2 hGd2 hY2 h0
        have bl:Below w7.heap.size w7 (w7.alloc (.loop rec)):=(Below.refl _ _).alloc (Nat.le_refl _) _
        have hwe2:∀ a ∈ way++[p],a.length≤2147483640:=fun a ha=>by
         rcases List.mem_append.1 ha with h | h
         ·exact hwe'.out a h
         ·rw [List.mem_singleton.1 h];exact hpl.out
        have hLl2:∀ x ∈ (fdP ss u (way++[p])),x.1.length≤140737488355328:=fun x hx=>hLl'.out x (by rw [hL.out];exact List.mem_flatMap.2 ⟨(p,u),List.mem_of_getElem? hPr'.out,hx⟩)
        have hst:At (w7.alloc (.loop rec)) (A2.heap.size+1) #[.slice so2 ss.length (sc-1)] 82:=by rw [hm.out];exact st7'.out.alloc _
        refine ih'.out (fun s hs=>hss'.out s (List.mem_cons_of_mem _ hs)) u (d-1) hd3'.out.1 hd3'.out.2 hwu.out hlu.out hou.out (way++[p]) (n+1) (by simp [hn]) hwe2 hcp2.out hLl2 (fun x=>K x∧x≠w7.heap.size) (w7.heap.size+1) (nn-1-1-1) l2 J2 Jx2 (by rw [List.length_cons] at hnn;omega) hJ2 hJx2 hGd2 hY2
         so2 (sc-1) (A2.heap.size+1) A2.heap.size (A2.heap.size+1+1) (.agg #[.int .i64 k5,.bool b5,.string r5,.string t5,.slice ko5 N5 kc5,.slice vo5 M5 vc5]) (w7.alloc (.loop rec)) (fun x hx=>⟨hKB'.out x (by omega),by omega⟩) (fun x hx=>by have:=hSB'.out x hx;omega) (by rw [World.size_alloc];exact Nat.le_refl _)
         ⟨hKB'.out _ (by have:=s12.out;have:=hA5'.out;omega),by have:=sz7'.out;omega⟩ ⟨hKB'.out _ (by have:=s12.out;have:=hA5'.out;omega),by have:=sz7'.out;omega⟩ ⟨hKg,by omega⟩ (by have:=s12.out;have:=hA5'.out;omega) (by have:=s12.out;have:=hA5'.out;omega) (by rw [hm.out];have:=hn1.out;omega) h0
         hst (v7'.out.alloc _) (wy7'.out.alloc _) (g7.out.rel (RelG.below (B:=0) bl (Nat.zero_le _) hg7)) (vu7.out.keptB bl) (hS2'.out _ ⟨Nat.le_trans m7.out.1 bl.size,fun x hx hl=>(bl.block x (by omega)).trans (m7.out.2 x hx hl)⟩)
       case assign2 =>
        intro l2 r2 c2 x X Kc hlt2 hI2 hE2 hK2
        obtain ⟨tw,t,v,hLr,rfl,hbc,hce,hv⟩:=hE2
        obtain ⟨k6,b6,r6,t6,ko6,N6,kc6,vo6,M6,vc6,rfl⟩:=hv.at.lets
        have hb:Below X.heap.size X (X.alloc (.cells #[.int .i64 k6,.bool b6,.string r6,.string t6,.slice ko6 N6 kc6,.slice vo6 M6 vc6] 59)):=(Below.refl _ _).alloc (Nat.le_refl _) _
        have hK3:=hK2 (tw,X.heap.size,#[.int .i64 k6,.bool b6,.string r6,.string t6,.slice ko6 N6 kc6,.slice vo6 M6 vc6]) (X.alloc (.cells #[.int .i64 k6,.bool b6,.string r6,.string t6,.slice ko6 N6 kc6,.slice vo6 M6 vc6] 59)) (fun o ho=>(hb.block _ (Array.getElem?_eq_some_iff.1 ho).1).trans ho) (KpX.below hb) (infree.out r2 _ _ hI2 (hR1.out _ _ _ (Nat.le_refl _) (hb.mono hI2.2))) ⟨t,hLr,hbc,Nat.le_trans hce hb.size,At.new _ _ _,hv.keptB hb⟩
        simp only [InG,List.setIfInBounds_toArray,List.set_cons_zero,List.set_cons_succ] at hK3
        clear hK2 hI2 hv hb
        gi_wp2
        exact hK3
       case body2 =>
        rintro l2 r2 c2 ⟨tw,q6,c6⟩ X hll2-hlt2 ⟨⟨jX,yX,sX,wX,gX,mX,kX,fX⟩,hX7⟩ ⟨v6,hLr,hbc,hce,hQ6,hV6⟩
        dsimp only at hLr hbc hce hQ6 hV6
        obtain ⟨k6,b6,r6,t6,ko6,N6,kc6,vo6,M6,vc6,he⟩:=hV6.at.lets
        injection he with he
        subst he
        simp only [InG,List.setIfInBounds_toArray,List.set_cons_zero,List.set_cons_succ]
        have hix:(fdP (s0 :: ss) (.mk k b rr tx ks vs) way)[offP ss way P r+r2]? = some (tw,v6):=by
         rw [hL.out]
         exact flat_get (fun x=>fdP ss x.2 (way++[x.1])) P r (p,u) r2 (tw,v6) hPr'.out hLr
        have hilt:=(List.getElem?_eq_some_iff.1 hix).1
        obtain ⟨fnv,tmps,assign,body,hy,hRd⟩:=hY'.out (offP ss way P r+r2) c2 #[.string (mkL tw),.agg #[.int .i64 k6,.bool b6,.string r6,.string t6,.slice ko6 N6 kc6,.slice vo6 M6 vc6]] X jX hilt ⟨tw,v6,_,hix,rfl,by omega,hce,hV6⟩
        have cy:X.cell? ⟨W.heap.size,0,none⟩=some (.func (.yield l) #[] #[]):=yX.cell 0
        have hQ6':=hid hQ6
        have hbs7:=s7.out.lt
        have hbw7:=w7'.out.lt
        have fin:∀ Z:World,KpX S K c2 X Z→(∀ o,X.heap[w7.heap.size]? = some o→Z.heap[w7.heap.size]? = some o)∧KpX S (fun x=>K x∧x≠w7.heap.size) c2 X Z∧At Z W.heap.size #[.func (.yield l) #[] #[]] 79∧At Z Bs #[.slice (some ⟨gs,off,none⟩) n1 sc] 82∧At Z Bw #[.slice (some ⟨g,0,none⟩) n cap] 56∧GRow Z g cap (way++[p])∧SameOn S W Z ∧
          (∀ x ob,((S x∨x=Bv2∨x=Bx2)∨(w5.heap.size≤x∧x<c))→A.heap[x]? = some ob→Z.heap[x]? = some ob)∧KeepsFrom w5.heap.size A Z∧w7.heap.size≤Z.heap.size:=fun Z hk=>by
         have up:∀ {x:Nat} {ob:Obj},B≤x→x<c2→X.heap[x]? = some ob→Z.heap[x]? = some ob:=fun h1 h2 ho=>hk.2 _ _ (.inr ⟨hKB'.out _ h1,h2⟩) ho
         have ltA:∀ {x:Nat} {ob:Obj},A.heap[x]? = some ob→x<c2:=fun ho=>by have:=(Array.getElem?_eq_some_iff.1 ho).1;omega
         refine ⟨fun o ho=>up hB7' (by omega) ho,⟨hk.1,fun x o hx ho=>hk.2 x o (hx.imp id (fun h=>⟨h.1.1,h.2⟩)) ho⟩,up hB (by omega) yX,hk.2 _ _ (.inr ⟨hKs,by omega⟩) sX,hk.2 _ _ (.inr ⟨hKw,by omega⟩) wX,
          gX.row (fun cs hc=>⟨cs,hk.2 _ _ (.inr ⟨hKg,by omega⟩) hc,rfl,rfl⟩),⟨Nat.le_trans mX.1 hk.1,fun x hx hl=>(hk.sameS.2 x hx (Nat.lt_of_lt_of_le hl mX.1)).trans (mX.2 x hx hl)⟩,fun x ob hx ho=>?_,⟨Nat.le_trans fX.size hk.1,fun x ob hx ho hc=>up (by omega) (ltA ho) (fX.same x ob hx ho hc)⟩,Nat.le_trans hX7 hk.1⟩
         have hox:=kX x ob hx ho
         have hb2:=hb2'.out
         have hs4:=s4.out
         rcases hx with (hx | hx | hx) | hx
         ·exact hk.2 _ _ (.inl hx) hox
         ·exact up (by omega) (ltA ho) hox
         ·exact up (by omega) (ltA ho) hox
         ·exact up (by omega) (ltA ho) hox
        have fin':=hid fin
        have hRd':=hid hRd
        clear hRd yX sX wX gX mX kX fX hQ6 hV6 hLr hix fin jX
        gi_wp2_with (first | refine wpListIn_load_want 59 _ q6 0 [.int .i64 k6,.bool b6,.string r6,.string t6,.slice ko6 N6 kc6,.slice vo6 M6 vc6] _ (hQ6'.out.range rfl) Tryz.underlying59 sizeVl rfl rfl rfl (by rfl) ?_ | fail)
        refine ⟨(fun h=>by cases h),?_⟩
        refine (roundIn_any hRd'.out).mono ?_
        rintro e Z (⟨rfl,hJz,hkz⟩ | ⟨rfl,hJz,hkz⟩)
        ·have jz:=hid hJz
         have fz:=hid (fin'.out Z hkz)
         clear hJz hkz hy cy
         gi_wp2
         obtain ⟨f1,f2,f3,f4,f5,f6,f7,f8,f9,f10⟩:=fz.out
         exact ⟨f1,f2,⟨jz.out,f3,f4,f5,f6,f7,f8,f9⟩,f10⟩
        ·have jz:=hid hJz
         have fz:=hid (fin'.out Z hkz)
         clear hJz hkz hy cy
         gi_wp2
         obtain ⟨f1,f2,f3,f4,f5,f6,f7,f8,f9,f10⟩:=fz.out
         exact ⟨f1,f2,⟨⟨rfl,_,hilt,jz.out⟩,f8,f9⟩,f10⟩
       case done2 =>
        rintro Z ⟨⟨jZ,yZ,sZ,wZ,gZ,mZ,kZ,fZ⟩,hZ7⟩
        rw [show offP ss way P r+(fdP ss u (way++[p])).length=offP ss way P (r+1) from (offP_succ hPr'.out).symm] at jZ
        have hfz:=hid (show KeepsFrom w5.heap.size A Z∧KpC (fun x=>S x∨x=Bv2∨x=Bx2) (w5.heap.size+1+1) c A Z∧OuI J g cap way S W W.heap.size Bs Bw (.func (.yield l) #[] #[]) (.slice (some ⟨gs,off,none⟩) n1 sc) (.slice (some ⟨g,0,none⟩) n cap) (offP ss way P) w5.heap.size (r+1) Z from
         ⟨fZ,⟨fZ.size,fun x ob hx ho=>kZ x ob (hx.imp id (fun h=>⟨by omega,h.2⟩)) ho⟩,⟨jZ,yZ,sZ,wZ,gZ.pop,mZ⟩,Nat.le_trans hA5'.out fZ.size⟩)
        clear jZ yZ sZ wZ gZ mZ kZ fZ
        gi_wp2
        exact hfz.out
       case stop2 =>
        rintro cd r2 Z hr2 ⟨⟨⟨rfl,hx⟩,kZ,fZ⟩,hZ7⟩
        have hfz:=hid (show KeepsFrom w5.heap.size A Z∧KpC (fun x=>S x∨x=Bv2∨x=Bx2) (w5.heap.size+1+1) c A Z∧OuX Jx (fdP (s0 :: ss) (.mk k b rr tx ks vs) way).length w5.heap.size .ret (r+1) Z from
         ⟨fZ,⟨fZ.size,fun x ob hx ho=>kZ x ob (hx.imp id (fun h=>⟨by omega,h.2⟩)) ho⟩,⟨rfl,hx⟩,Nat.le_trans hA5'.out fZ.size⟩)
        clear hx kZ fZ
        gi_wp2
        exact hfz.out
       ·subst e
        rcases hx with hx | hx
        ·exact hS'g hx
        ·omega
      exact AllReadyH.nil
     exact AllReadyH.nil
    exact AllReadyH.nil
   case done =>
    rintro D A hD ⟨⟨h1,-⟩,-⟩ hdf
    rw [offP_all,← hL.out] at h1
    have h1':=hid h1
    have hdf':=hid hdf
    clear h1 hdf
    gi_wp2
    refine ⟨by simp,.inl ⟨_,_,rfl,run_takeDeferred hdf'.out,?_⟩⟩
    exact ⟨_,results_none rfl _ _ _,⟨_,rfl⟩,.inl (hJ'.out _ _ _ h1'.out (RelG.below (belowK_b (w:=w5) (Nat.le_refl _) A D _ _ hD hdf'.out rfl rfl) hB5 hg5))⟩
   case stop =>
    rintro D c r A hD-⟨⟨rfl,r',h1,h2⟩,-⟩ hdf
    have h1':=hid h1
    have h2':=hid h2
    have hdf':=hid hdf
    clear h1 h2 hdf
    gi_wp2
    refine ⟨by simp,.inl ⟨_,_,rfl,run_takeDeferred hdf'.out,?_⟩⟩
    exact ⟨_,results_none rfl _ _ _,⟨_,rfl⟩,.inr ⟨r',h1'.out,hJx'.out _ _ _ h2'.out (RelG.below (belowK_b (w:=w5) (Nat.le_refl _) A D _ _ hD hdf'.out rfl rfl) hB5 hg5)⟩⟩
  exact AllReadyH.nil
end Go.Proofs.YtongedjlmohogaaGreatDoor
