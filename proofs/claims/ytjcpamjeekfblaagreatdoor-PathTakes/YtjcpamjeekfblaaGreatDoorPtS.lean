import Derived.Test.YtjcpamjeekfblaaGreatDoorPack1
import Derived.Test.YtjcpamjeekfblaaGreatDoorPtI
import Derived.Test.YtjcpamjeekfblaaGreatDoorPtR
import Derived.Test.YtjcpamjeekfblaaGreatDoorPtQ
import Derived.Test.YtjcpamjeekfblaaGreatDoorTpC2
namespace Go.Proofs.YtjcpamjeekfblaaGreatDoor
open Go.RowKit Go.Shelf
def ldV:Vt→List ByteArray→Option Vt
 | t,[]=>some t
 | t,nm :: r=>match stI t nm with
  | none=>none
  | some i=>match t.kids[i]? with
   | none=>none
   | some u=>ldV u r
theorem ldV_nil (t:Vt):ldV t []=some t:=by rw [ldV.eq_def]
theorem ldV_no {t:Vt} {nm:ByteArray} (h:stI t nm=none) (r:List ByteArray):ldV t (nm :: r)=none:=by rw [ldV.eq_def];simp only [h]
theorem ldV_yes {t u:Vt} {nm:ByteArray} {i:Nat} (h:stI t nm=some i) (hu:t.kids[i]? = some u) (r:List ByteArray):ldV t (nm :: r)=ldV u r:=by
 conv=>lhs;rw [ldV.eq_def]
 simp only [h,hu]
theorem drop_key {L:List ByteArray} {i:Nat} {s:ByteArray} (h:L[i]? = some s):L.drop i=s :: L.drop (i+1):=by
 obtain ⟨h1,h2⟩:=List.getElem?_eq_some_iff.1 h
 rw [List.drop_eq_getElem_cons h1,h2]
theorem wfL_at:∀ {vs:List Vt} {l:Int} {i:Nat} {u:Vt},wfL vs l=true→vs[i]? = some u→wfV u l=true
 | [],_,_,_,_,h=>by simp at h
 | v :: vs,l,0,u,hw,h=>by
  simp at h
  subst h
  unfold wfL at hw
  rw [Bool.and_eq_true] at hw
  exact hw.1
 | v :: vs,l,i+1,u,hw,h=>by
  unfold wfL at hw
  rw [Bool.and_eq_true] at hw
  exact wfL_at hw.2 (by simpa using h)
theorem wf_step {t:Vt} {l:Int} (hw:wfV t l=true) {nm:ByteArray} {i:Nat} (h:stI t nm=some i):∃ u,t.kids[i]? = some u∧wfV u (l-1)=true:=by
 cases t with
 | mk k b r t ks vs =>
  have hw2:=hw
  unfold wfV at hw2
  rw [Bool.and_eq_true,Bool.and_eq_true] at hw2
  obtain ⟨hp,-,hk⟩:=hw2
  have hlt:i<vs.length:=by
   unfold stI at h
   by_cases h5:k=5
   ·rw [if_pos (show (Vt.mk k b r t ks vs).kind=5 from h5)] at h
    split at h
    ·rename_i hh;cases h;exact hh.2
    ·cases h
   ·rw [if_neg (show ¬ (Vt.mk k b r t ks vs).kind=5 from h5)] at h
    by_cases h6:k=6
    ·rw [if_pos (show (Vt.mk k b r t ks vs).kind=6 from h6)] at h
     have h7:i<ks.length:=(List.getElem?_eq_some_iff.1 (fstO_get h).1).1
     subst h6
     unfold plainV at hp
     simp at hp
     omega
    ·rw [if_neg (show ¬ (Vt.mk k b r t ks vs).kind=6 from h6)] at h;cases h
  exact ⟨vs[i],List.getElem?_eq_getElem hlt,wfL_at hk (List.getElem?_eq_getElem hlt)⟩
def fdF (t:Vt) (l:List UInt8):Vt × Bool × Int :=
 if wfV t 1024=true then (if (ptrL l).isSome=true then (match ldV t ((ptN l).map mkL) with | some u=>(u,true,0) | none=>(vt0,false,0)) else (vt0,false,200)) else (vt0,false,1)
def FdQ (F:Vt × Bool × Int) (w:World) (e:Ending) (w':World):Prop:=∃ x:Value,e = .returned (.tuple #[x,.bool F.2.1,.int .i64 F.2.2])∧ValOn (fun b=>w.heap.size≤b) w' F.1 x∧Below w.heap.size w w'
theorem ret_val3 {fn:Func} {p u v:Tmp} {R:Ending→World→Prop} {a:Act} {w:World} {b:Nat} {cs:Array Value} (hres:fn.results = #[.cell p 59,.tmp u,.tmp v]) (hp:a.tmps.getD p undef = .pointer (some ⟨b,0,none⟩))
  (h:At w b cs 59) (hc:cs.size=6) (hd:a.defers=[]) (hR:R (.returned (.tuple #[.agg cs,a.tmps.getD u undef,a.tmps.getD v undef])) w):bodyPost Tryz.prog fn R .ret a w:=by
 refine bodyPost_ret (v:=.tuple #[.agg cs,a.tmps.getD u undef,a.tmps.getD v undef]) ?_ hd hR
 have hl:=run_loadVar_row (P:=Tryz.prog) w b 59 59 cs (0,0) _ h Tryz.underlying59 rfl (by rw [hc];exact sizeVl)
 have hp':a.tmps[p]?.getD undef = .pointer (some ⟨b,0,none⟩):=by simpa using hp
 simp [results,hres,hp',asAddr,hl]
theorem ValAt.lets {w:World} {t:Vt} {va:Value} (h:ValAt w t va):∃ (k1:Int) (b1:Bool) (r1 t1:ByteArray) (ko1:Option Addr) (N1 kc1:Nat) (vo1:Option Addr) (M1 vc1:Nat),va = .agg #[.int .i64 k1,.bool b1,.string r1,.string t1,.slice ko1 N1 kc1,.slice vo1 M1 vc1]:=by
 cases h
 exact ⟨_,_,_,_,_,_,_,_,_,_,rfl⟩
theorem ValAt.kid {w:World} {t:Vt} (k1:Int) (b1:Bool) (r1 t1:ByteArray) (ko1:Option Addr) (N1 kc1:Nat) (vo1:Option Addr) (M1 vc1:Nat) (h:ValAt w t (.agg #[.int .i64 k1,.bool b1,.string r1,.string t1,.slice ko1 N1 kc1,.slice vo1 M1 vc1])) {i:Nat} {u:Vt} (hu:t.kids[i]? = some u):i<M1∧(M1:Int)≤9223372036854775807∧∃ (g o:Nat) (k2:Int) (b2:Bool) (r2 t2:ByteArray) (ko2:Option Addr) (N2 kc2:Nat) (vo2:Option Addr) (M2 vc2:Nat),vo1=some ⟨g,o,none⟩∧w.rangeAt g (o+i*6) [.int .i64 k2,.bool b2,.string r2,.string t2,.slice ko2 N2 kc2,.slice vo2 M2 vc2]∧ValAt w u (.agg #[.int .i64 k2,.bool b2,.string r2,.string t2,.slice ko2 N2 kc2,.slice vo2 M2 vc2]):=by
 cases h with
 | mk k b r t ks vs ko kc vo vc X hw hz hk hr hv =>
 have hi:i<vs.length:=(List.getElem?_eq_some_iff.1 hu).1
 obtain ⟨g,o,rfl,hg,hrg,hl1⟩:=row_range hr hi
 have v1:=hv i u hu
 obtain ⟨ko',kc',vo',vc',hx⟩:=v1.cells
 rw [hx] at hrg v1
 exact ⟨hi,by have:=hz.2.2.2;unfold capT at this;omega,g,o,_,_,_,_,_,_,_,_,_,_,rfl,hrg,v1⟩
theorem lnV_kid {t u:Vt} (h:lnV t) {i:Nat} (hu:t.kids[i]? = some u):lnV u:=by
 cases t with
 | mk k b r t ks vs =>
  unfold lnV at h
  exact lnL_get h.2.2 hu
theorem KeysOn.len {S:Nat→Prop} {w:World} {ao:Option Addr} {ks:List ByteArray} (h:KeysOn S w ao ks) {i:Nat} {s:ByteArray} (hi:ks[i]? = some s):s.size≤9223372036854775807:=by
 have:=(h i s hi).1
 unfold capT at this
 omega
theorem same_setCells (w:World) (h:Nat) (L:List Value) {n:Nat} (hn:h<n):SameOn (fun c=>n≤c) w (w.setCells h 0 L):=by
 have hs:=below_setCells (Below.refl h w) (Nat.le_refl _) L 0
 refine ⟨hs.size,fun c hc hl=>?_⟩
 have hh:∀ (L:List Value) (o:Nat) (w:World),(w.setCells h o L).heap[c]? = w.heap[c]?:=by
  intro L
  induction L with
  | nil=>intro o w;rfl
  | cons x L ih =>
   intro o w
   exact (ih (o+1) (w.setCell ⟨h,o,none⟩ x)).trans (Below.heap_setCell w ⟨h,o,none⟩ x c (by show c≠h;omega))
 exact hh L 0 w
set_option maxRecDepth 10000 in
set_option maxHeartbeats 16000000 in
theorem find_calls (t0:Vt) (hln:lnV t0) (l:List UInt8) (hl:l.length≤4294967296) (va:Value) (w:World) (hT:TabU w) (ha:ValAt w t0 va) :
  Calls Tryz.prog 73 #[va,.string (mkL l)] w fun e w'=>FdQ (fdF t0 l) w e w':=by
 obtain ⟨k1,b1,r1,t1,ko1,N1,kc1,vo1,M1,vc1,rfl⟩:=ha.lets
 have hform:=hid (fun u (hb:Below w.heap.size w u)=>formedP_calls t0 _ u (hT.below hb) (ha.kept hb))
 have hpar:=hid (fun u=>parse20_calls l hl u)
 have hlen:=ptN_len l
 have hF:Hid (fdF t0 l=if wfV t0 1024=true then (if (ptrL l).isSome=true then (match ldV t0 ((ptN l).map mkL) with | some u=>(u,true,(0:Int)) | none=>(vt0,false,(0:Int))) else (vt0,false,(200:Int))) else (vt0,false,(1:Int))):=rfl
 have hE:Hid (ptE l=if (ptrL l).isSome=true then 0 else 200):=hid (by unfold ptE;rfl)
 have V0:=hid ha
 have hln':=hid hln
 have hLn:((ptN l).map mkL).length≤4294967296:=by rw [List.length_map];omega
 generalize (ptN l).map mkL=L at hpar hF hLn
 generalize ptE l=E at hpar hE
 generalize (ptrL l).isSome=P at hF hE
 generalize fdF t0 l=Fd at hF ⊢
 generalize mkL l=s at hpar ⊢
 generalize hWf:wfV t0 1024=Wf at hform hF
 have hWf':=hid hWf
 have A1:Hid (At (w.alloc (.cells #[.int .i64 k1,.bool b1,.string r1,.string t1,.slice ko1 N1 kc1,.slice vo1 M1 vc1] 59)) w.heap.size #[.int .i64 k1,.bool b1,.string r1,.string t1,.slice ko1 N1 kc1,.slice vo1 M1 vc1] 59):=At.new w _ _
 have B1:Hid (Below w.heap.size w (w.alloc (.cells #[.int .i64 k1,.bool b1,.string r1,.string t1,.slice ko1 N1 kc1,.slice vo1 M1 vc1] 59))):=(Below.refl _ w).alloc (Nat.le_refl _) _
 obtain ⟨W1,hW1⟩:∃ W,w.alloc (.cells #[.int .i64 k1,.bool b1,.string r1,.string t1,.slice ko1 N1 kc1,.slice vo1 M1 vc1] 59)=W:=⟨_,rfl⟩
 obtain ⟨W2,hW2⟩:∃ W,W1.alloc (.cells #[.int .i64 0,.bool false,.string ⟨#[]⟩,.string ⟨#[]⟩,.slice none 0 0,.slice none 0 0] 59)=W:=⟨_,rfl⟩
 rw [hW1] at A1 B1
 have hsz1:W1.heap.size=w.heap.size+1:=by rw [← hW1,World.size_alloc]
 have A2:Hid (At W2 w.heap.size #[.int .i64 k1,.bool b1,.string r1,.string t1,.slice ko1 N1 kc1,.slice vo1 M1 vc1] 59):=by rw [← hW2];exact A1.out.alloc _
 have Z2:Hid (At W2 (w.heap.size+1) #[.int .i64 0,.bool false,.string ⟨#[]⟩,.string ⟨#[]⟩,.slice none 0 0,.slice none 0 0] 59):=by
  have h:=At.new W1 #[.int .i64 0,.bool false,.string ⟨#[]⟩,.string ⟨#[]⟩,.slice none 0 0,.slice none 0 0] 59
  rw [hW2,hsz1] at h
  exact h
 have B2:Hid (Below w.heap.size w W2):=by
  rw [← hW2]
  exact B1.out.alloc (by rw [hsz1];omega) _
 have z2:Hid (w.heap.size+2≤W2.heap.size):=by rw [← hW2];show _≤_;rw [World.size_alloc,hsz1];omega
 clear A1 B1 hln ha hT hl hlen hWf
 go_enter Tryz.func73,Tryz.ntmps73
 go_wp2_with (first | refine wpList_load_want 59 _ w.heap.size 0 [.int .i64 k1,.bool b1,.string r1,.string t1,.slice ko1 N1 kc1,.slice vo1 M1 vc1] _ (A2.out.range rfl) Tryz.underlying59 sizeVl rfl rfl rfl (by rfl) ?_ | fail)
 refine Calls.mono (hform.out _ B2.out) ?_
 rintro e w3 ⟨rfl,b3⟩
 have A3:=hid (A2.out.keptAll b3)
 have Z3:=hid (Z2.out.keptAll b3)
 have B3:=hid (B2.out.trans (b3.mono B2.out.size))
 have z3:=hid (Nat.le_trans z2.out b3.size)
 clear b3 hW1 hW2 hsz1 A2 Z2 B2 z2 hform
 cases Wf with
 | false =>
  rw [if_neg (by decide)] at hF
  have d0:=Z3.out.cell 0
  have d1:=Z3.out.cell 1
  have d2:=Z3.out.cell 2
  have d3:=Z3.out.cell 3
  have d4:=Z3.out.cell 4
  have d5:=Z3.out.cell 5
  have f0:=Z3.out.frozen 0
  have f1:=Z3.out.frozen 1
  have f2:=Z3.out.frozen 2
  have f3:=Z3.out.frozen 3
  have f4:=Z3.out.frozen 4
  have f5:=Z3.out.frozen 5
  simp only [List.getElem?_toArray,List.getElem?_cons_zero,List.getElem?_cons_succ] at d0 d1 d2 d3 d4 d5
  go_wp2
  refine ret_val3 (p:=4) (u:=5) (v:=6) rfl ?_ Z3.out.six rfl ?_ ?_
  ·rfl
  ·rfl
  refine ⟨_,by rw [hF.out];rfl,?_,below_six B3.out (by omega) _ _ _ _ _ _⟩
  rw [hF.out]
  exact vt0_on _ _
 | true =>
  rw [if_pos rfl] at hF
  go_wp2_with fail
  refine Calls.mono (hpar.out _) ?_
  rintro e w4 ⟨v,rfl,k4,b4⟩
  obtain ⟨so,cap,rfl⟩:=k4.shape
  have A4:=hid (A3.out.keptAll b4)
  have Z4:=hid (Z3.out.keptAll b4)
  have B4:=hid (B3.out.trans (b4.mono B3.out.size))
  have K4:=hid ((k4.row.2).kept (S':=fun c=>w.heap.size+2≤c) (fun c _ hc=>Nat.le_trans z3.out hc) (SameOn.below (Below.refl _ _)))
  clear b4 A3 Z3 B3 k4 hpar
  cases P with
  | false =>
   rw [if_neg (by decide)] at hF hE
   obtain rfl:=hE.out
   have d0:=Z4.out.cell 0
   have d1:=Z4.out.cell 1
   have d2:=Z4.out.cell 2
   have d3:=Z4.out.cell 3
   have d4:=Z4.out.cell 4
   have d5:=Z4.out.cell 5
   have f0:=Z4.out.frozen 0
   have f1:=Z4.out.frozen 1
   have f2:=Z4.out.frozen 2
   have f3:=Z4.out.frozen 3
   have f4:=Z4.out.frozen 4
   have f5:=Z4.out.frozen 5
   simp only [List.getElem?_toArray,List.getElem?_cons_zero,List.getElem?_cons_succ] at d0 d1 d2 d3 d4 d5
   go_wp2
   refine ret_val3 (p:=4) (u:=5) (v:=6) rfl ?_ Z4.out.six rfl ?_ ?_
   ·rfl
   ·rfl
   refine ⟨_,by rw [hF.out];rfl,?_,below_six B4.out (by omega) _ _ _ _ _ _⟩
   rw [hF.out]
   exact vt0_on _ _
  | true =>
   rw [if_pos rfl] at hF hE
   obtain rfl:=hE.out
   obtain ⟨n,hn⟩:∃ n,Hid (L.length=n):=⟨_,rfl⟩
   rw [hn.out] at hLn ⊢
   have hni:(n:Int)≤4294967296:=by omega
   clear hE
   go_wp2
   go_loopw [28] (fun ii wr=>∃ (i:Nat) (tt:Vt) (k2:Int) (b2:Bool) (r2 t2:ByteArray) (ko2:Option Addr) (N2 kc2:Nat) (vo2:Option Addr) (M2 vc2:Nat),i≤n∧ii = .int .i64 (i:Int)∧Hid (At wr w.heap.size #[.int .i64 k2,.bool b2,.string r2,.string t2,.slice ko2 N2 kc2,.slice vo2 M2 vc2] 59)∧Hid (At wr (w.heap.size+1) #[.int .i64 0,.bool false,.string ⟨#[]⟩,.string ⟨#[]⟩,.slice none 0 0,.slice none 0 0] 59)∧Hid (ValAt w tt (.agg #[.int .i64 k2,.bool b2,.string r2,.string t2,.slice ko2 N2 kc2,.slice vo2 M2 vc2]))∧Hid (ldV t0 L=ldV tt (L.drop i))∧Hid (∃ d,wfV tt d=true)∧Hid (lnV tt)∧Hid (KeysOn (fun c=>w.heap.size+2≤c) wr so L)∧Hid (Below w.heap.size w wr)) (fun ii _=>n-(intOf ii).toNat)
   case atStart=>exact ⟨0,t0,k1,b1,r1,t1,ko1,N1,kc1,vo1,M1,vc1,Nat.zero_le _,rfl,A4,Z4,V0,hid rfl,hid ⟨_,hWf'.out⟩,hln',K4,B4⟩
   case round =>
    clear A4 Z4 B4 K4
    obtain ⟨i,tt,k2,b2,r2,t2,ko2,N2,kc2,vo2,M2,vc2,hin,rfl,hA,hZ,hV,hld,hwf,hlt',hK,hB⟩:=hrel
    by_cases hi:i<n
    ·have hii:(i:Int)<(n:Int):=by omega
     obtain ⟨nm,hnm⟩:∃ s,L[i]? = some s:=⟨_,List.getElem?_eq_getElem (by rw [hn.out];exact hi)⟩
     have hnl:=hK.out.len hnm
     obtain ⟨-,g,o,rfl,hg1,hg2,cg⟩:=hK.out i nm hnm
     have hdr:=hid (drop_key hnm)
     have cst:=hid (step_calls tt nm hnl _ wr (hV.out.kept hB.out))
     clear hnm hnl
     go_wp2_with (first | refine wpList_load_want 59 _ w.heap.size 0 [.int .i64 k2,.bool b2,.string r2,.string t2,.slice ko2 N2 kc2,.slice vo2 M2 vc2] _ (hA.out.range rfl) Tryz.underlying59 sizeVl rfl rfl rfl (by rfl) ?_ | fail)
     refine Calls.mono cst.out ?_
     rintro e w5 ⟨jj,Bs,rfl,hst,b5⟩
     have A5:=hid (hA.out.keptAll b5)
     have Z5:=hid (hZ.out.keptAll b5)
     have B5:=hid (hB.out.trans (b5.mono hB.out.size))
     have K5:=hid (hK.out.kept (S':=fun c=>w.heap.size+2≤c) (fun _ _ h=>h) (SameOn.below b5))
     clear b5 cst hA hZ hB hK cg hg1 hg2
     rcases hst with ⟨rfl,j,rfl,hst⟩ | ⟨rfl,hst⟩
     ·obtain ⟨d,hwfd⟩:=hwf.out
      obtain ⟨u,hu,hwu⟩:=wf_step hwfd hst
      obtain ⟨hjM,hMi,g2,o2,k3,b3,r3,t3,ko3,N3,kc3,vo3,M3,vc3,rfl,hrg,V3⟩:=hV.out.kid _ _ _ _ _ _ _ _ _ _ hu
      have hld3:=hid (show ldV t0 L=ldV u (L.drop (i+1)) by rw [hld.out,hdr.out,ldV_yes hst hu])
      have hwf3:Hid (∃ d,wfV u d=true):=hid ⟨_,hwu⟩
      have hln3:=hid (lnV_kid hlt'.out hu)
      have V3':=hid V3
      have hrg5:=hid (range_kept hrg B5.out)
      have hjMi:(j:Int)<(M2:Int):=by omega
      clear hV hld hwf hlt' hwfd hu hwu hst hrg V3 hdr d
      have d5:w5.cell? ⟨w.heap.size,5,none⟩=some (.slice (some ⟨g2,o2,none⟩) M2 vc2):=A5.out.cell 5
      have A6:=hid (A5.out.setCells [.int .i64 k3,.bool b3,.string r3,.string t3,.slice ko3 N3 kc3,.slice vo3 M3 vc3] rfl)
      have Z6:=hid (Z5.out.setCells_other (b':=w.heap.size) (by omega) [.int .i64 k3,.bool b3,.string r3,.string t3,.slice ko3 N3 kc3,.slice vo3 M3 vc3] 0)
      have B6:=hid (below_setCells B5.out (Nat.le_refl _) [.int .i64 k3,.bool b3,.string r3,.string t3,.slice ko3 N3 kc3,.slice vo3 M3 vc3] 0)
      have K6:=hid (K5.out.kept (S':=fun c=>w.heap.size+2≤c) (fun _ _ h=>h) (same_setCells w5 w.heap.size [.int .i64 k3,.bool b3,.string r3,.string t3,.slice ko3 N3 kc3,.slice vo3 M3 vc3] (by omega)))
      generalize hW6:w5.setCells w.heap.size 0 [.int .i64 k3,.bool b3,.string r3,.string t3,.slice ko3 N3 kc3,.slice vo3 M3 vc3]=W6 at A6 Z6 B6 K6
      go_wp2_with (first | (refine wpList_load_want 59 _ g2 (o2+j*6) [.int .i64 k3,.bool b3,.string r3,.string t3,.slice ko3 N3 kc3,.slice vo3 M3 vc3] _ hrg5.out Tryz.underlying59 sizeVl rfl rfl rfl (by rfl) ?_;simp only [psA];refine wpList_store_want 59 _ _ w.heap.size 0 (List.toArray [.int .i64 k3,.bool b3,.string r3,.string t3,.slice ko3 N3 kc3,.slice vo3 M3 vc3]) (A5.out.there 6 rfl) sizeVl (by simp [Value.oneCell']) rfl rfl (by rfl) (by rfl) ?_;rw [List.toList_toArray,hW6];simp only [Act.put]) | fail)
      go_roundw
      case rel=>exact ⟨i+1,u,k3,b3,r3,t3,ko3,N3,kc3,vo3,M3,vc3,by omega,by simp,A6,Z6,V3',hld3,hwf3,hln3,K6,B6⟩
      case measure=>simp [intOf];omega
     ·have hnone:Hid (ldV t0 L=none):=hid (by rw [hld.out,hdr.out,ldV_no hst])
      clear hV hld hwf hlt' hst hdr
      have d0:=Z5.out.cell 0
      have d1:=Z5.out.cell 1
      have d2:=Z5.out.cell 2
      have d3:=Z5.out.cell 3
      have d4:=Z5.out.cell 4
      have d5:=Z5.out.cell 5
      have f0:=Z5.out.frozen 0
      have f1:=Z5.out.frozen 1
      have f2:=Z5.out.frozen 2
      have f3:=Z5.out.frozen 3
      have f4:=Z5.out.frozen 4
      have f5:=Z5.out.frozen 5
      simp only [List.getElem?_toArray,List.getElem?_cons_zero,List.getElem?_cons_succ] at d0 d1 d2 d3 d4 d5
      rw [hnone.out] at hF
      go_wp2
      refine ret_val3 (p:=4) (u:=5) (v:=6) rfl ?_ Z5.out.six rfl ?_ ?_
      ·rfl
      ·rfl
      refine ⟨_,by rw [hF.out];rfl,?_,below_six B5.out (by omega) _ _ _ _ _ _⟩
      rw [hF.out]
      exact vt0_on _ _
    ·obtain rfl:i=n:=by omega
     have hdn:L.drop i=[]:=List.drop_eq_nil_of_le (by rw [hn.out];exact Nat.le_refl _)
     rw [hdn,ldV_nil] at hld
     rw [hld.out] at hF
     have hcp:=hid (copied20_ex _ tt (Nat.le_refl _) hlt'.out _ wr (hV.out.kept hB.out))
     go_wp2_with (first | refine wpList_load_want 59 _ w.heap.size 0 [.int .i64 k2,.bool b2,.string r2,.string t2,.slice ko2 N2 kc2,.slice vo2 M2 vc2] _ (hA.out.range rfl) Tryz.underlying59 sizeVl rfl rfl rfl (by rfl) ?_ | fail)
     refine Calls.mono hcp.out ?_
     rintro e w5 ⟨x,rfl,hx5,b5⟩
     obtain ⟨k3,b3,r3,t3,ko3,N3,kc3,vo3,M3,vc3,rfl⟩:=hx5.at.lets
     have hX:=hid hx5
     have Z5:=hid (hZ.out.keptAll b5)
     have B5:=hid (hB.out.trans (b5.mono hB.out.size))
     have zlt:=hid hZ.out.lt
     clear hx5 b5 hcp hA hZ hB hK hV hld hwf hlt' hdn
     have d0:=Z5.out.cell 0
     have d1:=Z5.out.cell 1
     have d2:=Z5.out.cell 2
     have d3:=Z5.out.cell 3
     have d4:=Z5.out.cell 4
     have d5:=Z5.out.cell 5
     have f0:=Z5.out.frozen 0
     have f1:=Z5.out.frozen 1
     have f2:=Z5.out.frozen 2
     have f3:=Z5.out.frozen 3
     have f4:=Z5.out.frozen 4
     have f5:=Z5.out.frozen 5
     simp only [List.getElem?_toArray,List.getElem?_cons_zero,List.getElem?_cons_succ] at d0 d1 d2 d3 d4 d5
     go_wp2
     refine ret_val3 (p:=4) (u:=5) (v:=6) rfl ?_ Z5.out.six rfl ?_ ?_
     ·rfl
     ·rfl
     refine ⟨_,by rw [hF.out];rfl,?_,below_six B5.out (by omega) _ _ _ _ _ _⟩
     rw [hF.out]
     have hz4:=zlt.out
     exact hX.out.kept (fun b _ h=>by omega) ⟨same_six.1,fun b hb hl=>same_six.2 b (by omega) hl⟩
end Go.Proofs.YtjcpamjeekfblaaGreatDoor
