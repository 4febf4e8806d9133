import Derived.Test.YtongedjlmohogaaGreatDoorPyM
import Derived.Test.YtongedjlmohogaaGreatDoorPyB
import Derived.Test.YtongedjlmohogaaGreatDoorPwC
import Derived.Test.YtongedjlmohogaaGreatDoorTpE
import Derived.Maps.OwnIn
namespace Go.Proofs.YtongedjlmohogaaGreatDoor
open Go.RowKit Go.Shelf Go.Maps Go.ChangeMaps Go.WideShapes
def SetM (w:World) (B n:Nat) (p:ByteArray→Prop):Prop:=∃ D:DataW Unit,w.ownsMap Tryz.prog 9 unitElem B n D∧Tidy D∧∀ nm:ByteArray,Maps.has D (keyL nm)=true ↔ p nm
theorem SetM.lt {w:World} {B n:Nat} {p:ByteArray→Prop} (h:SetM w B n p):B<w.heap.size:=by
 obtain ⟨D,h,_⟩:=h
 exact h.lt
theorem SetM.same {w w':World} {B n:Nat} {p:ByteArray→Prop} (h:SetM w B n p) (hb:∀ o,w.heap[B]? = some o→w'.heap[B]? = some o):SetM w' B n p:=by
 obtain ⟨D,⟨es,clock,h1,h2⟩,h3⟩:=h
 exact ⟨D,⟨es,clock,hb _ h1,h2⟩,h3⟩
theorem SetM.iff {w:World} {B n:Nat} {p q:ByteArray→Prop} (h:SetM w B n p) (e:∀ x,p x ↔ q x):SetM w B n q:=by
 obtain ⟨D,h1,h2,h3⟩:=h
 exact ⟨D,h1,h2,fun nm=>(h3 nm).trans (e nm)⟩
theorem zeroU (w:World):(zeroValue 88).run Tryz.prog w = .ok (.agg #[]) w:=by kernel_rfl
theorem made0 (w:World):(Instr.makeMap 148 none).run Tryz.prog w = .ok (.map (some w.heap.size)) (w.alloc (.map #[] 0)):=by
 simp [Instr.makeMap]
def KidE (S:Nat→Prop) (L:List (List UInt8 × Vt)) (b r c:Nat) (x:Array Value) (W:World):Prop:=∃ p t v,L[r]? = some (p,t)∧x = #[.string (mkL p),v]∧b≤c∧c=W.heap.size∧ValOn S W t v
theorem SameOn.sub {S S0:Nat→Prop} {w w':World} (h:SameOn S w w') (hs:∀ c,S0 c→S c):SameOn S0 w w':=⟨h.1,fun b hb hl=>h.2 b (hs b hb) hl⟩
theorem KpC.sameS {S:Nat→Prop} {B c:Nat} {W W':World} (h:KpC S B c W W'):SameOn S W W':=⟨h.1,fun b hb hl=>by
 have e:W.heap[b]? = some W.heap[b]:=Array.getElem?_eq_getElem hl
 rw [h.2 b _ (.inl hb) e,e]⟩
set_option maxRecDepth 10000 in
set_option maxHeartbeats 8000000 in
theorem members1_tell (S S0:Nat→Prop) (hS0:∀ c,S0 c→S c) (nn:Nat) (s:Stp) (k:Int) (b:Bool) (rr tx:ByteArray) (ks:List ByteArray) (vs:List Vt) (hNM:ks.length=vs.length) (ko:Option Addr) (kc:Nat) (vo:Option Addr) (vc Bv Bx:Nat) (hSv:S Bv) (hSx:S Bx) (w:World)
  (hA:At w Bv #[.int .i64 k,.bool b,.string rr,.string tx,.slice ko ks.length kc,.slice vo vs.length vc] 59) (hX:At w Bx #[ifV s] 43)
  (hV:ValOn S0 w (.mk k b rr tx ks vs) (.agg #[.int .i64 k,.bool b,.string rr,.string tx,.slice ko ks.length kc,.slice vo vs.length vc])) :
  SeqTellR (fun _=>True) nn Tryz.prog 113 #[.pointer (some ⟨Bv,0,none⟩),.pointer (some ⟨Bx,0,none⟩)] (KidE S0 (mbT s ks vs ks.length)) (KpC S) (mbT s ks vs ks.length).length w:=by
 intro l J Jx W hbW hJ hJx hGd hY h0
 cases hV with
 | mk _ _ _ _ _ _ _ _ _ _ X hw hz hk hr hv =>
 have hk':=hid (hk.kept (S':=S0) (fun _ _ h=>h) (SameOn.below hbW))
 have hr':=hid (hr.kept (S':=S0) (fun _ _ h=>h) (SameOn.below hbW))
 have hv':=hid (fun i u hu=>(hv i u hu).keptB hbW)
 have hA':=hid (hA.keptAll hbW)
 have hX':=hid (hX.keptAll hbW)
 have hJ':=hid hJ
 have hJx':=hid hJx
 have hY':=hid hY
 have hNM':=hid hNM
 have hBv:=hid hA.lt
 have hBx:=hid hX.lt
 replace hBv:=hid (Nat.lt_of_lt_of_le hBv.out hbW.size)
 replace hBx:=hid (Nat.lt_of_lt_of_le hBx.out hbW.size)
 obtain ⟨L,hL⟩:∃ L,Hid (mbT s ks vs ks.length=L):=⟨_,rfl⟩
 rw [hL.out] at hY' ⊢
 obtain ⟨N,hN⟩:∃ N,Hid (ks.length=N):=⟨_,rfl⟩
 have hM:Hid (vs.length=N):=hid (hNM.symm.trans hN.out)
 rw [hN.out] at hL
 rw [hN.out,hM.out] at hA'
 have hNc:=hid (show N≤capT by have:=hz.2.2.1;rw [hN.out] at this;exact this)
 have hNi:(N:Int)≤140737488351232:=by have:=hNc.out;unfold capT at this;omega
 have hmm:=made0
 have htk:=hid (fun (nm:ByteArray) (u:World)=>takesI_calls s nm 0 true u)
 obtain ⟨fv,hfv⟩:∃ v,ifV s=v:=⟨_,rfl⟩
 rw [hfv] at htk hX'
 have hW0:=hid (hJ'.out 0 W)
 have J0:=hid (hJ 0 W (W.alloc (.map #[] 0)) h0 ((Below.refl _ W).alloc (Nat.le_refl _) _))
 have bm:=hid (show Below W.heap.size W (W.alloc (.map #[] 0)) from (Below.refl _ W).alloc (Nat.le_refl _) _)
 have A0:=hid (hA'.out.keptAll bm.out)
 have c4:(W.alloc (.map #[] 0)).cell? ⟨Bv,4,none⟩=some (.slice ko N kc):=A0.out.cell 4
 have X0:=hid (hX'.out.keptAll bm.out)
 have M0:Hid (SetM (W.alloc (.map #[] 0)) W.heap.size 0 (fun nm=>∃ j,j<0∧ks[j]? = some nm∧tkS s nm 0 true=true)):=hid ⟨_,World.ownsMap_made _ _ _ _,tidy_empty,fun nm=>⟨fun h=>(by cases h),fun ⟨j,hj,_⟩=>absurd hj (Nat.not_lt_zero _)⟩⟩
 have K0:=hid (show KpS S W.heap.size W (W.alloc (.map #[] 0)) from KpS.below bm.out)
 clear hJ hJx hY hGd hz hw hv hk hr hA hX hbW h0 hNM hfv
 refine callsIn_of_wp Tryz.func113 rfl trivial ?_ rfl
 simp only [Tryz.ntmps113,List.size_toArray,List.length_cons,List.length_nil,Nat.reduceAdd,Nat.reduceSub,Array.replicate_succ,Array.replicate_zero,List.push_toArray,List.append_toArray,List.nil_append,List.cons_append]
 gi_wp2_with fail
 gi_loopw [13] (fun ii wr=>∃ (i:Nat),i≤N∧ii = .int .i64 (i:Int)∧Hid (J (mbT s ks vs i).length wr)∧Hid (At wr Bv #[.int .i64 k,.bool b,.string rr,.string tx,.slice ko N kc,.slice vo N vc] 59)∧Hid (At wr Bx #[fv] 43) ∧
  Hid (SetM wr W.heap.size i (fun nm=>∃ j,j<i∧ks[j]? = some nm∧tkS s nm 0 true=true))∧Hid (W.heap.size<wr.heap.size∧SameOn S W wr)) (fun ii _=>N-(intOf ii).toNat)
 case atStart=>exact ⟨0,Nat.zero_le _,rfl,J0,A0,X0,M0,hid ⟨by rw [World.size_alloc];exact Nat.lt_succ_self _,K0.out.same |> fun h=>⟨h.1,fun b hb hl=>h.2 b (.inl hb) hl⟩⟩⟩
 case round =>
  obtain ⟨i,hi,rfl,hJr,hA,hX,hMp,hS⟩:=hrel
  clear J0 A0 X0 M0 K0 c4 hmm bm hW0
  by_cases hlt:i<N
  ·have hli:(i:Int)<(N:Int):=by omega
   obtain ⟨nm,hnm⟩:∃ u,Hid (ks[i]? = some u):=⟨_,List.getElem?_eq_getElem (by rw [hN.out];exact hlt)⟩
   obtain ⟨u1,hu1⟩:∃ u,Hid (vs[i]? = some u):=⟨_,List.getElem?_eq_getElem (by rw [hM.out];exact hlt)⟩
   obtain ⟨hs,g,o,rfl,hg,hc⟩:=(hk'.out.kept (S':=S0) (fun _ _ h=>h) (hS.out.2.sub hS0)).at i nm hnm.out
   have hkey:=hid (keyS hs)
   have ad1:(⟨g,o,none⟩:Addr).add i=⟨g,o+i,none⟩:=by by_cases h:i=0 <;> simp [Addr.add,h]
   have cX:wr.cell? ⟨Bx,0,none⟩=some fv:=hX.out.cell 0
   have hlt':=hid hlt
   have hi1:=hid (show i+1≤N by omega)
   have htw:=hid (htk.out nm)
   clear hs hg hi hA'
   cases hT:tkS s nm 0 true with
   | false =>
    have hnx:=hid (mbT_no hnm.out hu1.out hT)
    have hpx:=hid (show ∀ x,(∃ j,j<i∧ks[j]? = some x∧tkS s x 0 true=true) ↔ (∃ j,j<i+1∧ks[j]? = some x∧tkS s x 0 true=true) from fun x=>⟨fun ⟨j,h1,h2⟩=>⟨j,by omega,h2⟩,fun ⟨j,h1,h2,h3⟩=>by
     by_cases e:j=i
     ·subst e;rw [hnm.out] at h2;cases h2;rw [hT] at h3;cases h3
     ·exact ⟨j,by omega,h2,h3⟩⟩)
    rw [hT] at htw
    clear hT
    gi_wp2_with fail
    refine ⟨trivial,(fun h=>by cases h),?_⟩
    refine (callsIn_wide.2 (htw.out _)).mono ?_
    rintro e w1 ⟨rfl,b1⟩
    have J1:=hid (hJ'.out _ _ _ hJr.out (b1.mono (by have:=hS.out.1;omega)))
    have A1:=hid (hA.out.keptAll b1)
    have X1:=hid (hX.out.keptAll b1)
    have M1:=hid ((hMp.out.same (fun o h=>(b1.block _ hMp.out.lt).trans h)).iff hpx.out)
    have S1:=hid (show W.heap.size<w1.heap.size∧SameOn S W w1 from ⟨by have:=b1.size;have:=hS.out.1;omega,⟨Nat.le_trans hS.out.2.1 b1.size,fun q hq hl=>((SameOn.below b1).2 q hq (Nat.lt_of_lt_of_le hl hS.out.2.1)).trans (hS.out.2.2 q hq hl)⟩⟩)
    clear hJr hA hX hMp hS b1 htw cX hc
    gi_wp2
    go_roundw
    case rel=>exact ⟨i+1,hi1.out,by simp,hid (by rw [hnx.out];exact J1.out),A1,X1,hid (by obtain ⟨D,h1,h2⟩:=M1.out;exact ⟨D,h1.mono (Nat.le_succ _),h2⟩),S1⟩
    case measure=>simp [intOf];have:=hi1.out;omega
   | true =>
    rw [hT] at htw
    gi_wp2_with fail
    refine ⟨trivial,(fun h=>by cases h),?_⟩
    refine (callsIn_wide.2 (htw.out _)).mono ?_
    rintro e w1 ⟨rfl,b1⟩
    have J1:=hid (hJ'.out _ _ _ hJr.out (b1.mono (by have:=hS.out.1;omega)))
    have A1:=hid (hA.out.keptAll b1)
    have X1:=hid (hX.out.keptAll b1)
    have M1:=hid (hMp.out.same (fun o h=>(b1.block _ hMp.out.lt).trans h))
    have S1:=hid (show W.heap.size<w1.heap.size∧SameOn S W w1 from ⟨by have:=b1.size;have:=hS.out.1;omega,⟨Nat.le_trans hS.out.2.1 b1.size,fun q hq hl=>((SameOn.below b1).2 q hq (Nat.lt_of_lt_of_le hl hS.out.2.1)).trans (hS.out.2.2 q hq hl)⟩⟩)
    clear hJr hA hX hMp hS htw cX hc
    obtain ⟨D,hown,htd,hhas⟩:=M1.out
    have hown':=hid hown
    have htd':=hid htd
    have hhas':=hid hhas
    have hT':=hid hT
    clear hown htd hhas hT
    by_cases hd:∃ j,j<i∧ks[j]? = some nm
    ·obtain ⟨j,hj,hjk⟩:=hd
     have hH:Maps.has D (keyL nm)=true:=(hhas'.out nm).2 ⟨j,hj,hjk,hT'.out⟩
     have hnx:=hid (mbT_twice (s:=s) hnm.out hu1.out hj hjk)
     have hpx:=hid (show ∀ x,(∃ j,j<i∧ks[j]? = some x∧tkS s x 0 true=true) ↔ (∃ j,j<i+1∧ks[j]? = some x∧tkS s x 0 true=true) from fun x=>⟨fun ⟨j,h1,h2⟩=>⟨j,by omega,h2⟩,fun ⟨j',h1,h2,h3⟩=>by
      by_cases e:j'=i
      ·subst e;rw [hnm.out] at h2;cases h2;exact ⟨j,hj,hjk,h3⟩
      ·exact ⟨j',by omega,h2,h3⟩⟩)
     have bs:=hid (show Below w1.heap.size w1 (w1.alloc (.cells #[] 88)) from (Below.refl _ w1).alloc (Nat.le_refl _) _)
     have J2:=hid (hJ'.out _ _ _ J1.out (bs.out.mono (by have:=S1.out.1;omega)))
     have A2:=hid (A1.out.keptAll bs.out)
     have X2:=hid (X1.out.keptAll bs.out)
     have M2:=hid ((M1.out.same (fun o h=>(bs.out.block _ M1.out.lt).trans h)).iff hpx.out)
     have S2:=hid (show W.heap.size<(w1.alloc (.cells #[] 88)).heap.size∧SameOn S W (w1.alloc (.cells #[] 88)) from ⟨by have:=bs.out.size;have:=S1.out.1;omega,⟨Nat.le_trans S1.out.2.1 bs.out.size,fun q hq hl=>((SameOn.below bs.out).2 q hq (Nat.lt_of_lt_of_le hl S1.out.2.1)).trans (S1.out.2.2 q hq hl)⟩⟩)
     clear hj hjk J1 A1 X1 M1 S1 b1
     gi_wp2_with (first | (gi_at_lookup;refine wpListIn_lookup_own_unit _ rfl _ _ 148 rfl 9 88 lawS Tryz.underlying148 (zeroU _) W.heap.size i D rfl hown'.out _ _ rfl hkey.out ?_) | fail)
     go_roundw
     case rel=>exact ⟨i+1,hi1.out,by simp,hid (by rw [hnx.out];exact J2.out),A2,X2,hid (by obtain ⟨D,h1,h2⟩:=M2.out;exact ⟨D,h1.mono (Nat.le_succ _),h2⟩),S2⟩
     case measure=>simp [intOf];have:=hi1.out;omega
    ·have hno:∀ j,j<i→ks[j]?≠some nm:=fun j hj e=>hd ⟨j,hj,e⟩
     have hH:Maps.has D (keyL nm)=false:=by
      cases h:Maps.has D (keyL nm) with
      | false=>rfl
      | true =>
       obtain ⟨j,h1,h2,-⟩:=(hhas'.out nm).1 h
       exact absurd h2 (hno j h1)
     have hnx:=hid (mbT_yes hnm.out hu1.out hT'.out hno)
     have bs:=hid (show Below w1.heap.size w1 (w1.alloc (.cells #[] 88)) from (Below.refl _ w1).alloc (Nat.le_refl _) _)
     have J2:=hid (hJ'.out _ _ _ J1.out (bs.out.mono (by have:=S1.out.1;omega)))
     have A2:=hid (A1.out.keptAll bs.out)
     have X2:=hid (X1.out.keptAll bs.out)
     have M2:=hid (show (w1.alloc (.cells #[] 88)).ownsMap Tryz.prog 9 unitElem W.heap.size i D from by
      obtain ⟨es,clock,h1,h2⟩:=hown'.out
      exact ⟨es,clock,(bs.out.block _ hown'.out.lt).trans h1,h2⟩)
     have S2:=hid (show W.heap.size<(w1.alloc (.cells #[] 88)).heap.size∧SameOn S W (w1.alloc (.cells #[] 88)) from ⟨by have:=bs.out.size;have:=S1.out.1;omega,⟨Nat.le_trans S1.out.2.1 bs.out.size,fun q hq hl=>((SameOn.below bs.out).2 q hq (Nat.lt_of_lt_of_le hl S1.out.2.1)).trans (S1.out.2.2 q hq hl)⟩⟩)
     clear hd hno J1 A1 X1 M1 S1 b1
     gi_wp2_with (first | (gi_at_lookup;refine wpListIn_lookup_own_unit _ rfl _ _ 148 rfl 9 88 lawS Tryz.underlying148 (zeroU _) W.heap.size i D rfl hown'.out _ _ rfl hkey.out ?_) | (gi_at_mapUpdate;refine wpListIn_mapUpdate_own _ rfl _ _ _ 148 rfl 9 88 lawS Tryz.underlying148 unitElem W.heap.size i D rfl M2.out (by have:=hNc.out;have:=hi1.out;unfold capT at *;unfold maxLen;omega) _ _ _ rfl rfl hkey.out (.agg []) [] unitElem_mk ?_) | fail)
     intro w2 hown2 hgrow2
     have B3:=hid (below_of_grown (B:=W.heap.size) hgrow2 (by have:=S2.out.1;omega) (fun r e=>by cases e;exact Nat.le_refl _))
     have J3:=hid (hJ'.out _ _ _ J2.out B3.out)
     have A3:Hid (At w2 Bv _ _):=hid ((B3.out.block _ hBv.out).trans A2.out)
     have X3:Hid (At w2 Bx _ _):=hid ((B3.out.block _ hBx.out).trans X2.out)
     have S3:=hid (show W.heap.size<w2.heap.size∧SameOn S W w2 from ⟨by have:=B3.out.size;have:=S2.out.1;omega,⟨Nat.le_trans S2.out.2.1 B3.out.size,fun q hq hl=>(B3.out.block q hl).trans (S2.out.2.2 q hq hl)⟩⟩)
     have hkl:WideAt.IsKeyLit (keyL nm):=trivial
     have M3:Hid (SetM w2 W.heap.size (i+1) (fun x=>∃ j,j<i+1∧ks[j]? = some x∧tkS s x 0 true=true)):=hid ⟨_,hown2,htd'.out.put hkl _,fun x=>by
      by_cases e:x=nm
      ·subst e
       exact ⟨fun _=>⟨i,by omega,hnm.out,hT'.out⟩,fun _=>Maps.has_put_same htd'.out.isMap hkl _⟩
      ·have hne:keyL x≠keyL nm:=fun h1=>e (keyL_inj h1)
       rw [Maps.has_put_other hne]
       refine (hhas'.out x).trans ⟨fun ⟨j,h1,h2⟩=>⟨j,by omega,h2⟩,fun ⟨j,h1,h2,h3⟩=>?_⟩
       by_cases e':j=i
       ·subst e';rw [hnm.out] at h2;cases h2;exact absurd rfl e
       ·exact ⟨j,by omega,h2,h3⟩⟩
     have hV3:=hid ((hv'.out i u1 hu1.out).kept (S':=S0) (fun _ _ h=>h) (S3.out.2.sub hS0))
     have hrw:=(hr'.out.kept (S':=S0) (fun _ _ h=>h) (S3.out.2.sub hS0)).at
     obtain ⟨g2,o2,rfl,hg2,hrg,hl1⟩:=row_range hrw (i:=i) (by rw [hM.out];exact hlt'.out)
     obtain ⟨L1,hL1⟩:∃ L,Hid ((X i).toList=L):=⟨_,rfl⟩
     rw [hL1.out] at hrg hl1
     have z1:(Tryz.prog.info? 59).map (·.size)=some L1.length:=by rw [hl1];exact sizeVl
     have v1:Hid (ValOn S0 w2 u1 (.agg L1.toArray)):=by
      have:=hV3.out
      rw [← hL1.out,Array.toArray_toList]
      exact this
     obtain ⟨k1,b1,r1,t1,ko1,N1,kc1,vo1,M1,vc1,rfl⟩:=v1.out.at.six
     have hrgk:=hid hrg
     have hpre:=hid (show L[(mbT s ks vs i).length]? = some (nm.data.toList,u1) from pre_get (by rw [← hnx.out,← hL.out];exact mbT_pre s ks vs N (i+1) hi1.out))
     have hltL:=hid (List.getElem?_eq_some_iff.1 hpre.out).1
     have hE:=hid (show KidE S0 L W.heap.size (mbT s ks vs i).length w2.heap.size #[.string nm,.agg #[.int .i64 k1,.bool b1,.string r1,.string t1,.slice ko1 N1 kc1,.slice vo1 M1 vc1]] w2 from ⟨nm.data.toList,u1,_,hpre.out,by rw [mkL_data],Nat.le_of_lt S3.out.1,rfl,v1.out⟩)
     obtain ⟨fn,tmps,assign,body,hy,hRd⟩:=hY'.out _ _ _ w2 J3.out hltL.out hE.out
     have hRd':=hid hRd
     have c5:w2.cell? ⟨Bv,5,none⟩=some (.slice (some ⟨g2,o2,none⟩) N vc):=A3.out.cell 5
     have hln1:=hid (show (mbT s ks vs (i+1)).length=(mbT s ks vs i).length+1 by rw [hnx.out];simp)
     have hltL':=hid (show (mbT s ks vs i).length+1≤L.length from hltL.out)
     clear hown2 hgrow2 J2 A2 X2 M2 S2 B3 hrw hg2 hrg hl1 hV3 hE hRd bs hown' htd' hhas'
     gi_wp2_with (first | refine wpListIn_load_want 59 _ g2 (o2+i*6) [.int .i64 k1,.bool b1,.string r1,.string t1,.slice ko1 N1 kc1,.slice vo1 M1 vc1] _ hrgk.out Tryz.underlying59 z1 rfl rfl rfl (by rfl) ?_ | fail)
     refine ⟨(fun h=>by cases h),?_⟩
     refine (hRd'.out).mono ?_
     rintro e W3 (⟨rfl,hJ4,hk4⟩ | ⟨rfl,hJx4,hk4⟩)
     ·have J4:=hid hJ4
      have A4:=hid (hk4.at A3.out (.inl hSv))
      have X4:=hid (hk4.at X3.out (.inl hSx))
      have M4:=hid (M3.out.same (fun o h=>hk4.2 _ o (.inr ⟨Nat.le_refl _,S3.out.1⟩) h))
      have S4:=hid (show W.heap.size<W3.heap.size∧SameOn S W W3 from ⟨Nat.lt_of_lt_of_le S3.out.1 hk4.1,⟨Nat.le_trans S3.out.2.1 hk4.1,fun q hq hl=>(hk4.sameS.2 q hq (Nat.lt_of_lt_of_le hl S3.out.2.1)).trans (S3.out.2.2 q hq hl)⟩⟩)
      clear hy hRd' hJ4 hk4 J3 A3 X3 M3 S3 hrgk z1 c5 v1
      gi_wp2
      go_roundw
      case rel=>exact ⟨i+1,hi1.out,by simp,hid (by rw [hln1.out];exact J4.out),A4,X4,M4,S4⟩
      case measure=>simp [intOf];have:=hi1.out;omega
     ·have J4:=hid hJx4
      clear hy hRd' hJx4 hk4 J3 A3 X3 M3 S3 hrgk z1 c5 v1
      gi_wp2
      refine bodyPost_ret (v:=.tuple #[]) (by simp [results,Tryz.results113,go_sem]) rfl ?_
      exact ⟨⟨_,rfl⟩,.inr ⟨_,hltL'.out,J4.out⟩⟩
  ·obtain rfl:i=N:=by omega
   have hfin:=hid (show J L.length wr by rw [← hL.out];exact hJr.out)
   clear hJr
   gi_wp2
   refine bodyPost_end (results_none rfl _ _ _) rfl ?_
   exact ⟨⟨_,rfl⟩,.inl hfin.out⟩
end Go.Proofs.YtongedjlmohogaaGreatDoor
