import Derived.Test.YtongedjlmohogaaGreatDoorPack7
import Derived.Test.YtongedjlmohogaaGreatDoorPyC
namespace Go.Proofs.YtongedjlmohogaaGreatDoor
open Go.RowKit Go.Shelf Go.Maps Go.ChangeMaps Go.WideShapes
set_option maxRecDepth 10000 in
set_option maxHeartbeats 8000000 in
theorem elements1_tell (S S0:Nat→Prop) (hS0:∀ c,S0 c→S c) (nn:Nat) (s:Stp) (k:Int) (b:Bool) (rr tx:ByteArray) (ks:List ByteArray) (vs:List Vt) (ko:Option Addr) (kc:Nat) (vo:Option Addr) (vc Bv Bx:Nat) (hSv:S Bv) (hSx:S Bx) (w:World)
  (hA:At w Bv #[.int .i64 k,.bool b,.string rr,.string tx,.slice ko ks.length kc,.slice vo vs.length vc] 59) (hX:At w Bx #[ifV s] 43)
  (hV:ValOn S0 w (.mk k b rr tx ks vs) (.agg #[.int .i64 k,.bool b,.string rr,.string tx,.slice ko ks.length kc,.slice vo vs.length vc])) :
  SeqTellR PowT nn Tryz.prog 114 #[.pointer (some ⟨Bv,0,none⟩),.pointer (some ⟨Bx,0,none⟩)] (KidE S0 (elT s vs vs.length)) (KpC S) (elT s vs vs.length).length w:=by
 intro l J Jx W hbW hJ hJx hGd hY h0
 cases hV with
 | mk _ _ _ _ _ _ _ _ _ _ X hw hz hk hr hv =>
 have hr':=hid (hr.kept (S':=S0) (fun _ _ h=>h) (SameOn.below hbW))
 have hv':=hid (fun i u hu=>(hv i u hu).keptB hbW)
 have hA':=hid (hA.keptAll hbW)
 have hX':=hid (hX.keptAll hbW)
 have hJ':=hid hJ
 have hJx':=hid hJx
 have hY':=hid hY
 have hGd':=hid hGd
 obtain ⟨L,hL⟩:∃ L,Hid (elT s vs vs.length=L):=⟨_,rfl⟩
 rw [hL.out] at hY' ⊢
 obtain ⟨M,hM⟩:∃ N,Hid (vs.length=N):=⟨_,rfl⟩
 obtain ⟨N,hN⟩:∃ N,Hid (ks.length=N):=⟨_,rfl⟩
 rw [hM.out] at hL
 rw [hN.out,hM.out] at hA'
 have hMi:(M:Int)≤140737488351232:=by have:=hz.2.2.2;rw [hM.out] at this;unfold capT at this;omega
 have htk:=hid (fun (i:Int) (u:World)=>takesI_calls s ⟨#[]⟩ i false u)
 obtain ⟨fv,hfv⟩:∃ v,ifV s=v:=⟨_,rfl⟩
 rw [hfv] at htk hX'
 have J0:=hid h0
 have c5:W.cell? ⟨Bv,5,none⟩=some (.slice vo M vc):=hA'.out.cell 5
 clear hJ hJx hY hGd hz hw hv hk hr hA hX hbW h0 hfv
 refine callsIn_of_wp Tryz.func114 rfl trivial ?_ rfl
 simp only [Tryz.ntmps114,List.size_toArray,List.length_cons,List.length_nil,Nat.reduceAdd,Nat.reduceSub,Array.replicate_succ,Array.replicate_zero,List.push_toArray,List.append_toArray,List.nil_append,List.cons_append]
 gi_wp2_with fail
 gi_loopw [9] (fun ii wr=>∃ (i:Nat),i≤M∧ii = .int .i64 (i:Int)∧Hid (J (elT s vs i).length wr)∧Hid (At wr Bv #[.int .i64 k,.bool b,.string rr,.string tx,.slice ko N kc,.slice vo M vc] 59)∧Hid (At wr Bx #[fv] 43) ∧
  Hid (W.heap.size≤wr.heap.size∧SameOn S W wr)) (fun ii _=>M-(intOf ii).toNat)
 case atStart=>exact ⟨0,Nat.zero_le _,rfl,J0,hA',hX',hid ⟨Nat.le_refl _,⟨Nat.le_refl _,fun _ _ _=>rfl⟩⟩⟩
 case round =>
  obtain ⟨i,hi,rfl,hJr,hA,hX,hS⟩:=hrel
  clear J0 hA' hX' c5
  by_cases hlt:i<M
  ·have hli:(i:Int)<(M:Int):=by omega
   obtain ⟨u1,hu1⟩:∃ u,Hid (vs[i]? = some u):=⟨_,List.getElem?_eq_getElem (by rw [hM.out];exact hlt)⟩
   have hlt':=hid hlt
   have hi1:=hid (show i+1≤M by omega)
   have htw:=hid (htk.out (i:Int))
   have hVr:=hid ((hv'.out i u1 hu1.out).kept (S':=S0) (fun _ _ h=>h) (hS.out.2.sub hS0))
   have hrw:=(hr'.out.kept (S':=S0) (fun _ _ h=>h) (hS.out.2.sub hS0)).at
   obtain ⟨g2,o2,rfl,hg2,hrg,hl1⟩:=row_range hrw (i:=i) (by rw [hM.out];exact hlt)
   obtain ⟨L1,hL1⟩:∃ L,Hid ((X i).toList=L):=⟨_,rfl⟩
   rw [hL1.out] at hrg hl1
   have z1:(Tryz.prog.info? 59).map (·.size)=some L1.length:=by rw [hl1];exact sizeVl
   have v1:Hid (ValOn S0 wr u1 (.agg L1.toArray)):=by
    have:=hVr.out
    rw [← hL1.out,Array.toArray_toList]
    exact this
   obtain ⟨k1,b1,r1,t1,ko1,N1,kc1,vo1,M1,vc1,rfl⟩:=v1.out.at.six
   have hrgk:=hid hrg
   have Bx1:Hid (Below wr.heap.size wr (wr.alloc (.cells #[.int .i64 k1,.bool b1,.string r1,.string t1,.slice ko1 N1 kc1,.slice vo1 M1 vc1] 59))):=(Below.refl _ wr).alloc (Nat.le_refl _) _
   have D1:=hid (At.new wr #[.int .i64 k1,.bool b1,.string r1,.string t1,.slice ko1 N1 kc1,.slice vo1 M1 vc1] 59)
   have J1:=hid (hJ'.out _ _ _ hJr.out (Bx1.out.mono hS.out.1))
   have A1:=hid (hA.out.keptAll Bx1.out)
   have X1:=hid (hX.out.keptAll Bx1.out)
   have V1:=hid (v1.out.keptB Bx1.out)
   have S1:=hid (show W.heap.size≤(wr.alloc (.cells #[.int .i64 k1,.bool b1,.string r1,.string t1,.slice ko1 N1 kc1,.slice vo1 M1 vc1] 59)).heap.size∧SameOn S W (wr.alloc (.cells #[.int .i64 k1,.bool b1,.string r1,.string t1,.slice ko1 N1 kc1,.slice vo1 M1 vc1] 59)) from ⟨by have:=Bx1.out.size;have:=hS.out.1;omega,⟨Nat.le_trans hS.out.2.1 Bx1.out.size,fun q hq hl=>((SameOn.below Bx1.out).2 q hq (Nat.lt_of_lt_of_le hl hS.out.2.1)).trans (hS.out.2.2 q hq hl)⟩⟩)
   obtain ⟨q,hq⟩:∃ q,wr.heap.size=q:=⟨_,rfl⟩
   have cv5:wr.cell? ⟨Bv,5,none⟩=some (.slice (some ⟨g2,o2,none⟩) M vc):=hA.out.cell 5
   clear hi hrw hg2 hrg hl1 hVr hJr hA hX hS v1 Bx1
   gi_wp2_with (first | refine wpListIn_load_want 59 _ g2 (o2+i*6) [.int .i64 k1,.bool b1,.string r1,.string t1,.slice ko1 N1 kc1,.slice vo1 M1 vc1] _ hrgk.out Tryz.underlying59 z1 rfl rfl rfl (by rfl) ?_ | fail)
   rw [hq] at D1
   generalize wr.alloc (.cells #[.int .i64 k1,.bool b1,.string r1,.string t1,.slice ko1 N1 kc1,.slice vo1 M1 vc1] 59)=Wa at *
   have cX:Wa.drew.cell? ⟨Bx,0,none⟩=some fv:=X1.out.drew.cell 0
   have bd:=hid (show Below Wa.heap.size Wa Wa.drew from (Below.refl _ Wa).drew)
   have J1d:=hid (hJ'.out _ _ _ J1.out (bd.out.mono S1.out.1))
   have A1d:=hid A1.out.drew
   have X1d:=hid X1.out.drew
   have V1d:=hid (V1.out.keptB bd.out)
   have D1d:=hid D1.out.drew
   have S1d:=hid (show W.heap.size≤Wa.drew.heap.size∧SameOn S W Wa.drew from ⟨S1.out.1,⟨S1.out.2.1,fun q hq hl=>((SameOn.below bd.out).2 q hq (Nat.lt_of_lt_of_le hl S1.out.2.1)).trans (S1.out.2.2 q hq hl)⟩⟩)
   clear J1 A1 X1 V1 D1 S1 hrgk z1 cv5
   cases hT:tkS s ⟨#[]⟩ (i:Int) false with
   | false =>
    have hnx:=hid (elT_no hu1.out hT)
    rw [hT] at htw
    clear hT
    refine wpIn_region_any (by kernel_rfl) ?_
    (refine' wpAnyIn_take (i:=1) rfl rfl (by kernel_rfl) (by kernel_rfl) (by kernel_rfl) (fun _ _ _ h=>h) ⟨Or.inl ⟨by rfl,?_⟩,fun _=>by rfl⟩ ?_;rotate_left;(· (intro wq;go_simp;first | done | with_reducible rfl));simp only [psA])
    refine wpAnyIn_ready (rs:=[0]) (by kernel_rfl) (by simp) ?_
    refine AllReadyIn.cons rfl (fun K hK=>?_) ?_
    ·rw [if_pos (by rfl)]
     unfold Oper.wpIn
     go_simp
     refine hK _ _ ?_
     clear hK K
     refine wpAnyIn_ready (rs:=[2]) (by kernel_rfl) (by simp) ?_
     refine AllReadyIn.cons rfl (fun K hK=>?_) ?_
     ·rw [if_pos (by rfl)]
      unfold Oper.wpIn
      go_simp
      refine ⟨trivial,(fun h=>by cases h),?_⟩
      refine (callsIn_wide.2 (htw.out _)).mono ?_
      rintro e w3 ⟨rfl,b3⟩
      refine hK _ _ ?_
      clear hK K
      (refine' wpAnyIn_take (i:=3) rfl rfl (by kernel_rfl) (by kernel_rfl) (by kernel_rfl) (fun _ _ _ h=>h) ⟨Or.inl ⟨by rfl,?_⟩,fun _=>by rfl⟩ ?_;rotate_left;(· (intro wq;go_simp;first | done | with_reducible rfl));simp only [psA])
      (refine wpAnyIn_take (i:=4) (v:=undef) rfl rfl (by kernel_rfl) (by kernel_rfl) (by kernel_rfl) (fun _ _ _ h=>h) ⟨Or.inr ⟨by rfl,rfl⟩,fun _=>by rfl⟩ ?_;simp only [psA])
      (refine wpAnyIn_take (i:=5) (v:=undef) rfl rfl (by kernel_rfl) (by kernel_rfl) (by kernel_rfl) (fun _ _ _ h=>h) ⟨Or.inr ⟨by rfl,rfl⟩,fun _=>by rfl⟩ ?_;simp only [psA])
      (refine wpAnyIn_take (i:=7) (v:=undef) rfl rfl (by kernel_rfl) (by kernel_rfl) (by kernel_rfl) (fun _ _ _ h=>h) ⟨Or.inr ⟨by rfl,rfl⟩,fun _=>by rfl⟩ ?_;simp only [psA])
      refine wpAnyIn_ready (rs:=[6]) (by kernel_rfl) (by simp) ?_
      refine AllReadyIn.cons rfl (fun K hK=>?_) ?_
      rotate_left
      ·exact AllReadyIn.nil
      refine (if_neg (c:=_=true) (fun h=>Bool.false_ne_true (show false=true from h))).mpr ?_
      refine ⟨fun _ _=>trivial,hK _ _ ?_⟩
      clear hK K
      refine wpAnyIn_ready (rs:=[8]) (by kernel_rfl) (by simp) ?_
      refine AllReadyIn.cons rfl (fun K hK=>?_) ?_
      rotate_left
      ·exact AllReadyIn.nil
      refine (if_neg (c:=_=true) (fun h=>Bool.false_ne_true (show false=true from h))).mpr ?_
      refine ⟨fun _ _=>trivial,hK _ _ ?_⟩
      clear hK K
      (refine wpAnyIn_take (i:=9) (v:=undef) rfl rfl (by kernel_rfl) (by kernel_rfl) (by kernel_rfl) (fun _ _ _ h=>h) ⟨Or.inr ⟨by rfl,rfl⟩,fun _=>by rfl⟩ ?_;simp only [psA])
      (refine' wpAnyIn_take (i:=10) rfl rfl (by kernel_rfl) (by kernel_rfl) (by kernel_rfl) (fun _ _ _ h=>h) ⟨Or.inl ⟨by rfl,?_⟩,fun _=>by rfl⟩ ?_;rotate_left;(· (intro wq;go_simp;first | done | with_reducible rfl));simp only [psA])
      refine wpAnyIn_done (by kernel_rfl) ?_ _
      have J3:=hid (hJ'.out _ _ _ J1d.out (b3.mono S1d.out.1))
      have A3:=hid (A1d.out.keptAll b3)
      have X3:=hid (X1d.out.keptAll b3)
      have S3:=hid (show W.heap.size≤w3.heap.size∧SameOn S W w3 from ⟨by have:=b3.size;have:=S1d.out.1;omega,⟨Nat.le_trans S1d.out.2.1 b3.size,fun q hq hl=>((SameOn.below b3).2 q hq (Nat.lt_of_lt_of_le hl S1d.out.2.1)).trans (S1d.out.2.2 q hq hl)⟩⟩)
      clear J1d A1d X1d V1d D1d S1d bd b3 cX htw
      gi_wp2
      go_roundw
      case rel=>exact ⟨i+1,hi1.out,by simp,hid (by rw [hnx.out];exact J3.out),A3,X3,S3⟩
      case measure=>simp [intOf];have:=hi1.out;omega
     ·exact AllReadyIn.nil
    ·exact AllReadyIn.nil
   | true =>
    have hnx:=hid (elT_yes hu1.out hT)
    rw [hT] at htw
    clear hT
    have hpre:=hid (show L[(elT s vs i).length]? = some (Lib.itoa (i:Int),u1) from pre_get (by rw [← hnx.out,← hL.out];exact elT_pre s vs M (i+1) hi1.out))
    have hltL:=hid (List.getElem?_eq_some_iff.1 hpre.out).1
    have hln1:=hid (show (elT s vs (i+1)).length=(elT s vs i).length+1 by rw [hnx.out];simp)
    have hltL':=hid (show (elT s vs i).length+1≤L.length from hltL.out)
    refine wpIn_region_any (by kernel_rfl) ?_
    (refine' wpAnyIn_take (i:=1) rfl rfl (by kernel_rfl) (by kernel_rfl) (by kernel_rfl) (fun _ _ _ h=>h) ⟨Or.inl ⟨by rfl,?_⟩,fun _=>by rfl⟩ ?_;rotate_left;(· (intro wq;go_simp;first | done | with_reducible rfl));simp only [psA])
    refine wpAnyIn_ready (rs:=[0]) (by kernel_rfl) (by simp) ?_
    refine AllReadyIn.cons rfl (fun K hK=>?_) ?_
    ·rw [if_pos (by rfl)]
     unfold Oper.wpIn
     go_simp
     refine hK _ _ ?_
     clear hK K
     refine wpAnyIn_ready (rs:=[2]) (by kernel_rfl) (by simp) ?_
     refine AllReadyIn.cons rfl (fun K hK=>?_) ?_
     ·rw [if_pos (by rfl)]
      unfold Oper.wpIn
      go_simp
      refine ⟨trivial,(fun h=>by cases h),?_⟩
      refine (callsIn_wide.2 (htw.out _)).mono ?_
      rintro e w2 ⟨rfl,b2⟩
      refine hK _ _ ?_
      clear hK K
      have J2:=hid (hJ'.out _ _ _ J1d.out (b2.mono S1d.out.1))
      have A2:=hid (A1d.out.keptAll b2)
      have X2:=hid (X1d.out.keptAll b2)
      have V2:=hid (V1d.out.keptB b2)
      have D2:=hid (D1d.out.keptAll b2)
      have S2:=hid (show W.heap.size≤w2.heap.size∧SameOn S W w2 from ⟨by have:=b2.size;have:=S1d.out.1;omega,⟨Nat.le_trans S1d.out.2.1 b2.size,fun q hq hl=>((SameOn.below b2).2 q hq (Nat.lt_of_lt_of_le hl S1d.out.2.1)).trans (S1d.out.2.2 q hq hl)⟩⟩)
      have hPw:=hid (hGd'.out _ _ J2.out)
      have d0:=D2.out.cell 0
      have d1:=D2.out.cell 1
      have d2:=D2.out.cell 2
      have d3:=D2.out.cell 3
      have d4:=D2.out.cell 4
      have d5:=D2.out.cell 5
      simp only [List.getElem?_toArray,List.getElem?_cons_zero,List.getElem?_cons_succ] at d0 d1 d2 d3 d4 d5
      clear b2 J1d A1d X1d V1d D1d S1d bd cX htw
      (refine' wpAnyIn_take (i:=3) rfl rfl (by kernel_rfl) (by kernel_rfl) (by kernel_rfl) (fun _ _ _ h=>h) ⟨Or.inl ⟨by rfl,?_⟩,fun _=>by rfl⟩ ?_;rotate_left;(· (intro wq;go_simp;first | done | with_reducible rfl));simp only [psA])
      (refine' wpAnyIn_take (i:=4) rfl rfl (by kernel_rfl) (by kernel_rfl) (by kernel_rfl) (fun _ _ _ h=>h) ⟨Or.inl ⟨by rfl,?_⟩,fun _=>by rfl⟩ ?_;rotate_left;(· (intro wq;go_simp;first | done | with_reducible rfl));simp only [psA])
      (refine' wpAnyIn_take (i:=5) rfl rfl (by kernel_rfl) (by kernel_rfl) (by kernel_rfl) (fun _ _ _ h=>h) ⟨Or.inl ⟨by rfl,?_⟩,fun _=>by rfl⟩ ?_;rotate_left;(· (intro wq;go_simp;first | done | with_reducible rfl));simp only [psA])
      refine wpAnyIn_ready (rs:=[6,7]) (by kernel_rfl) (by simp) ?_
      refine AllReadyIn.cons rfl (fun K hK=>?_) ?_
      ·rw [if_pos (by rfl)]
       unfold Oper.wpIn
       go_simp
       refine ⟨trivial,(fun h=>by cases h),?_⟩
       refine (callsIn_wide.2 (itoa_calls (i:Int) (by omega) (by omega) _ hPw.out)).mono ?_
       rintro e w3 ⟨rfl,b3⟩
       refine hK _ _ ?_
       clear hK K
       have J3:=hid (hJ'.out _ _ _ J2.out (b3.mono (by have:=S2.out.1;omega)))
       have A3:=hid (A2.out.keptAll b3)
       have X3:=hid (X2.out.keptAll b3)
       have V3:=hid (V2.out.keptB b3)
       have D3:=hid (D2.out.keptAll b3)
       have S3:=hid (show W.heap.size≤w3.heap.size∧SameOn S W w3 from ⟨by have:=b3.size;have:=S2.out.1;omega,⟨Nat.le_trans S2.out.2.1 b3.size,fun q hq hl=>((SameOn.below b3).2 q hq (Nat.lt_of_lt_of_le hl S2.out.2.1)).trans (S2.out.2.2 q hq hl)⟩⟩)
       have hE:=hid (show KidE S0 L W.heap.size (elT s vs i).length w3.heap.size #[.string ⟨(Lib.itoa (i:Int)).toArray⟩,.agg #[.int .i64 k1,.bool b1,.string r1,.string t1,.slice ko1 N1 kc1,.slice vo1 M1 vc1]] w3 from ⟨Lib.itoa (i:Int),u1,_,hpre.out,rfl,S3.out.1,rfl,V3.out⟩)
       obtain ⟨fn,tmps,assign,body,hy,hRd⟩:=hY'.out _ _ _ w3 J3.out hltL.out hE.out
       have hRd':=hid hRd
       have e0:=D3.out.cell 0
       have e1:=D3.out.cell 1
       have e2:=D3.out.cell 2
       have e3:=D3.out.cell 3
       have e4:=D3.out.cell 4
       have e5:=D3.out.cell 5
       simp only [List.getElem?_toArray,List.getElem?_cons_zero,List.getElem?_cons_succ] at e0 e1 e2 e3 e4 e5
       clear hE hRd J2 A2 X2 S2 V2 D2 b3 d0 d1 d2 d3 d4 d5
       refine wpAnyIn_ready (rs:=[7]) (by kernel_rfl) (by simp) ?_
       refine AllReadyIn.cons rfl (fun K hK=>?_) ?_
       ·rw [if_pos (by rfl)]
        unfold Oper.wpIn
        go_simp
        refine hK _ _ ?_
        clear hK K
        refine wpAnyIn_ready (rs:=[8]) (by kernel_rfl) (by simp) ?_
        refine AllReadyIn.cons rfl (fun K hK=>?_) ?_
        ·rw [if_pos (by rfl)]
         unfold Oper.wpIn
         go_simp
         refine ⟨(fun h=>by cases h),?_⟩
         refine (hRd'.out).mono ?_
         rintro e W3 (⟨rfl,hJ4,hk4⟩ | ⟨rfl,hJx4,hk4⟩)
         ·refine hK _ _ ?_
          clear hK K
          (refine' wpAnyIn_take (i:=9) rfl rfl (by kernel_rfl) (by kernel_rfl) (by kernel_rfl) (fun _ _ _ h=>h) ⟨Or.inl ⟨by rfl,?_⟩,fun _=>by rfl⟩ ?_;rotate_left;(· (intro wq;go_simp;first | done | with_reducible rfl));simp only [psA])
          (refine' wpAnyIn_take (i:=10) rfl rfl (by kernel_rfl) (by kernel_rfl) (by kernel_rfl) (fun _ _ _ h=>h) ⟨Or.inl ⟨by rfl,?_⟩,fun _=>by rfl⟩ ?_;rotate_left;(· (intro wq;go_simp;first | done | with_reducible rfl));simp only [psA])
          refine wpAnyIn_done (by kernel_rfl) ?_ _
          have J4:=hid hJ4
          have A4:=hid (hk4.at A3.out (.inl hSv))
          have X4:=hid (hk4.at X3.out (.inl hSx))
          have S4:=hid (show W.heap.size≤W3.heap.size∧SameOn S W W3 from ⟨Nat.le_trans S3.out.1 hk4.1,⟨Nat.le_trans S3.out.2.1 hk4.1,fun q hq hl=>(hk4.sameS.2 q hq (Nat.lt_of_lt_of_le hl S3.out.2.1)).trans (S3.out.2.2 q hq hl)⟩⟩)
          clear hy hRd' hJ4 hk4 J3 A3 X3 S3 e0 e1 e2 e3 e4 e5
          gi_wp2
          go_roundw
          case rel=>exact ⟨i+1,hi1.out,by simp,hid (by rw [hln1.out];exact J4.out),A4,X4,S4⟩
          case measure=>simp [intOf];have:=hi1.out;omega
         ·refine hK _ _ ?_
          clear hK K
          (refine' wpAnyIn_take (i:=9) rfl rfl (by kernel_rfl) (by kernel_rfl) (by kernel_rfl) (fun _ _ _ h=>h) ⟨Or.inl ⟨by rfl,?_⟩,fun _=>by rfl⟩ ?_;rotate_left;(· (intro wq;go_simp;first | done | with_reducible rfl));simp only [psA])
          (refine' wpAnyIn_take (i:=10) rfl rfl (by kernel_rfl) (by kernel_rfl) (by kernel_rfl) (fun _ _ _ h=>h) ⟨Or.inl ⟨by rfl,?_⟩,fun _=>by rfl⟩ ?_;rotate_left;(· (intro wq;go_simp;first | done | with_reducible rfl));simp only [psA])
          refine wpAnyIn_done (by kernel_rfl) ?_ _
          have J4:=hid hJx4
          clear hy hRd' hJx4 hk4 J3 A3 X3 S3 e0 e1 e2 e3 e4 e5
          gi_wp2
          refine bodyPost_ret (v:=.tuple #[]) (by simp [results,Tryz.results114,go_sem]) rfl ?_
          exact ⟨⟨_,rfl⟩,.inr ⟨_,hltL'.out,J4.out⟩⟩
        ·exact AllReadyIn.nil
       ·exact AllReadyIn.nil
      ·refine AllReadyIn.cons rfl (fun K hK=>?_) ?_
       ·rw [if_pos (by rfl)]
        unfold Oper.wpIn
        go_simp
        refine hK _ _ ?_
        clear hK K
        refine wpAnyIn_ready (rs:=[6]) (by kernel_rfl) (by simp) ?_
        refine AllReadyIn.cons rfl (fun K hK=>?_) ?_
        ·rw [if_pos (by rfl)]
         unfold Oper.wpIn
         go_simp
         refine ⟨trivial,(fun h=>by cases h),?_⟩
         refine (callsIn_wide.2 (itoa_calls (i:Int) (by omega) (by omega) _ hPw.out)).mono ?_
         rintro e w3 ⟨rfl,b3⟩
         refine hK _ _ ?_
         clear hK K
         have J3:=hid (hJ'.out _ _ _ J2.out (b3.mono (by have:=S2.out.1;omega)))
         have A3:=hid (A2.out.keptAll b3)
         have X3:=hid (X2.out.keptAll b3)
         have V3:=hid (V2.out.keptB b3)
         have D3:=hid (D2.out.keptAll b3)
         have S3:=hid (show W.heap.size≤w3.heap.size∧SameOn S W w3 from ⟨by have:=b3.size;have:=S2.out.1;omega,⟨Nat.le_trans S2.out.2.1 b3.size,fun q hq hl=>((SameOn.below b3).2 q hq (Nat.lt_of_lt_of_le hl S2.out.2.1)).trans (S2.out.2.2 q hq hl)⟩⟩)
         have hE:=hid (show KidE S0 L W.heap.size (elT s vs i).length w3.heap.size #[.string ⟨(Lib.itoa (i:Int)).toArray⟩,.agg #[.int .i64 k1,.bool b1,.string r1,.string t1,.slice ko1 N1 kc1,.slice vo1 M1 vc1]] w3 from ⟨Lib.itoa (i:Int),u1,_,hpre.out,rfl,S3.out.1,rfl,V3.out⟩)
         obtain ⟨fn,tmps,assign,body,hy,hRd⟩:=hY'.out _ _ _ w3 J3.out hltL.out hE.out
         have hRd':=hid hRd
         have e0:=D3.out.cell 0
         have e1:=D3.out.cell 1
         have e2:=D3.out.cell 2
         have e3:=D3.out.cell 3
         have e4:=D3.out.cell 4
         have e5:=D3.out.cell 5
         simp only [List.getElem?_toArray,List.getElem?_cons_zero,List.getElem?_cons_succ] at e0 e1 e2 e3 e4 e5
         clear hE hRd J2 A2 X2 S2 V2 D2 b3 d0 d1 d2 d3 d4 d5
         refine wpAnyIn_ready (rs:=[8]) (by kernel_rfl) (by simp) ?_
         refine AllReadyIn.cons rfl (fun K hK=>?_) ?_
         ·rw [if_pos (by rfl)]
          unfold Oper.wpIn
          go_simp
          refine ⟨(fun h=>by cases h),?_⟩
          refine (hRd'.out).mono ?_
          rintro e W3 (⟨rfl,hJ4,hk4⟩ | ⟨rfl,hJx4,hk4⟩)
          ·refine hK _ _ ?_
           clear hK K
           (refine' wpAnyIn_take (i:=9) rfl rfl (by kernel_rfl) (by kernel_rfl) (by kernel_rfl) (fun _ _ _ h=>h) ⟨Or.inl ⟨by rfl,?_⟩,fun _=>by rfl⟩ ?_;rotate_left;(· (intro wq;go_simp;first | done | with_reducible rfl));simp only [psA])
           (refine' wpAnyIn_take (i:=10) rfl rfl (by kernel_rfl) (by kernel_rfl) (by kernel_rfl) (fun _ _ _ h=>h) ⟨Or.inl ⟨by rfl,?_⟩,fun _=>by rfl⟩ ?_;rotate_left;(· (intro wq;go_simp;first | done | with_reducible rfl));simp only [psA])
           refine wpAnyIn_done (by kernel_rfl) ?_ _
           have J4:=hid hJ4
           have A4:=hid (hk4.at A3.out (.inl hSv))
           have X4:=hid (hk4.at X3.out (.inl hSx))
           have S4:=hid (show W.heap.size≤W3.heap.size∧SameOn S W W3 from ⟨Nat.le_trans S3.out.1 hk4.1,⟨Nat.le_trans S3.out.2.1 hk4.1,fun q hq hl=>(hk4.sameS.2 q hq (Nat.lt_of_lt_of_le hl S3.out.2.1)).trans (S3.out.2.2 q hq hl)⟩⟩)
           clear hy hRd' hJ4 hk4 J3 A3 X3 S3 e0 e1 e2 e3 e4 e5
           gi_wp2
           go_roundw
           case rel=>exact ⟨i+1,hi1.out,by simp,hid (by rw [hln1.out];exact J4.out),A4,X4,S4⟩
           case measure=>simp [intOf];have:=hi1.out;omega
          ·refine hK _ _ ?_
           clear hK K
           (refine' wpAnyIn_take (i:=9) rfl rfl (by kernel_rfl) (by kernel_rfl) (by kernel_rfl) (fun _ _ _ h=>h) ⟨Or.inl ⟨by rfl,?_⟩,fun _=>by rfl⟩ ?_;rotate_left;(· (intro wq;go_simp;first | done | with_reducible rfl));simp only [psA])
           (refine' wpAnyIn_take (i:=10) rfl rfl (by kernel_rfl) (by kernel_rfl) (by kernel_rfl) (fun _ _ _ h=>h) ⟨Or.inl ⟨by rfl,?_⟩,fun _=>by rfl⟩ ?_;rotate_left;(· (intro wq;go_simp;first | done | with_reducible rfl));simp only [psA])
           refine wpAnyIn_done (by kernel_rfl) ?_ _
           have J4:=hid hJx4
           clear hy hRd' hJx4 hk4 J3 A3 X3 S3 e0 e1 e2 e3 e4 e5
           gi_wp2
           refine bodyPost_ret (v:=.tuple #[]) (by simp [results,Tryz.results114,go_sem]) rfl ?_
           exact ⟨⟨_,rfl⟩,.inr ⟨_,hltL'.out,J4.out⟩⟩
         ·exact AllReadyIn.nil
        ·exact AllReadyIn.nil
       ·exact AllReadyIn.nil
     ·exact AllReadyIn.nil
    ·exact AllReadyIn.nil
  ·obtain rfl:i=M:=by omega
   have hfin:=hid (show J L.length wr by rw [← hL.out];exact hJr.out)
   clear hJr
   gi_wp2
   refine bodyPost_end (results_none rfl _ _ _) rfl ?_
   exact ⟨⟨_,rfl⟩,.inl hfin.out⟩
end Go.Proofs.YtongedjlmohogaaGreatDoor
