import Derived.Test.YtongedjlmohogaaGreatDoorPyH
import Derived.Test.YtongedjlmohogaaGreatDoorPyK
import Derived.Test.YtongedjlmohogaaGreatDoorPack14
import Derived.Test.YtongedjlmohogaaGreatDoorPack10
namespace Go.Proofs.YtongedjlmohogaaGreatDoor
open Go.RowKit Go.Shelf
theorem fm_ok {ss:List Stp} (h:ss.all fmS=true):∀ s ∈ ss,okS s:=fun s hs=>by
 have h1:=List.all_eq_true.1 h s hs
 unfold fmS at h1
 unfold okS
 by_cases h2:s.kind=1
 ·exact .inl h2
 ·rw [if_neg h2] at h1
  by_cases h3:s.kind=2
  ·exact .inr (.inl h3)
  ·rw [if_neg h3] at h1
   by_cases h4:s.kind=3
   ·exact .inr (.inr h4)
   ·rw [if_neg h4] at h1
    cases h1
theorem kp_sts {S:Nat→Prop} {w:World} {g N:Nat} {ss:List Stp} (hN:ss.length=N) (h:At w g (kpL ss N N) 43) (hS:S g):StsOn S w (some ⟨g,0,none⟩) ss:=fun i s hi =>
 ⟨g,0,rfl,hS,h.lt,by rw [Nat.zero_add,h.cell i];exact kpL_get hN hi⟩
set_option maxRecDepth 10000 in
set_option maxHeartbeats 8000000 in
theorem all3_tell (S:Nat→Prop) (nn:Nat) (ss:List Stp) (N:Nat) (hN:ss.length=N) (hNi:N≤1099511627776) (hfm:ss.all fmS=true) (t:Vt) (hwf:wfV t 1024=true) (hln:lnV t) (hok:okP t) (hLl:∀ x ∈ fdP ss t [],x.1.length≤140737488355328) (hnn:3*N+2≤nn)
  (g Bs Bv:Nat) (cs:Array Value) (w:World) (hSw:∀ k,S k→k<w.heap.size) (hSg:S g) (hs:At w Bs #[.slice (some ⟨g,0,none⟩) N N] 82) (hv:At w Bv cs 59) (hg:At w g (kpL ss N N) 43) (hV:ValOn S w t (.agg cs)) :
  SeqTellR GdP nn Tryz.prog 46 #[.pointer (some ⟨Bs,0,none⟩),.pointer (some ⟨Bv,0,none⟩)] (TellP (fdP ss t [])) (KpC S) (fdP ss t []).length w:=by
 intro l J Jx W hbW hJ hJx hGd hY h0
 obtain ⟨k1,b1',r1,t1,ko1,N1,kc1,vo1,M1,vc1,he⟩:=hV.at.lets
 injection he with he
 subst he
 have hs':=hid (hs.keptAll hbW)
 have hv':=hid (hv.keptAll hbW)
 have hV':=hid (hV.keptB hbW)
 have hg':=hid (hg.keptAll hbW)
 have hNi':(N:Int)≤1099511627776:=by omega
 obtain ⟨C,hC⟩:∃ C,Hid (min N 1024=C):=⟨_,hid rfl⟩
 have hCi:min (N:Int) 1024=(C:Int):=by have:=hC.out;omega
 have hJ':=hid hJ
 have hJx':=hid hJx
 have hY':=hid hY
 have hGd':=hid hGd
 have h0':=hid h0
 have hSW:=hid (fun k (h:S k)=>Nat.lt_of_lt_of_le (hSw k h) hbW.size)
 have hN':=hid hN
 obtain ⟨ti,hi1,hi2,hi3,hi4⟩:=info_partsV infoST
 clear hJ hJx hY hGd h0 hV hs hv hg hbW hN
 have c1:W.cell? ⟨Bs,0,none⟩=some (.slice (some ⟨g,0,none⟩) N N):=hs'.out.cell 0
 refine callsIn_of_wp Tryz.func46 rfl trivial ?_ rfl
 simp only [Tryz.ntmps46,List.size_toArray,List.length_cons,List.length_nil,Nat.reduceAdd,Nat.reduceSub,Array.replicate_succ,Array.replicate_zero,List.push_toArray,List.append_toArray,List.nil_append,List.cons_append]
 obtain ⟨W1,hrun,hown,hgrow⟩:=run_make_own (P:=Tryz.prog) W 0 56 9 ti (.string ⟨#[]⟩) 1 Tryz.underlying56 hi1 hi2 hi3 .i64 .i64 C (by have:=hC.out;rw [hi4];omega) (by have:=hC.out;unfold maxLen;omega) (Nat.zero_le _)
 have b1:=hid (below_of_grown (B:=W.heap.size) hgrow (Nat.le_refl _) (fun r e=>by cases e))
 have G1:Hid (GRow W1 W.heap.size C []):=hid hown
 have s1:=hid (hs'.out.keptAll b1.out)
 have v1:=hid (hv'.out.keptAll b1.out)
 have V1:=hid (hV'.out.keptB b1.out)
 have g1:=hid (hg'.out.keptAll b1.out)
 have J1:=hid (hJ'.out 0 _ _ h0'.out b1.out)
 have c2:W1.cell? ⟨Bs,0,none⟩=some (.slice (some ⟨g,0,none⟩) N N):=s1.out.cell 0
 have hfd:=hid (fun u=>found_calls k1 b1' r1 t1 ko1 N1 kc1 vo1 M1 vc1 (some ⟨g,0,none⟩) N N (some ⟨W.heap.size,0,none⟩) 0 C u)
 clear hown hgrow hs' hv' hV' hg' h0'
 gi_wp2_with (first | refine wpListIn_load_want 59 _ Bv 0 [.int .i64 k1,.bool b1',.string r1,.string t1,.slice ko1 N1 kc1,.slice vo1 M1 vc1] _ (v1.out.range rfl) Tryz.underlying59 sizeVl rfl rfl rfl (by rfl) ?_ | fail)
 refine ⟨trivial,(fun h=>by cases h),?_⟩
 refine (callsIn_wide.2 (hfd.out _)).mono ?_
 rintro e W2 ⟨rfl,v2,s2,w2,z2,b2⟩
 have G2:=G1.out.rel (RelG.below (B:=0) b2 (Nat.zero_le _) G1.out.lt)
 have J2:=hJ'.out 0 _ _ J1.out (b2.mono b1.out.size)
 have hbase:W.heap.size≤W2.heap.size:=Nat.le_trans b1.out.size b2.size
 have hb1s:=b1.out.size
 have hgl:=G1.out.lt
 have hfree:RFree (RelG W.heap.size 0 W.heap.size) J:=fun s X Y h hr=>hJ'.out s X Y h (hr.down (Nat.le_refl _))
 have hfreeX:RFree (RelG W.heap.size 0 W.heap.size) Jx:=fun s X Y h hr=>hJx'.out s X Y h (hr.down (Nat.le_refl _))
 have hSt:StsOn S W1 (some ⟨g,0,none⟩) ss:=kp_sts hN'.out g1.out hSg
 have hcall:=hid (found1_ex S W.heap.size C (fun h=>by have:=hSW.out _ h;omega) (by have:=hC.out;omega) ss (fm_ok hfm) t 1024 (by omega) (Int.le_refl _) hwf hln hok [] 0 rfl (fun a ha=>by cases ha) (by have:=hC.out;rw [hN'.out];omega) hLl
  (fun k=>W.heap.size≤k) W.heap.size (nn-1) l J Jx (by rw [hN'.out];omega) hfree hfreeX hGd'.out (fun r c x A h1 h2 h3=>by obtain ⟨a1,a2,a3,a4,a5,a6⟩:=hY'.out r c x A h1 h2 h3;exact ⟨a1,a2,a3,a4,a5,roundIn_any a6⟩) (some ⟨g,0,none⟩) N (W1.heap.size+1) W1.heap.size (W1.heap.size+1+1) (.agg #[.int .i64 k1,.bool b1',.string r1,.string t1,.slice ko1 N1 kc1,.slice vo1 M1 vc1]) W2
  (fun _ h=>h) (fun k h=>hSW.out k h) hbase (by omega) (by omega) (Nat.le_refl _) (by omega) (by omega) (by rw [hN'.out];exact Nat.le_refl _) J2 (by rw [hN'.out];exact s2) v2 w2 G2 (V1.out.keptB b2) (hSt.kept (SameOn.below b2)))
 clear hfd b2 s2 v2 w2 G2 J2 hSt hfree hfreeX c1 c2 hrun
 gi_wp2_with fail
 refine ⟨trivial,(fun _=>by omega),?_⟩
 refine (hcall.out).mono ?_
 rintro e Z ⟨⟨v,rfl⟩,hor⟩
 have hor':=hid hor
 clear hor hcall
 gi_wp2
 first
  | refine bodyPost_end (results_none rfl _ _ _) rfl ?_
  | refine bodyPost_ret (v:=.tuple #[]) (by simp [results,Tryz.results46,go_sem]) rfl ?_
 exact ⟨⟨_,rfl⟩,hor'.out⟩
end Go.Proofs.YtongedjlmohogaaGreatDoor
