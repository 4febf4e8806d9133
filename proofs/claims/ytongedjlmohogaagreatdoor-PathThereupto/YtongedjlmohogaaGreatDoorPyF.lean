import Derived.Test.YtongedjlmohogaaGreatDoorPyE
import Derived.Test.YtongedjlmohogaaGreatDoorPack22
namespace Go.Proofs.YtongedjlmohogaaGreatDoor
open Go.RowKit Go.Shelf
def TellP (L:List (List UInt8 × Vt)) (b r c:Nat) (x:Array Value) (W:World):Prop:=∃ p t v,L[r]? = some (p,t)∧x = #[.string (mkL p),v]∧b≤c∧c≤W.heap.size∧ValOn (fun k=>c≤k) W t v
def GdP (W:World):Prop:=PowT W∧MxI W∧TabU W
set_option maxRecDepth 10000 in
set_option maxHeartbeats 8000000 in
theorem found1_nil (Kq:Nat→World→World→Prop) (B0 nn l:Nat) (J Jx:Nat→World→Prop) (L:List (List UInt8 × Vt)) (hGd:∀ r A,J r A→GdP A)
  (hY:∀ r c x W1,J r W1→r<L.length→TellP L B0 r c x W1→YieldAt Fence.wide (nn-1) Tryz.prog l x W1 fun e W' =>
   (e = .returned (.bool true)∧J (r+1) W'∧Kq c W1 W')∨(e = .returned (.bool false)∧Jx (r+1) W'∧Kq c W1 W'))
  (t:Vt) (hwf:wfV t 1024=true) (hln:lnV t) (k:Int) (b:Bool) (rr tx:ByteArray) (ko:Option Addr) (N kc:Nat) (vo:Option Addr) (M vc:Nat) (way:List (List UInt8)) (n:Nat) (hn:way.length=n) (hwn:n≤4294967296) (hwe:∀ a ∈ way,a.length≤2147483640) (hww:(wrL way).length≤140737488355328)
  (so:Option Addr) (sc g cap Bs Bv Bw r:Nat) (W:World) (hJ:∀ s X Y,W.heap.size≤X.heap.size→J s X→Below W.heap.size X Y→J s Y) (hB0:B0≤W.heap.size) (hJr:J r W)
  (hs:At W Bs #[.slice so 0 sc] 82) (hv:At W Bv #[.int .i64 k,.bool b,.string rr,.string tx,.slice ko N kc,.slice vo M vc] 59) (hw:At W Bw #[.slice (some ⟨g,0,none⟩) n cap] 56) (hg:GRow W g cap way) (hV:ValAt W t (.agg #[.int .i64 k,.bool b,.string rr,.string tx,.slice ko N kc,.slice vo M vc])) (hLr:L[r]? = some (wrL way,t)) :
  CallsIn Fence.wide nn Tryz.prog 74 #[.func (.yield l) #[] #[],.pointer (some ⟨Bs,0,none⟩),.pointer (some ⟨Bv,0,none⟩),.pointer (some ⟨Bw,0,none⟩)] W fun e W'=>(∃ v,e = .returned v)∧(J (r+1) W'∨∃ r',r'≤L.length∧Jx r' W'):=by
 have hJ':=hid hJ
 have hY':=hid hY
 have hGd':=hid hGd
 have hlt:=hid (List.getElem?_eq_some_iff.1 hLr).1
 have hlt1:=hid (show r+1≤L.length from hlt.out)
 have hLr':=hid hLr
 have hcp:=hid (fun (u:World) (h1:TabU u) h2=>copied_calls t hwf hln k b rr tx ko N kc vo M vc u h1 h2)
 have q4:=hid (show Below W.heap.size W (W.alloc (.cells #[.func (.yield l) #[] #[]] 79)) from (Below.refl _ W).alloc (Nat.le_refl _) _)
 have Y4:=hid (At.new W #[.func (.yield l) #[] #[]] 79)
 have S4:=hid (hs.keptAll q4.out)
 have V4:=hid (hv.keptAll q4.out)
 have W4:=hid (hw.keptAll q4.out)
 have G4:=hid (hg.rel (RelG.below (B:=0) q4.out (Nat.zero_le _) hg.lt))
 have X4:=hid (hV.kept q4.out)
 have J4:=hid (hJ r W _ (Nat.le_refl _) hJr q4.out)
 have hwk:=hid (fun (u:World) (h:GRow u g cap way)=>h.keys (fun x hx=>by have:=hwe x hx;unfold capT;omega))
 have hpc:=hid (fun (u:World) (h1:GRow u g cap way) (h2:MxI u)=>print_calls way (some ⟨g,0,none⟩) n cap (hid hn) hwn (hid hwe) (hid hww) u (hid (h1.keys (fun x hx=>by have:=hwe x hx;unfold capT;omega))) (hid h2))
 have hB0':=hid (Nat.le_trans hB0 q4.out.size)
 clear hJ hY hGd hLr hs hv hw hg hV hJr hwe hww hwn hn hwf hln
 refine callsIn_of_wp Tryz.func74 rfl trivial ?_ rfl
 simp only [Tryz.ntmps74,List.size_toArray,List.length_cons,List.length_nil,Nat.reduceAdd,Nat.reduceSub,Array.replicate_succ,Array.replicate_zero,List.push_toArray,List.append_toArray,List.nil_append,List.cons_append]
 have c1:(W.alloc (.cells #[.func (.yield l) #[] #[]] 79)).cell? ⟨Bs,0,none⟩=some (.slice so 0 sc):=S4.out.cell 0
 gi_wp2_with (first | refine wpListIn_load_want 59 _ Bv 0 [.int .i64 k,.bool b,.string rr,.string tx,.slice ko N kc,.slice vo M vc] _ (V4.out.range rfl) Tryz.underlying59 sizeVl rfl rfl rfl (by rfl) ?_ | fail)
 refine ⟨trivial,(fun h=>by cases h),?_⟩
 refine (callsIn_wide.2 (hcp.out _ (hGd'.out _ _ J4.out).2.2 X4.out)).mono ?_
 rintro e w5 ⟨x,rfl,vx,b5⟩
 obtain ⟨k1,b1,r1,t1,ko1,N1,kc1,vo1,M1,vc1,rfl⟩:=vx.at.lets
 obtain ⟨c5,hc5⟩:∃ c,(W.alloc (.cells #[.func (.yield l) #[] #[]] 79)).heap.size=c:=⟨_,rfl⟩
 rw [hc5] at vx
 have q6:=hid (show Below w5.heap.size w5 (w5.alloc (.cells #[.int .i64 k1,.bool b1,.string r1,.string t1,.slice ko1 N1 kc1,.slice vo1 M1 vc1] 59)) from (Below.refl _ w5).alloc (Nat.le_refl _) _)
 have q56:=hid (b5.trans (q6.out.mono b5.size))
 have O6:=hid (At.new w5 #[.int .i64 k1,.bool b1,.string r1,.string t1,.slice ko1 N1 kc1,.slice vo1 M1 vc1] 59)
 obtain ⟨q,hq⟩:∃ q,w5.heap.size=q:=⟨_,rfl⟩
 rw [hq] at O6
 have J6:=hid (hJ'.out r _ _ q4.out.size J4.out (q56.out.mono q4.out.size))
 have V6:=hid (vx.keptB q6.out)
 have Y6:=hid (Y4.out.keptAll q56.out)
 have W6:=hid (W4.out.keptAll q56.out)
 have G6:=hid (G4.out.rel (RelG.below (B:=0) q56.out (Nat.zero_le _) G4.out.lt))
 have s6:=hid (show c5≤(w5.alloc (.cells #[.int .i64 k1,.bool b1,.string r1,.string t1,.slice ko1 N1 kc1,.slice vo1 M1 vc1] 59)).heap.size∧W.heap.size≤(w5.alloc (.cells #[.int .i64 k1,.bool b1,.string r1,.string t1,.slice ko1 N1 kc1,.slice vo1 M1 vc1] 59)).heap.size∧B0≤c5 from ⟨by rw [← hc5];exact q56.out.size,Nat.le_trans q4.out.size q56.out.size,by rw [← hc5];exact hB0'.out⟩)
 clear hcp vx b5 S4 V4 W4 G4 X4 J4 Y4 q6 q56 hc5 c1
 gi_wp2_with fail
 generalize w5.alloc (.cells #[.int .i64 k1,.bool b1,.string r1,.string t1,.slice ko1 N1 kc1,.slice vo1 M1 vc1] 59)=w6 at *
 have qd:=hid (show Below w6.heap.size w6 w6.drew from (Below.refl _ _).drew)
 have Jd:=hid (hJ'.out r _ _ s6.out.2.1 J6.out (qd.out.mono s6.out.2.1))
 have Vd:=hid (V6.out.keptB qd.out)
 have Yd:=hid Y6.out.drew
 have Wd:=hid W6.out.drew
 have Od:=hid O6.out.drew
 have Gd:=hid (G6.out.rel (RelG.below (B:=0) qd.out (Nat.zero_le _) G6.out.lt))
 have sd:=hid (show c5≤w6.drew.heap.size∧W.heap.size≤w6.drew.heap.size∧B0≤c5 from s6.out)
 have hpr:=hid (hpc.out _ Gd.out (hGd'.out _ _ Jd.out).2.1)
 clear J6 V6 Y6 W6 O6 G6 s6 hpc qd
 have haft:Hid (∀ w8:World,Below w6.drew.heap.size w6.drew w8→At w8 W.heap.size #[.func (.yield l) #[] #[]] 79∧At w8 Bw #[.slice (some ⟨g,0,none⟩) n cap] 56∧At w8 q #[.int .i64 k1,.bool b1,.string r1,.string t1,.slice ko1 N1 kc1,.slice vo1 M1 vc1] 59 ∧
   ∃ fn tmps assign body,(Instr.yield l #[.string (mkL (wrL way)),.agg #[.int .i64 k1,.bool b1,.string r1,.string t1,.slice ko1 N1 kc1,.slice vo1 M1 vc1]]).run Tryz.prog w8 = .ok (.round l fn tmps assign body) w8∧RoundIn Fence.wide (nn-1) Tryz.prog l fn tmps assign body w8 fun e W' =>
    (e = .returned (.bool true)∧J (r+1) W'∧Kq c5 w8 W')∨(e = .returned (.bool false)∧Jx (r+1) W'∧Kq c5 w8 W')):=hid (fun w8 b8 =>
  ⟨Yd.out.keptAll b8,Wd.out.keptAll b8,Od.out.keptAll b8,hY'.out r c5 _ w8 (hJ'.out r _ _ sd.out.2.1 Jd.out (b8.mono sd.out.2.1)) hlt.out ⟨wrL way,t,_,hLr'.out,rfl,sd.out.2.2,Nat.le_trans sd.out.1 b8.size,Vd.out.keptB b8⟩⟩)
 have c0:w6.drew.cell? ⟨W.heap.size,0,none⟩=some (.func (.yield l) #[] #[]):=Yd.out.cell 0
 have c1:w6.drew.cell? ⟨Bw,0,none⟩=some (.slice (some ⟨g,0,none⟩) n cap):=Wd.out.cell 0
 have o0:=Od.out.cell 0
 have o1:=Od.out.cell 1
 have o2:=Od.out.cell 2
 have o3:=Od.out.cell 3
 have o4:=Od.out.cell 4
 have o5:=Od.out.cell 5
 simp only [List.getElem?_toArray,List.getElem?_cons_zero,List.getElem?_cons_succ] at o0 o1 o2 o3 o4 o5
 clear Jd Vd Yd Wd Od Gd sd
 refine wpIn_region_any (by kernel_rfl) ?_
 refine wpAnyIn_ready (rs:=[0,1,3]) (by kernel_rfl) (by simp) ?_
 refine AllReadyIn.cons rfl (fun K hK=>?_) ?_
 ·rw [if_pos (by rfl)]
  unfold Oper.wpIn
  go_simp
  refine hK _ _ ?_
  clear hK K
  refine wpAnyIn_ready (rs:=[1,3]) (by kernel_rfl) (by simp) ?_
  refine AllReadyIn.cons rfl (fun K hK=>?_) ?_
  ·rw [if_pos (by rfl)]
   unfold Oper.wpIn
   go_simp
   refine hK _ _ ?_
   clear hK K
   refine wpAnyIn_ready (rs:=[2,3]) (by kernel_rfl) (by simp) ?_
   refine AllReadyIn.cons rfl (fun K hK=>?_) ?_
   ·rw [if_pos (by rfl)]
    unfold Oper.wpIn
    go_simp
    refine ⟨trivial,(fun h=>by cases h),?_⟩
    refine (callsIn_wide.2 hpr.out).mono ?_
    rintro e w8 ⟨rfl,b8⟩
    refine hK _ _ ?_
    clear hK K
    obtain ⟨a4,a3,a5,fnv,tmps,assign,body,hy,hRd⟩:=haft.out w8 b8
    have hRd':=hid hRd
    have e0:w8.cell? ⟨W.heap.size,0,none⟩=some (.func (.yield l) #[] #[]):=a4.cell 0
    have a5':=hid a5
    have d0:=a5'.out.cell 0
    have d1:=a5'.out.cell 1
    have d2:=a5'.out.cell 2
    have d3:=a5'.out.cell 3
    have d4:=a5'.out.cell 4
    have d5:=a5'.out.cell 5
    simp only [List.getElem?_toArray,List.getElem?_cons_zero,List.getElem?_cons_succ] at d0 d1 d2 d3 d4 d5
    clear hRd a4 a3 a5 a5' b8
    refine wpAnyIn_ready (rs:=[3]) (by kernel_rfl) (by simp) ?_
    refine AllReadyIn.cons rfl (fun K hK=>?_) ?_
    ·rw [if_pos (by rfl)]
     unfold Oper.wpIn
     go_simp
     refine hK _ _ ?_
     clear hK K
     refine wpAnyIn_ready (rs:=[4]) (by kernel_rfl) (by simp) ?_
     refine AllReadyIn.cons rfl (fun K hK=>?_) ?_
     ·rw [if_pos (by rfl)]
      unfold Oper.wpIn
      go_simp
      refine ⟨(fun h=>by cases h),?_⟩
      refine (hRd'.out).mono ?_
      rintro e W9 (⟨rfl,hJ9,hk9⟩ | ⟨rfl,hJx9,hk9⟩)
      ·refine hK _ _ ?_
       clear hK K
       refine wpAnyIn_done (by kernel_rfl) ?_ _
       have J9:=hid hJ9
       clear hy hRd' hJ9 hk9
       gi_wp2
       refine bodyPost_ret (v:=.tuple #[]) (by simp [results,Tryz.results74,go_sem]) rfl ?_
       exact ⟨⟨_,rfl⟩,.inl J9.out⟩
      ·refine hK _ _ ?_
       clear hK K
       refine wpAnyIn_done (by kernel_rfl) ?_ _
       have J9:=hid hJx9
       clear hy hRd' hJx9 hk9
       gi_wp2
       refine bodyPost_ret (v:=.tuple #[]) (by simp [results,Tryz.results74,go_sem]) rfl ?_
       exact ⟨⟨_,rfl⟩,.inr ⟨_,hlt1.out,J9.out⟩⟩
     exact AllReadyIn.nil
    exact AllReadyIn.nil
   refine AllReadyIn.cons rfl (fun K hK=>?_) ?_
   ·rw [if_pos (by rfl)]
    unfold Oper.wpIn
    go_simp
    refine hK _ _ ?_
    clear hK K
    refine wpAnyIn_ready (rs:=[2]) (by kernel_rfl) (by simp) ?_
    refine AllReadyIn.cons rfl (fun K hK=>?_) ?_
    ·rw [if_pos (by rfl)]
     unfold Oper.wpIn
     go_simp
     refine ⟨trivial,(fun h=>by cases h),?_⟩
     refine (callsIn_wide.2 hpr.out).mono ?_
     rintro e w8 ⟨rfl,b8⟩
     refine hK _ _ ?_
     clear hK K
     obtain ⟨a4,a3,a5,fnv,tmps,assign,body,hy,hRd⟩:=haft.out w8 b8
     have hRd':=hid hRd
     have e0:w8.cell? ⟨W.heap.size,0,none⟩=some (.func (.yield l) #[] #[]):=a4.cell 0
     have a5':=hid a5
     have d0:=a5'.out.cell 0
     have d1:=a5'.out.cell 1
     have d2:=a5'.out.cell 2
     have d3:=a5'.out.cell 3
     have d4:=a5'.out.cell 4
     have d5:=a5'.out.cell 5
     simp only [List.getElem?_toArray,List.getElem?_cons_zero,List.getElem?_cons_succ] at d0 d1 d2 d3 d4 d5
     clear hRd a4 a3 a5 a5' b8
     refine wpAnyIn_ready (rs:=[4]) (by kernel_rfl) (by simp) ?_
     refine AllReadyIn.cons rfl (fun K hK=>?_) ?_
     ·rw [if_pos (by rfl)]
      unfold Oper.wpIn
      go_simp
      refine ⟨(fun h=>by cases h),?_⟩
      refine (hRd'.out).mono ?_
      rintro e W9 (⟨rfl,hJ9,hk9⟩ | ⟨rfl,hJx9,hk9⟩)
      ·refine hK _ _ ?_
       clear hK K
       refine wpAnyIn_done (by kernel_rfl) ?_ _
       have J9:=hid hJ9
       clear hy hRd' hJ9 hk9
       gi_wp2
       refine bodyPost_ret (v:=.tuple #[]) (by simp [results,Tryz.results74,go_sem]) rfl ?_
       exact ⟨⟨_,rfl⟩,.inl J9.out⟩
      ·refine hK _ _ ?_
       clear hK K
       refine wpAnyIn_done (by kernel_rfl) ?_ _
       have J9:=hid hJx9
       clear hy hRd' hJx9 hk9
       gi_wp2
       refine bodyPost_ret (v:=.tuple #[]) (by simp [results,Tryz.results74,go_sem]) rfl ?_
       exact ⟨⟨_,rfl⟩,.inr ⟨_,hlt1.out,J9.out⟩⟩
     exact AllReadyIn.nil
    exact AllReadyIn.nil
   exact AllReadyIn.nil
  refine AllReadyIn.cons rfl (fun K hK=>?_) ?_
  ·rw [if_pos (by rfl)]
   unfold Oper.wpIn
   go_simp
   refine hK _ _ ?_
   clear hK K
   refine wpAnyIn_ready (rs:=[1]) (by kernel_rfl) (by simp) ?_
   refine AllReadyIn.cons rfl (fun K hK=>?_) ?_
   ·rw [if_pos (by rfl)]
    unfold Oper.wpIn
    go_simp
    refine hK _ _ ?_
    clear hK K
    refine wpAnyIn_ready (rs:=[2]) (by kernel_rfl) (by simp) ?_
    refine AllReadyIn.cons rfl (fun K hK=>?_) ?_
    ·rw [if_pos (by rfl)]
     unfold Oper.wpIn
     go_simp
     refine ⟨trivial,(fun h=>by cases h),?_⟩
     refine (callsIn_wide.2 hpr.out).mono ?_
     rintro e w8 ⟨rfl,b8⟩
     refine hK _ _ ?_
     clear hK K
     obtain ⟨a4,a3,a5,fnv,tmps,assign,body,hy,hRd⟩:=haft.out w8 b8
     have hRd':=hid hRd
     have e0:w8.cell? ⟨W.heap.size,0,none⟩=some (.func (.yield l) #[] #[]):=a4.cell 0
     have a5':=hid a5
     have d0:=a5'.out.cell 0
     have d1:=a5'.out.cell 1
     have d2:=a5'.out.cell 2
     have d3:=a5'.out.cell 3
     have d4:=a5'.out.cell 4
     have d5:=a5'.out.cell 5
     simp only [List.getElem?_toArray,List.getElem?_cons_zero,List.getElem?_cons_succ] at d0 d1 d2 d3 d4 d5
     clear hRd a4 a3 a5 a5' b8
     refine wpAnyIn_ready (rs:=[4]) (by kernel_rfl) (by simp) ?_
     refine AllReadyIn.cons rfl (fun K hK=>?_) ?_
     ·rw [if_pos (by rfl)]
      unfold Oper.wpIn
      go_simp
      refine ⟨(fun h=>by cases h),?_⟩
      refine (hRd'.out).mono ?_
      rintro e W9 (⟨rfl,hJ9,hk9⟩ | ⟨rfl,hJx9,hk9⟩)
      ·refine hK _ _ ?_
       clear hK K
       refine wpAnyIn_done (by kernel_rfl) ?_ _
       have J9:=hid hJ9
       clear hy hRd' hJ9 hk9
       gi_wp2
       refine bodyPost_ret (v:=.tuple #[]) (by simp [results,Tryz.results74,go_sem]) rfl ?_
       exact ⟨⟨_,rfl⟩,.inl J9.out⟩
      ·refine hK _ _ ?_
       clear hK K
       refine wpAnyIn_done (by kernel_rfl) ?_ _
       have J9:=hid hJx9
       clear hy hRd' hJx9 hk9
       gi_wp2
       refine bodyPost_ret (v:=.tuple #[]) (by simp [results,Tryz.results74,go_sem]) rfl ?_
       exact ⟨⟨_,rfl⟩,.inr ⟨_,hlt1.out,J9.out⟩⟩
     exact AllReadyIn.nil
    exact AllReadyIn.nil
   exact AllReadyIn.nil
  exact AllReadyIn.nil
 refine AllReadyIn.cons rfl (fun K hK=>?_) ?_
 ·rw [if_pos (by rfl)]
  unfold Oper.wpIn
  go_simp
  refine hK _ _ ?_
  clear hK K
  refine wpAnyIn_ready (rs:=[0,2,3]) (by kernel_rfl) (by simp) ?_
  refine AllReadyIn.cons rfl (fun K hK=>?_) ?_
  ·rw [if_pos (by rfl)]
   unfold Oper.wpIn
   go_simp
   refine hK _ _ ?_
   clear hK K
   refine wpAnyIn_ready (rs:=[2,3]) (by kernel_rfl) (by simp) ?_
   refine AllReadyIn.cons rfl (fun K hK=>?_) ?_
   ·rw [if_pos (by rfl)]
    unfold Oper.wpIn
    go_simp
    refine ⟨trivial,(fun h=>by cases h),?_⟩
    refine (callsIn_wide.2 hpr.out).mono ?_
    rintro e w8 ⟨rfl,b8⟩
    refine hK _ _ ?_
    clear hK K
    obtain ⟨a4,a3,a5,fnv,tmps,assign,body,hy,hRd⟩:=haft.out w8 b8
    have hRd':=hid hRd
    have e0:w8.cell? ⟨W.heap.size,0,none⟩=some (.func (.yield l) #[] #[]):=a4.cell 0
    have a5':=hid a5
    have d0:=a5'.out.cell 0
    have d1:=a5'.out.cell 1
    have d2:=a5'.out.cell 2
    have d3:=a5'.out.cell 3
    have d4:=a5'.out.cell 4
    have d5:=a5'.out.cell 5
    simp only [List.getElem?_toArray,List.getElem?_cons_zero,List.getElem?_cons_succ] at d0 d1 d2 d3 d4 d5
    clear hRd a4 a3 a5 a5' b8
    refine wpAnyIn_ready (rs:=[3]) (by kernel_rfl) (by simp) ?_
    refine AllReadyIn.cons rfl (fun K hK=>?_) ?_
    ·rw [if_pos (by rfl)]
     unfold Oper.wpIn
     go_simp
     refine hK _ _ ?_
     clear hK K
     refine wpAnyIn_ready (rs:=[4]) (by kernel_rfl) (by simp) ?_
     refine AllReadyIn.cons rfl (fun K hK=>?_) ?_
     ·rw [if_pos (by rfl)]
      unfold Oper.wpIn
      go_simp
      refine ⟨(fun h=>by cases h),?_⟩
      refine (hRd'.out).mono ?_
      rintro e W9 (⟨rfl,hJ9,hk9⟩ | ⟨rfl,hJx9,hk9⟩)
      ·refine hK _ _ ?_
       clear hK K
       refine wpAnyIn_done (by kernel_rfl) ?_ _
       have J9:=hid hJ9
       clear hy hRd' hJ9 hk9
       gi_wp2
       refine bodyPost_ret (v:=.tuple #[]) (by simp [results,Tryz.results74,go_sem]) rfl ?_
       exact ⟨⟨_,rfl⟩,.inl J9.out⟩
      ·refine hK _ _ ?_
       clear hK K
       refine wpAnyIn_done (by kernel_rfl) ?_ _
       have J9:=hid hJx9
       clear hy hRd' hJx9 hk9
       gi_wp2
       refine bodyPost_ret (v:=.tuple #[]) (by simp [results,Tryz.results74,go_sem]) rfl ?_
       exact ⟨⟨_,rfl⟩,.inr ⟨_,hlt1.out,J9.out⟩⟩
     exact AllReadyIn.nil
    exact AllReadyIn.nil
   refine AllReadyIn.cons rfl (fun K hK=>?_) ?_
   ·rw [if_pos (by rfl)]
    unfold Oper.wpIn
    go_simp
    refine hK _ _ ?_
    clear hK K
    refine wpAnyIn_ready (rs:=[2]) (by kernel_rfl) (by simp) ?_
    refine AllReadyIn.cons rfl (fun K hK=>?_) ?_
    ·rw [if_pos (by rfl)]
     unfold Oper.wpIn
     go_simp
     refine ⟨trivial,(fun h=>by cases h),?_⟩
     refine (callsIn_wide.2 hpr.out).mono ?_
     rintro e w8 ⟨rfl,b8⟩
     refine hK _ _ ?_
     clear hK K
     obtain ⟨a4,a3,a5,fnv,tmps,assign,body,hy,hRd⟩:=haft.out w8 b8
     have hRd':=hid hRd
     have e0:w8.cell? ⟨W.heap.size,0,none⟩=some (.func (.yield l) #[] #[]):=a4.cell 0
     have a5':=hid a5
     have d0:=a5'.out.cell 0
     have d1:=a5'.out.cell 1
     have d2:=a5'.out.cell 2
     have d3:=a5'.out.cell 3
     have d4:=a5'.out.cell 4
     have d5:=a5'.out.cell 5
     simp only [List.getElem?_toArray,List.getElem?_cons_zero,List.getElem?_cons_succ] at d0 d1 d2 d3 d4 d5
     clear hRd a4 a3 a5 a5' b8
     refine wpAnyIn_ready (rs:=[4]) (by kernel_rfl) (by simp) ?_
     refine AllReadyIn.cons rfl (fun K hK=>?_) ?_
     ·rw [if_pos (by rfl)]
      unfold Oper.wpIn
      go_simp
      refine ⟨(fun h=>by cases h),?_⟩
      refine (hRd'.out).mono ?_
      rintro e W9 (⟨rfl,hJ9,hk9⟩ | ⟨rfl,hJx9,hk9⟩)
      ·refine hK _ _ ?_
       clear hK K
       refine wpAnyIn_done (by kernel_rfl) ?_ _
       have J9:=hid hJ9
       clear hy hRd' hJ9 hk9
       gi_wp2
       refine bodyPost_ret (v:=.tuple #[]) (by simp [results,Tryz.results74,go_sem]) rfl ?_
       exact ⟨⟨_,rfl⟩,.inl J9.out⟩
      ·refine hK _ _ ?_
       clear hK K
       refine wpAnyIn_done (by kernel_rfl) ?_ _
       have J9:=hid hJx9
       clear hy hRd' hJx9 hk9
       gi_wp2
       refine bodyPost_ret (v:=.tuple #[]) (by simp [results,Tryz.results74,go_sem]) rfl ?_
       exact ⟨⟨_,rfl⟩,.inr ⟨_,hlt1.out,J9.out⟩⟩
     exact AllReadyIn.nil
    exact AllReadyIn.nil
   exact AllReadyIn.nil
  refine AllReadyIn.cons rfl (fun K hK=>?_) ?_
  ·rw [if_pos (by rfl)]
   unfold Oper.wpIn
   go_simp
   refine ⟨trivial,(fun h=>by cases h),?_⟩
   refine (callsIn_wide.2 hpr.out).mono ?_
   rintro e w8 ⟨rfl,b8⟩
   refine hK _ _ ?_
   clear hK K
   obtain ⟨a4,a3,a5,fnv,tmps,assign,body,hy,hRd⟩:=haft.out w8 b8
   have hRd':=hid hRd
   have e0:w8.cell? ⟨W.heap.size,0,none⟩=some (.func (.yield l) #[] #[]):=a4.cell 0
   have a5':=hid a5
   have d0:=a5'.out.cell 0
   have d1:=a5'.out.cell 1
   have d2:=a5'.out.cell 2
   have d3:=a5'.out.cell 3
   have d4:=a5'.out.cell 4
   have d5:=a5'.out.cell 5
   simp only [List.getElem?_toArray,List.getElem?_cons_zero,List.getElem?_cons_succ] at d0 d1 d2 d3 d4 d5
   clear hRd a4 a3 a5 a5' b8
   refine wpAnyIn_ready (rs:=[0,3]) (by kernel_rfl) (by simp) ?_
   refine AllReadyIn.cons rfl (fun K hK=>?_) ?_
   ·rw [if_pos (by rfl)]
    unfold Oper.wpIn
    go_simp
    refine hK _ _ ?_
    clear hK K
    refine wpAnyIn_ready (rs:=[3]) (by kernel_rfl) (by simp) ?_
    refine AllReadyIn.cons rfl (fun K hK=>?_) ?_
    ·rw [if_pos (by rfl)]
     unfold Oper.wpIn
     go_simp
     refine hK _ _ ?_
     clear hK K
     refine wpAnyIn_ready (rs:=[4]) (by kernel_rfl) (by simp) ?_
     refine AllReadyIn.cons rfl (fun K hK=>?_) ?_
     ·rw [if_pos (by rfl)]
      unfold Oper.wpIn
      go_simp
      refine ⟨(fun h=>by cases h),?_⟩
      refine (hRd'.out).mono ?_
      rintro e W9 (⟨rfl,hJ9,hk9⟩ | ⟨rfl,hJx9,hk9⟩)
      ·refine hK _ _ ?_
       clear hK K
       refine wpAnyIn_done (by kernel_rfl) ?_ _
       have J9:=hid hJ9
       clear hy hRd' hJ9 hk9
       gi_wp2
       refine bodyPost_ret (v:=.tuple #[]) (by simp [results,Tryz.results74,go_sem]) rfl ?_
       exact ⟨⟨_,rfl⟩,.inl J9.out⟩
      ·refine hK _ _ ?_
       clear hK K
       refine wpAnyIn_done (by kernel_rfl) ?_ _
       have J9:=hid hJx9
       clear hy hRd' hJx9 hk9
       gi_wp2
       refine bodyPost_ret (v:=.tuple #[]) (by simp [results,Tryz.results74,go_sem]) rfl ?_
       exact ⟨⟨_,rfl⟩,.inr ⟨_,hlt1.out,J9.out⟩⟩
     exact AllReadyIn.nil
    exact AllReadyIn.nil
   refine AllReadyIn.cons rfl (fun K hK=>?_) ?_
   ·rw [if_pos (by rfl)]
    unfold Oper.wpIn
    go_simp
    refine hK _ _ ?_
    clear hK K
    refine wpAnyIn_ready (rs:=[0]) (by kernel_rfl) (by simp) ?_
    refine AllReadyIn.cons rfl (fun K hK=>?_) ?_
    ·rw [if_pos (by rfl)]
     unfold Oper.wpIn
     go_simp
     refine hK _ _ ?_
     clear hK K
     refine wpAnyIn_ready (rs:=[4]) (by kernel_rfl) (by simp) ?_
     refine AllReadyIn.cons rfl (fun K hK=>?_) ?_
     ·rw [if_pos (by rfl)]
      unfold Oper.wpIn
      go_simp
      refine ⟨(fun h=>by cases h),?_⟩
      refine (hRd'.out).mono ?_
      rintro e W9 (⟨rfl,hJ9,hk9⟩ | ⟨rfl,hJx9,hk9⟩)
      ·refine hK _ _ ?_
       clear hK K
       refine wpAnyIn_done (by kernel_rfl) ?_ _
       have J9:=hid hJ9
       clear hy hRd' hJ9 hk9
       gi_wp2
       refine bodyPost_ret (v:=.tuple #[]) (by simp [results,Tryz.results74,go_sem]) rfl ?_
       exact ⟨⟨_,rfl⟩,.inl J9.out⟩
      ·refine hK _ _ ?_
       clear hK K
       refine wpAnyIn_done (by kernel_rfl) ?_ _
       have J9:=hid hJx9
       clear hy hRd' hJx9 hk9
       gi_wp2
       refine bodyPost_ret (v:=.tuple #[]) (by simp [results,Tryz.results74,go_sem]) rfl ?_
       exact ⟨⟨_,rfl⟩,.inr ⟨_,hlt1.out,J9.out⟩⟩
     exact AllReadyIn.nil
    exact AllReadyIn.nil
   exact AllReadyIn.nil
  refine AllReadyIn.cons rfl (fun K hK=>?_) ?_
  ·rw [if_pos (by rfl)]
   unfold Oper.wpIn
   go_simp
   refine hK _ _ ?_
   clear hK K
   refine wpAnyIn_ready (rs:=[0,2]) (by kernel_rfl) (by simp) ?_
   refine AllReadyIn.cons rfl (fun K hK=>?_) ?_
   ·rw [if_pos (by rfl)]
    unfold Oper.wpIn
    go_simp
    refine hK _ _ ?_
    clear hK K
    refine wpAnyIn_ready (rs:=[2]) (by kernel_rfl) (by simp) ?_
    refine AllReadyIn.cons rfl (fun K hK=>?_) ?_
    ·rw [if_pos (by rfl)]
     unfold Oper.wpIn
     go_simp
     refine ⟨trivial,(fun h=>by cases h),?_⟩
     refine (callsIn_wide.2 hpr.out).mono ?_
     rintro e w8 ⟨rfl,b8⟩
     refine hK _ _ ?_
     clear hK K
     obtain ⟨a4,a3,a5,fnv,tmps,assign,body,hy,hRd⟩:=haft.out w8 b8
     have hRd':=hid hRd
     have e0:w8.cell? ⟨W.heap.size,0,none⟩=some (.func (.yield l) #[] #[]):=a4.cell 0
     have a5':=hid a5
     have d0:=a5'.out.cell 0
     have d1:=a5'.out.cell 1
     have d2:=a5'.out.cell 2
     have d3:=a5'.out.cell 3
     have d4:=a5'.out.cell 4
     have d5:=a5'.out.cell 5
     simp only [List.getElem?_toArray,List.getElem?_cons_zero,List.getElem?_cons_succ] at d0 d1 d2 d3 d4 d5
     clear hRd a4 a3 a5 a5' b8
     refine wpAnyIn_ready (rs:=[4]) (by kernel_rfl) (by simp) ?_
     refine AllReadyIn.cons rfl (fun K hK=>?_) ?_
     ·rw [if_pos (by rfl)]
      unfold Oper.wpIn
      go_simp
      refine ⟨(fun h=>by cases h),?_⟩
      refine (hRd'.out).mono ?_
      rintro e W9 (⟨rfl,hJ9,hk9⟩ | ⟨rfl,hJx9,hk9⟩)
      ·refine hK _ _ ?_
       clear hK K
       refine wpAnyIn_done (by kernel_rfl) ?_ _
       have J9:=hid hJ9
       clear hy hRd' hJ9 hk9
       gi_wp2
       refine bodyPost_ret (v:=.tuple #[]) (by simp [results,Tryz.results74,go_sem]) rfl ?_
       exact ⟨⟨_,rfl⟩,.inl J9.out⟩
      ·refine hK _ _ ?_
       clear hK K
       refine wpAnyIn_done (by kernel_rfl) ?_ _
       have J9:=hid hJx9
       clear hy hRd' hJx9 hk9
       gi_wp2
       refine bodyPost_ret (v:=.tuple #[]) (by simp [results,Tryz.results74,go_sem]) rfl ?_
       exact ⟨⟨_,rfl⟩,.inr ⟨_,hlt1.out,J9.out⟩⟩
     exact AllReadyIn.nil
    exact AllReadyIn.nil
   refine AllReadyIn.cons rfl (fun K hK=>?_) ?_
   ·rw [if_pos (by rfl)]
    unfold Oper.wpIn
    go_simp
    refine ⟨trivial,(fun h=>by cases h),?_⟩
    refine (callsIn_wide.2 hpr.out).mono ?_
    rintro e w8 ⟨rfl,b8⟩
    refine hK _ _ ?_
    clear hK K
    obtain ⟨a4,a3,a5,fnv,tmps,assign,body,hy,hRd⟩:=haft.out w8 b8
    have hRd':=hid hRd
    have e0:w8.cell? ⟨W.heap.size,0,none⟩=some (.func (.yield l) #[] #[]):=a4.cell 0
    have a5':=hid a5
    have d0:=a5'.out.cell 0
    have d1:=a5'.out.cell 1
    have d2:=a5'.out.cell 2
    have d3:=a5'.out.cell 3
    have d4:=a5'.out.cell 4
    have d5:=a5'.out.cell 5
    simp only [List.getElem?_toArray,List.getElem?_cons_zero,List.getElem?_cons_succ] at d0 d1 d2 d3 d4 d5
    clear hRd a4 a3 a5 a5' b8
    refine wpAnyIn_ready (rs:=[0]) (by kernel_rfl) (by simp) ?_
    refine AllReadyIn.cons rfl (fun K hK=>?_) ?_
    ·rw [if_pos (by rfl)]
     unfold Oper.wpIn
     go_simp
     refine hK _ _ ?_
     clear hK K
     refine wpAnyIn_ready (rs:=[4]) (by kernel_rfl) (by simp) ?_
     refine AllReadyIn.cons rfl (fun K hK=>?_) ?_
     ·rw [if_pos (by rfl)]
      unfold Oper.wpIn
      go_simp
      refine ⟨(fun h=>by cases h),?_⟩
      refine (hRd'.out).mono ?_
      rintro e W9 (⟨rfl,hJ9,hk9⟩ | ⟨rfl,hJx9,hk9⟩)
      ·refine hK _ _ ?_
       clear hK K
       refine wpAnyIn_done (by kernel_rfl) ?_ _
       have J9:=hid hJ9
       clear hy hRd' hJ9 hk9
       gi_wp2
       refine bodyPost_ret (v:=.tuple #[]) (by simp [results,Tryz.results74,go_sem]) rfl ?_
       exact ⟨⟨_,rfl⟩,.inl J9.out⟩
      ·refine hK _ _ ?_
       clear hK K
       refine wpAnyIn_done (by kernel_rfl) ?_ _
       have J9:=hid hJx9
       clear hy hRd' hJx9 hk9
       gi_wp2
       refine bodyPost_ret (v:=.tuple #[]) (by simp [results,Tryz.results74,go_sem]) rfl ?_
       exact ⟨⟨_,rfl⟩,.inr ⟨_,hlt1.out,J9.out⟩⟩
     exact AllReadyIn.nil
    exact AllReadyIn.nil
   exact AllReadyIn.nil
  exact AllReadyIn.nil
 refine AllReadyIn.cons rfl (fun K hK=>?_) ?_
 ·rw [if_pos (by rfl)]
  unfold Oper.wpIn
  go_simp
  refine hK _ _ ?_
  clear hK K
  refine wpAnyIn_ready (rs:=[0,1]) (by kernel_rfl) (by simp) ?_
  refine AllReadyIn.cons rfl (fun K hK=>?_) ?_
  ·rw [if_pos (by rfl)]
   unfold Oper.wpIn
   go_simp
   refine hK _ _ ?_
   clear hK K
   refine wpAnyIn_ready (rs:=[1]) (by kernel_rfl) (by simp) ?_
   refine AllReadyIn.cons rfl (fun K hK=>?_) ?_
   ·rw [if_pos (by rfl)]
    unfold Oper.wpIn
    go_simp
    refine hK _ _ ?_
    clear hK K
    refine wpAnyIn_ready (rs:=[2]) (by kernel_rfl) (by simp) ?_
    refine AllReadyIn.cons rfl (fun K hK=>?_) ?_
    ·rw [if_pos (by rfl)]
     unfold Oper.wpIn
     go_simp
     refine ⟨trivial,(fun h=>by cases h),?_⟩
     refine (callsIn_wide.2 hpr.out).mono ?_
     rintro e w8 ⟨rfl,b8⟩
     refine hK _ _ ?_
     clear hK K
     obtain ⟨a4,a3,a5,fnv,tmps,assign,body,hy,hRd⟩:=haft.out w8 b8
     have hRd':=hid hRd
     have e0:w8.cell? ⟨W.heap.size,0,none⟩=some (.func (.yield l) #[] #[]):=a4.cell 0
     have a5':=hid a5
     have d0:=a5'.out.cell 0
     have d1:=a5'.out.cell 1
     have d2:=a5'.out.cell 2
     have d3:=a5'.out.cell 3
     have d4:=a5'.out.cell 4
     have d5:=a5'.out.cell 5
     simp only [List.getElem?_toArray,List.getElem?_cons_zero,List.getElem?_cons_succ] at d0 d1 d2 d3 d4 d5
     clear hRd a4 a3 a5 a5' b8
     refine wpAnyIn_ready (rs:=[4]) (by kernel_rfl) (by simp) ?_
     refine AllReadyIn.cons rfl (fun K hK=>?_) ?_
     ·rw [if_pos (by rfl)]
      unfold Oper.wpIn
      go_simp
      refine ⟨(fun h=>by cases h),?_⟩
      refine (hRd'.out).mono ?_
      rintro e W9 (⟨rfl,hJ9,hk9⟩ | ⟨rfl,hJx9,hk9⟩)
      ·refine hK _ _ ?_
       clear hK K
       refine wpAnyIn_done (by kernel_rfl) ?_ _
       have J9:=hid hJ9
       clear hy hRd' hJ9 hk9
       gi_wp2
       refine bodyPost_ret (v:=.tuple #[]) (by simp [results,Tryz.results74,go_sem]) rfl ?_
       exact ⟨⟨_,rfl⟩,.inl J9.out⟩
      ·refine hK _ _ ?_
       clear hK K
       refine wpAnyIn_done (by kernel_rfl) ?_ _
       have J9:=hid hJx9
       clear hy hRd' hJx9 hk9
       gi_wp2
       refine bodyPost_ret (v:=.tuple #[]) (by simp [results,Tryz.results74,go_sem]) rfl ?_
       exact ⟨⟨_,rfl⟩,.inr ⟨_,hlt1.out,J9.out⟩⟩
     exact AllReadyIn.nil
    exact AllReadyIn.nil
   exact AllReadyIn.nil
  refine AllReadyIn.cons rfl (fun K hK=>?_) ?_
  ·rw [if_pos (by rfl)]
   unfold Oper.wpIn
   go_simp
   refine hK _ _ ?_
   clear hK K
   refine wpAnyIn_ready (rs:=[0,2]) (by kernel_rfl) (by simp) ?_
   refine AllReadyIn.cons rfl (fun K hK=>?_) ?_
   ·rw [if_pos (by rfl)]
    unfold Oper.wpIn
    go_simp
    refine hK _ _ ?_
    clear hK K
    refine wpAnyIn_ready (rs:=[2]) (by kernel_rfl) (by simp) ?_
    refine AllReadyIn.cons rfl (fun K hK=>?_) ?_
    ·rw [if_pos (by rfl)]
     unfold Oper.wpIn
     go_simp
     refine ⟨trivial,(fun h=>by cases h),?_⟩
     refine (callsIn_wide.2 hpr.out).mono ?_
     rintro e w8 ⟨rfl,b8⟩
     refine hK _ _ ?_
     clear hK K
     obtain ⟨a4,a3,a5,fnv,tmps,assign,body,hy,hRd⟩:=haft.out w8 b8
     have hRd':=hid hRd
     have e0:w8.cell? ⟨W.heap.size,0,none⟩=some (.func (.yield l) #[] #[]):=a4.cell 0
     have a5':=hid a5
     have d0:=a5'.out.cell 0
     have d1:=a5'.out.cell 1
     have d2:=a5'.out.cell 2
     have d3:=a5'.out.cell 3
     have d4:=a5'.out.cell 4
     have d5:=a5'.out.cell 5
     simp only [List.getElem?_toArray,List.getElem?_cons_zero,List.getElem?_cons_succ] at d0 d1 d2 d3 d4 d5
     clear hRd a4 a3 a5 a5' b8
     refine wpAnyIn_ready (rs:=[4]) (by kernel_rfl) (by simp) ?_
     refine AllReadyIn.cons rfl (fun K hK=>?_) ?_
     ·rw [if_pos (by rfl)]
      unfold Oper.wpIn
      go_simp
      refine ⟨(fun h=>by cases h),?_⟩
      refine (hRd'.out).mono ?_
      rintro e W9 (⟨rfl,hJ9,hk9⟩ | ⟨rfl,hJx9,hk9⟩)
      ·refine hK _ _ ?_
       clear hK K
       refine wpAnyIn_done (by kernel_rfl) ?_ _
       have J9:=hid hJ9
       clear hy hRd' hJ9 hk9
       gi_wp2
       refine bodyPost_ret (v:=.tuple #[]) (by simp [results,Tryz.results74,go_sem]) rfl ?_
       exact ⟨⟨_,rfl⟩,.inl J9.out⟩
      ·refine hK _ _ ?_
       clear hK K
       refine wpAnyIn_done (by kernel_rfl) ?_ _
       have J9:=hid hJx9
       clear hy hRd' hJx9 hk9
       gi_wp2
       refine bodyPost_ret (v:=.tuple #[]) (by simp [results,Tryz.results74,go_sem]) rfl ?_
       exact ⟨⟨_,rfl⟩,.inr ⟨_,hlt1.out,J9.out⟩⟩
     exact AllReadyIn.nil
    exact AllReadyIn.nil
   refine AllReadyIn.cons rfl (fun K hK=>?_) ?_
   ·rw [if_pos (by rfl)]
    unfold Oper.wpIn
    go_simp
    refine ⟨trivial,(fun h=>by cases h),?_⟩
    refine (callsIn_wide.2 hpr.out).mono ?_
    rintro e w8 ⟨rfl,b8⟩
    refine hK _ _ ?_
    clear hK K
    obtain ⟨a4,a3,a5,fnv,tmps,assign,body,hy,hRd⟩:=haft.out w8 b8
    have hRd':=hid hRd
    have e0:w8.cell? ⟨W.heap.size,0,none⟩=some (.func (.yield l) #[] #[]):=a4.cell 0
    have a5':=hid a5
    have d0:=a5'.out.cell 0
    have d1:=a5'.out.cell 1
    have d2:=a5'.out.cell 2
    have d3:=a5'.out.cell 3
    have d4:=a5'.out.cell 4
    have d5:=a5'.out.cell 5
    simp only [List.getElem?_toArray,List.getElem?_cons_zero,List.getElem?_cons_succ] at d0 d1 d2 d3 d4 d5
    clear hRd a4 a3 a5 a5' b8
    refine wpAnyIn_ready (rs:=[0]) (by kernel_rfl) (by simp) ?_
    refine AllReadyIn.cons rfl (fun K hK=>?_) ?_
    ·rw [if_pos (by rfl)]
     unfold Oper.wpIn
     go_simp
     refine hK _ _ ?_
     clear hK K
     refine wpAnyIn_ready (rs:=[4]) (by kernel_rfl) (by simp) ?_
     refine AllReadyIn.cons rfl (fun K hK=>?_) ?_
     ·rw [if_pos (by rfl)]
      unfold Oper.wpIn
      go_simp
      refine ⟨(fun h=>by cases h),?_⟩
      refine (hRd'.out).mono ?_
      rintro e W9 (⟨rfl,hJ9,hk9⟩ | ⟨rfl,hJx9,hk9⟩)
      ·refine hK _ _ ?_
       clear hK K
       refine wpAnyIn_done (by kernel_rfl) ?_ _
       have J9:=hid hJ9
       clear hy hRd' hJ9 hk9
       gi_wp2
       refine bodyPost_ret (v:=.tuple #[]) (by simp [results,Tryz.results74,go_sem]) rfl ?_
       exact ⟨⟨_,rfl⟩,.inl J9.out⟩
      ·refine hK _ _ ?_
       clear hK K
       refine wpAnyIn_done (by kernel_rfl) ?_ _
       have J9:=hid hJx9
       clear hy hRd' hJx9 hk9
       gi_wp2
       refine bodyPost_ret (v:=.tuple #[]) (by simp [results,Tryz.results74,go_sem]) rfl ?_
       exact ⟨⟨_,rfl⟩,.inr ⟨_,hlt1.out,J9.out⟩⟩
     exact AllReadyIn.nil
    exact AllReadyIn.nil
   exact AllReadyIn.nil
  exact AllReadyIn.nil
 exact AllReadyIn.nil
end Go.Proofs.YtongedjlmohogaaGreatDoor
