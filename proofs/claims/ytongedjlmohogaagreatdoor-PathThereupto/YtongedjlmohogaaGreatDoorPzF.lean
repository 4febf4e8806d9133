import Derived.Test.YtongedjlmohogaaGreatDoorPack7
import Derived.Test.YtongedjlmohogaaGreatDoorPzE
namespace Go.Proofs.YtongedjlmohogaaGreatDoor
open Go.RowKit Go.Shelf
attribute [local go_sem] Oper.semAt_some
set_option maxRecDepth 100000 in
set_option maxHeartbeats 16000000 in
theorem awake22_in (w:World) (hT:TabU w) (hP:PowT w) (hM:MxI w) :
  CallsIn Fence.wide 9 Tryz.prog 11 #[] w fun e w'=>e = .returned (.bool true)∧Below w.heap.size w w':=by
 have hT':=hid hT
 have hP':=hid hP
 have hM':=hid hM
 clear hT hP hM
 have c1:=hid (fun u=>parse22_calls ⟨#[36,46,97,91,49,93,46,42,91,34,99,32,100,34,93]⟩ (by decide) u)
 have c2:=hid (fun u=>parse22_calls ⟨#[36,46,97,32,98]⟩ (by decide) u)
 have c3:=hid (fun (u:World) ao cap h1 h2 h3=>printW_calls ao cap u h1 h2 h3)
 have c4:=hid (fun u=>sample_calls u)
 have D1:Hid (At (w.alloc (.cells #[.bool false] 4)) w.heap.size #[.bool false] 4):=hid (At.new _ _ _)
 have B1:=hid (show Below w.heap.size w (w.alloc (.cells #[.bool false] 4)) by exact bw)
 generalize hW1:w.alloc (.cells #[.bool false] 4)=W1 at D1 B1
 refine callsIn_of_wp_marks Tryz.func11 rfl trivial ?_ rfl
 simp only [Tryz.ntmps11,List.size_toArray,List.length_nil,Nat.reduceSub,Array.replicate_succ,Array.replicate_zero,List.push_toArray,List.append_toArray,List.nil_append,List.cons_append]
 gi_wp2_with fail
 refine ⟨trivial,?_⟩
 refine (callsIn_wide.2 (c1.out _)).mono ?_
 rintro e W2 ⟨⟨v,p,E,k,rfl,g1,h1⟩,bq⟩
 obtain ⟨rfl,rfl,rfl⟩:=h1.uniq ppW
 obtain ⟨so,cap,rfl⟩:=g1.shape
 obtain ⟨-,st1⟩:=g1.row
 have D2:=hid (D1.out.keptAll bq)
 have B2:=hid (B1.out.trans (bq.mono B1.out.size))
 have S2:=hid st1
 have el:stpW.length=4:=rfl
 rw [el,show ((0:Nat):Int)=0 from rfl]
 clear bq c1 D1 B1 hW1 g1 h1 st1 el
 gi_wp2_with fail
 refine ⟨trivial,?_⟩
 refine (callsIn_wide.2 (c3.out _ so cap S2 (hid (hT'.out.below B2.out)) (hid (hP'.out.kept B2.out)))).mono ?_
 rintro e W3 ⟨rfl,bq⟩
 have D3:=hid (D2.out.keptAll bq)
 have B3:=hid (B2.out.trans (bq.mono B2.out.size))
 have S3:=hid (S2.out.kept bq)
 rw [show pthW=⟨#[36,46,97,91,49,93,46,42,91,34,99,32,100,34,93]⟩ from rfl]
 clear bq c3 D2 B2 S2
 gi_wp2_with fail
 refine ⟨trivial,?_⟩
 refine (callsIn_wide.2 (c2.out _)).mono ?_
 rintro e W4 ⟨⟨v,p,E,k,rfl,g1,h1⟩,bq⟩
 obtain ⟨rfl,rfl,rfl⟩:=h1.uniq ppF
 have D4:=hid (D3.out.keptAll bq)
 have B4:=hid (B3.out.trans (bq.mono B3.out.size))
 obtain ⟨g,o,rfl,hg,hrg⟩:=steps_at (S3.out.kept bq) (i:=1) (s:=⟨2,⟨#[]⟩,1⟩) rfl
 have R4:=hid hrg
 have eqs:=fun u=>eqStp 2 2 1 1 ⟨#[]⟩ ⟨#[]⟩ u
 rw [show ((3:Nat):Int)=3 from rfl]
 obtain ⟨sv,cv,rfl⟩:=g1.shape
 clear bq c2 D3 B3 S3 g1 h1 hg hrg
 gi_wp2_with (first | refine wpListIn_load_want 34 _ g (o+1*3) [.int .i64 2,.string ⟨#[]⟩,.int .i64 1] _ R4.out Tryz.underlying34 sizeStp rfl rfl rfl (by rfl) ?_ | fail)
 refine ⟨trivial,?_⟩
 refine (callsIn_wide.2 (c4.out _)).mono ?_
 rintro e W5 ⟨v,rfl,hv,bq⟩
 have D5:=hid (D4.out.keptAll bq)
 have B5:=hid (B4.out.trans (bq.mono B4.out.size))
 have V5:=hid hv
 obtain ⟨k1,b1,r1,t1,ko1,N1,kc1,vo1,M1,vc1,rfl⟩:=hv.lets
 clear bq c4 D4 B4 R4 eqs hv
 have al:=hid (show Below W5.heap.size W5 (W5.alloc (.cells #[.int .i64 3,.string ⟨#[]⟩,.int .i64 0,.int .i64 1,.string ⟨#[98]⟩,.int .i64 0] 34)) from (Below.refl _ _).alloc (Nat.le_refl _) _)
 have N6:=hid (At.new W5 #[.int .i64 3,.string ⟨#[]⟩,.int .i64 0,.int .i64 1,.string ⟨#[98]⟩,.int .i64 0] 34)
 have D6:=hid (D5.out.keptAll al.out)
 have B6:=hid (B5.out.trans (al.out.mono B5.out.size))
 have V6:=hid (V5.out.kept al.out)
 have hall:=hid (all22_calls stepsW (some ⟨W5.heap.size,0,none⟩) 2 2 (hid rfl) (by decide) (hid fm_steps) sampT (hid wf_samp) ln_samp k1 b1 r1 t1 ko1 N1 kc1 vo1 M1 vc1 _ (hid (hT'.out.below B6.out)) (hid (steps2_at N6.out)) V6)
 gi_wp2_with fail
 refine ⟨trivial,?_⟩
 clear al N6 V6 D5 B5 V5
 generalize hW6:(W5.alloc (.cells #[.int .i64 3,.string ⟨#[]⟩,.int .i64 0,.int .i64 1,.string ⟨#[98]⟩,.int .i64 0] 34))=W6 at *
 refine (callsIn_wide.2 hall.out).mono ?_
 rintro e W7 ⟨gk,Bs,Bv,cs,rfl,⟨l1,l2,l3⟩,a1,a2,a3,v7,bq⟩
 have D7:=hid (D6.out.keptAll bq)
 have B7:=hid (B6.out.trans (bq.mono B6.out.size))
 have s7:=hid bq.size
 have hseq:=hid (all3_tell (fun b=>W6.heap.size≤b∧b<W7.heap.size) (9-1) stepsW 2 rfl (by decide) fm_steps sampT wf_samp ln_samp ok_samp fd_len (by decide) gk Bs Bv cs W7 (fun k h=>h.2) ⟨l1,a3.lt⟩ a1 a2 a3 (v7.mono (fun c hl hc=>⟨hc,hl⟩)))
 rw [fd_samp] at hseq
 have hlw:=hid (show w.heap.size<W7.heap.size from D7.out.lt)
 clear bq hall hW6 D6 B6 l1 l2 l3 a1 a2 a3 v7
 have hnf:∀ (f:Fn) (a b:Array Value) (w:World),Sem.run Tryz.prog (binOp BinOp.eql 54 (.func f a b) .nilFunc) w = .ok (.bool false) w:=fun _ _ _ _=>by rfl
 have al:=hid (show Below W7.heap.size W7 (W7.alloc (.cells #[.int .i64 0] 3)) from (Below.refl _ _).alloc (Nat.le_refl _) _)
 have D8:=hid (D7.out.keptAll al.out)
 have B8:=hid (B7.out.trans (al.out.mono B7.out.size))
 have N8:=hid (At.new W7 #[.int .i64 0] 3)
 have s8:Hid ((W7.alloc (.cells #[.int .i64 0] 3)).heap.size=W7.heap.size+1):=hid (World.size_alloc _ _)
 gi_wp2_with fail
 generalize hW8:(W7.alloc (.cells #[.int .i64 0] 3))=W8 at *
 have hnb:=hid (show W7.heap.size<W8.heap.size by have:=s8.out;omega)
 have hwb:=hid (show w.heap.size<W8.heap.size by have:=s8.out;have:=hlw.out;omega)
 clear hW8
 refine range_tellY (n:=9) (by decide) (gf:=46) (lb:=#[.pointer (some ⟨Bs,0,none⟩),.pointer (some ⟨Bv,0,none⟩)]) rfl (enters_of Tryz.func46 (by kernel_rfl) rfl)
  hseq.out al.out ?ps KpC.trans (fun c W l r r' h1 h2 h3=>KpS.c (KpS.putLoop _ (by intro h;have:=h.2;have:=hnb.out;omega) h2))
  (AwI w W7.heap.size W8.heap.size) (fun _ _ _=>False) (awI_free hwb.out hnb.out) (fun c r W W' h _=>h) (fun r W h=>Nat.le_trans (by first | exact Nat.le_refl _ | omega) h.1.2.2.2) (fun c r W h=>h.elim)
  ⟨⟨Nat.zero_le _,D8.out,N8.out,Nat.le_refl _⟩,B8.out⟩ (fun r W h=>⟨hP'.out.kept h.2,hM'.out.kept h.2,hT'.out.below h.2⟩) (LdY [([47,99,47,98],oneT)] W8.heap.size) AwG (fun r c y=>ldY_own r c y) ?assign ?body ?done ?stop
 case ps =>
  rintro b r c x W ⟨p,t,v,-,rfl,-,-,-⟩
  rfl
 case assign =>
  intro l r c x W K hlt hI hE hK
  obtain ⟨p,t,v,hL,rfl,-,-,hv⟩:=hE
  obtain ⟨k5,b5,r5,t5,ko5,N5,kc5,vo5,M5,vc5,rfl⟩:=hv.at.lets
  have hb:Below W.heap.size W (W.alloc (.cells #[.int .i64 k5,.bool b5,.string r5,.string t5,.slice ko5 N5 kc5,.slice vo5 M5 vc5] 59)):=(Below.refl _ _).alloc (Nat.le_refl _) _
  have hK2:=hK (p,W.heap.size,#[.int .i64 k5,.bool b5,.string r5,.string t5,.slice ko5 N5 kc5,.slice vo5 M5 vc5]) (W.alloc (.cells #[.int .i64 k5,.bool b5,.string r5,.string t5,.slice ko5 N5 kc5,.slice vo5 M5 vc5] 59)) ((keeps_below hb).from _) (KpS.c (KpS.below hb)) (awI_free hwb.out hnb.out r _ _ hI (hb.mono hI.1.2.2.2)) ⟨t,hL,hI.1.2.2.2,At.new W _ _,hv.at.kept hb⟩
  simp only [AwG,List.setIfInBounds_toArray,List.set_cons_zero,List.set_cons_succ] at hK2
  clear hK hI hv hb
  gi_wp2
  exact hK2
 case body =>
  rintro l r c ⟨p,q,c5⟩ W hll hloop hlt ⟨⟨h5,hD,hN,hG⟩,hB⟩ ⟨t,hL,hq,hQ,hV⟩
  dsimp only at hL hq hQ hV
  obtain rfl:r=0:=by simp at hlt;omega
  simp only [List.getElem?_cons_zero,Option.some.injEq,Prod.mk.injEq] at hL
  obtain ⟨rfl,rfl⟩:=hL
  obtain ⟨k5,b5,r5,t5,ko5,N5,kc5,vo5,M5,vc5,he⟩:=hV.lets
  injection he with he
  subst he
  obtain rfl:r5=⟨#[49]⟩:=by
   unfold oneT at hV
   cases hV
   rfl
  simp only [AwG,List.setIfInBounds_toArray,List.set_cons_zero,List.set_cons_succ]
  rw [show mkL [47,99,47,98]=⟨#[47,99,47,98]⟩ from rfl]
  have nc:W.cell? ⟨W7.heap.size,0,none⟩=some (.int .i64 0):=hN.cell 0
  have fc:W.frozen? ⟨W7.heap.size,0,none⟩=false:=hN.frozen 0
  have q2:(W.setCell ⟨W7.heap.size,0,none⟩ (.int .i64 1)).cell? ⟨q,2,none⟩=some (.string ⟨#[49]⟩):=(hQ.other (p:=⟨W7.heap.size,0,none⟩) (by show q≠W7.heap.size;have:=hnb.out;omega) _).cell 2
  have hD':=hid hD
  have hN':=hid hN
  have hB':=hid hB
  have hG':=hid hG
  clear hD hN hB hQ hV h5 hlt
  gi_wp2
  refine ⟨(KeepsOthers.setCell _ _ _).from _,KpS.c (KpS.set _ (by intro h;have:=h.2;omega) (by have:=hnb.out;omega)),⟨Nat.le_refl _,hD'.out.other (p:=⟨W7.heap.size,0,none⟩) (by show w.heap.size≠W7.heap.size;have:=hlw.out;omega) _,?_,Nat.le_trans hG'.out (KeepsOthers.setCell _ _ _).1⟩,hB'.out.setCell (p:=⟨W7.heap.size,0,none⟩) (by show w.heap.size≤W7.heap.size;have:=hlw.out;omega) _⟩
  exact at_setW hN'.out (.int .i64 1)
 case done =>
  rintro D W hD ⟨⟨h5,hDD,hN,hG⟩,hB⟩ hK
  have nc:W.cell? ⟨W7.heap.size,0,none⟩=some (.int .i64 1):=hN.cell 0
  have r5:W.cell? ⟨w.heap.size,0,none⟩=some (.bool false):=hDD.cell 0
  have g5:W.frozen? ⟨w.heap.size,0,none⟩=false:=hDD.frozen 0
  have hB':=hid hB
  have K5:(W.setCell ⟨w.heap.size,0,none⟩ (.bool true)).heap[D]? = some (.deferred (some [])):=(Below.heap_setCell W ⟨w.heap.size,0,none⟩ _ D (by show D≠w.heap.size;have:=hwb.out;omega)).trans hK
  clear hDD hN hB hK h5
  gi_wp2
  refine ⟨by simp,.inl ⟨_,_,rfl,run_takeDeferred K5,?_⟩⟩
  have hc5:=cell_kept (World.cell?_setCell_same' W ⟨w.heap.size,0,none⟩ (.bool true) (by rw [r5];rfl)) (grownBy_putObj' _ D (.deferred none)) (fun r e=>by cases e;exact ⟨_,K5,rfl⟩)
  refine ⟨.bool true,?_,rfl,(hB'.out.setCell (p:=⟨w.heap.size,0,none⟩) (by show w.heap.size≤w.heap.size;omega) _).trans (belowK_b (w:=w) (Nat.le_refl _) _ D _ _ (by have:=hwb.out;omega) K5 rfl rfl)⟩
  simp [results,Tryz.f11,go_sem,hc5]
 case stop =>
  rintro D c r W hD-h hK
  exact h.elim
end Go.Proofs.YtongedjlmohogaaGreatDoor
