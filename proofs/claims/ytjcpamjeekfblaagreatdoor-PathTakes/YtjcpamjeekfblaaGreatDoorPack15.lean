/-
  Texts of mine that others lean on, one behind the other.
-/
import Derived.Test.YtjcpamjeekfblaaGreatDoorPack1
import Derived.Test.YtjcpamjeekfblaaGreatDoorPack13
import Derived.Test.YtjcpamjeekfblaaGreatDoorPack14
import Derived.Test.YtjcpamjeekfblaaGreatDoorPack4
import Derived.Test.YtjcpamjeekfblaaGreatDoorPack5
import Derived.Test.YtjcpamjeekfblaaGreatDoorPack12
namespace Go.Proofs.YtjcpamjeekfblaaGreatDoor
open Go.RowKit Go.Shelf
theorem valueP_pv {s:ByteArray} (hs:s.size≤1048576) (b g:Nat) {k j:Nat} {t:Vt} (h:PV s k t j) :
  ∀ (i:Nat) (w:World),IsSkip s i k→Hid (PaI b g s i w)→Calls Tryz.prog 126 #[.pointer (some ⟨b,0,none⟩)] w fun e w'=>ParP b g s j t w e w':=by
 induction h with
 | null i h hl=>exact fun z w hsk hP=>valueP_k1 b g s (by omega) z i _ _ (hid hsk) (by omega) (hid (by unfold kindC;rw [h];rfl)) (hid (fun u hu=>nullP_calls b g s (by omega) i hl u hu)) w hP
 | yes i h hl=>exact fun z w hsk hP=>valueP_k2 b g s (by omega) z i _ _ (hid hsk) (by omega) (hid (by unfold kindC;rw [h];rfl)) (hid (fun u hu=>truthP_yes b g s (by omega) i hl (hid h) u hu)) w hP
 | no i h hl=>exact fun z w hsk hP=>valueP_k2 b g s (by omega) z i _ _ (hid hsk) (by omega) (hid (by unfold kindC;rw [h];rfl)) (hid (fun u hu=>truthP_no b g s (by omega) i hl (hid h) u hu)) w hP
 | text i j T h=>exact fun z w hsk hP=>valueP_k4 b g s (by omega) z i _ _ (hid hsk) h.le.1 (hid (by unfold kindC;rw [h.1];rfl)) (hid (fun u hu=>textP_calls b g s hs i j T (hid h) u hu)) w hP
 | num i j h hc hj hl hs2=>exact fun z w hsk hP=>valueP_k3 b g s (by omega) z i _ _ (hid hsk) h (hid (by obtain ⟨c1,c2,c3,c4,c5,c6⟩:=hc;unfold kindC;rw [if_neg c4,if_neg (by omega),if_neg c3,if_neg c1,if_neg c2])) (hid (fun u hu=>numberP_calls b g s (by omega) i j h (hid hj) hl hs2 u hu)) w hP
 | arr i vs a bb cc h h0 hq hv hss he hn ih =>
  have hi:i<s.size:=byteAt_in (by rw [h];decide)
  have hlen:=arr_len (fun q hl=>by have:=(hq q hl).2.2.1.1;split at this <;> omega) hv hss _ (Nat.le_refl _)
  exact fun z w hsk hP=>valueP_k5 b g s (by omega) z i _ _ (hid hsk) hi (hid (by unfold kindC;rw [h];rfl)) (hid (fun u hu=>arrayP_of b g s hs i hi vs a bb cc (hid h0) (hid hq) (hid (fun q y hy z x hz hx=>ih q y hy z x hz hx)) (hid hss) (hid he) (hid hn) (by omega) u hu)) w hP
 | obj i ks vs hkv a nn mm dd bb cc h h0 hq hk hv hss he hn ih =>
  have hi:i<s.size:=byteAt_in (by rw [h];decide)
  have hlen:=arr_len (fun q hl=>by
   obtain ⟨-,-,g1,-,g2,-,g3,-⟩:=hq q hl
   have g4:=(hk q _ (List.getElem?_eq_getElem (show q<ks.length by omega))).le
   have g1':=g1.1
   have g2':=g2.1
   have g3':=g3.1
   split at g1' <;> omega) hv hss _ (Nat.le_refl _)
  exact fun z w hsk hP=>valueP_k6 b g s (by omega) z i _ _ (hid hsk) hi (hid (by unfold kindC;rw [h];rfl)) (hid (fun u hu=>objectP_of b g s hs i hi ks vs hkv a nn mm dd bb cc (hid h0) (hid hq) (hid hk) (hid (fun q y hy z x hz hx=>ih q y hy z x hz hx)) (hid hss) (hid he) (hid hn) (by omega) u hu)) w hP
set_option maxRecDepth 10000 in
set_option maxHeartbeats 4000000 in
theorem callsP_calls (b:Nat) (w:World) :
  Calls Tryz.prog 125 #[.pointer (some ⟨b,0,none⟩)] w fun e w'=>e = .returned (.slice (some ⟨w.heap.size,0,none⟩) 7 7)∧w'=w.alloc (.cells (takesC b) 60):=by
 unfold takesC
 go_enter Tryz.func125,Tryz.ntmps125
 go_wp2
 go_ret
 exact ⟨rfl,rfl⟩
def IsPar (s:ByteArray) (C:Nat) (t:Vt):Prop:=(C=1∧∃ i j,IsSkip s 0 i∧PV s i t j)∨(C≠1∧t=vt0)
theorem par_ex {s:ByteArray} {d:Int} {C A:Nat} {E:Int} (h:IsChk s d C A E):∃ t,IsPar s C t:=by
 by_cases hc:C=1
 ·have hd:docM (byts s):=chk_doc h (.inl hc)
  obtain ⟨i,t,j,h1,h2⟩:=doc_pv hd
  exact ⟨t,.inl ⟨hc,i,j,h1,h2⟩⟩
 ·exact ⟨vt0,.inr ⟨hc,rfl⟩⟩
theorem ret_par {fn:Func} {p q u:Tmp} {R:Ending→World→Prop} {a:Act} {w:World} {b c:Nat} {cs:Array Value} {x y:Value} (hres:fn.results = #[.cell p 59,.cell q 137,.tmp u]) (hp:a.tmps.getD p undef = .pointer (some ⟨b,0,none⟩)) (hq:a.tmps.getD q undef = .pointer (some ⟨c,0,none⟩))
  (h:At w b cs 59) (hc:cs.size=6) (h2:At w c #[x,y] 137) (hd:a.defers=[]) (hR:R (.returned (.tuple #[.agg cs,.agg #[x,y],a.tmps.getD u undef])) w):bodyPost Tryz.prog fn R .ret a w:=by
 refine bodyPost_ret (v:=.tuple #[.agg cs,.agg #[x,y],a.tmps.getD u undef]) ?_ hd hR
 have hl:=run_loadVar_row (P:=Tryz.prog) w b 59 59 cs (0,0) _ h Tryz.underlying59 rfl (by rw [hc];exact sizeVl)
 have hl2:=run_loadVar_row (P:=Tryz.prog) w c 137 137 #[x,y] (0,0) _ h2 Tryz.underlying137 rfl (by exact sizeVer)
 have hp':a.tmps[p]?.getD undef = .pointer (some ⟨b,0,none⟩):=by simpa using hp
 have hq':a.tmps[q]?.getD undef = .pointer (some ⟨c,0,none⟩):=by simpa using hq
 simp [results,hres,hp',hq',asAddr,hl,hl2]
set_option maxRecDepth 10000 in
set_option maxHeartbeats 4000000 in
theorem parse_calls (s:ByteArray) (hs:s.size≤1048576) (d:Int) (hd:(Lit.int .i64 d).wf=true) (C A:Nat) (E:Int) (hI:Hid (IsChk s d C A E)) (t:Vt) (ht:Hid (IsPar s C t)) (w:World) :
  Calls Tryz.prog 105 #[.string s,.int .i64 d] w fun e w'=>∃ x:Value,e = .returned (.tuple #[x,.agg #[.int .i64 (C:Int),.int .i64 (A:Int)],.int .i64 E])∧ValOn (fun c=>w.heap.size≤c) w' t x∧Below w.heap.size w w':=by
 have hck:=hid (fun u=>ckA_calls s (by omega) d hd u)
 obtain ⟨p,hp⟩:∃ p,Hid (w.heap.size=p):=⟨_,rfl⟩
 have B0:Hid (Below p w ((w.alloc (.cells #[.int .i64 0,.bool false,.string ⟨#[]⟩,.string ⟨#[]⟩,.slice none 0 0,.slice none 0 0] 59)).alloc (.cells #[.int .i64 0,.int .i64 0] 137))):=by
  rw [← hp.out]
  exact ((Below.refl _ w).alloc (Nat.le_refl _) _).alloc (by rw [World.size_alloc];omega) _
 have e1:(w.alloc (.cells #[.int .i64 0,.bool false,.string ⟨#[]⟩,.string ⟨#[]⟩,.slice none 0 0,.slice none 0 0] 59)).heap.size=p+1:=by rw [World.size_alloc,hp.out]
 have A0:Hid (At ((w.alloc (.cells #[.int .i64 0,.bool false,.string ⟨#[]⟩,.string ⟨#[]⟩,.slice none 0 0,.slice none 0 0] 59)).alloc (.cells #[.int .i64 0,.int .i64 0] 137)) p #[.int .i64 0,.bool false,.string ⟨#[]⟩,.string ⟨#[]⟩,.slice none 0 0,.slice none 0 0] 59):=by
  have h:=(At.new w #[.int .i64 0,.bool false,.string ⟨#[]⟩,.string ⟨#[]⟩,.slice none 0 0,.slice none 0 0] 59).alloc (.cells #[.int .i64 0,.int .i64 0] 137)
  rw [hp.out] at h
  exact h
 have V0:Hid (At ((w.alloc (.cells #[.int .i64 0,.bool false,.string ⟨#[]⟩,.string ⟨#[]⟩,.slice none 0 0,.slice none 0 0] 59)).alloc (.cells #[.int .i64 0,.int .i64 0] 137)) (p+1) #[.int .i64 0,.int .i64 0] 137):=by
  have h:=At.new (w.alloc (.cells #[.int .i64 0,.bool false,.string ⟨#[]⟩,.string ⟨#[]⟩,.slice none 0 0,.slice none 0 0] 59)) #[.int .i64 0,.int .i64 0] 137
  rw [e1] at h
  exact h
 have z0:Hid (((w.alloc (.cells #[.int .i64 0,.bool false,.string ⟨#[]⟩,.string ⟨#[]⟩,.slice none 0 0,.slice none 0 0] 59)).alloc (.cells #[.int .i64 0,.int .i64 0] 137)).heap.size=p+2):=by show _=_;rw [World.size_alloc,e1]
 clear e1
 go_enter Tryz.func105,Tryz.ntmps105
 go_upto_region 1 with fail
 rw [hp.out]
 generalize (w.alloc (.cells #[.int .i64 0,.bool false,.string ⟨#[]⟩,.string ⟨#[]⟩,.slice none 0 0,.slice none 0 0] 59)).alloc (.cells #[.int .i64 0,.int .i64 0] 137)=W0 at A0 V0 B0 z0 ⊢
 go_wp2_with fail
 refine Calls.mono (hck.out W0) ?_
 rintro e W1 ⟨C',A',E',rfl,hI',hb⟩
 obtain ⟨rfl,rfl,rfl⟩:=hI'.uniq hI.out
 have B1:Hid (Below p w (W1.alloc (.cells #[.int .i64 (C':Int),.int .i64 (A':Int)] 137))):=by
  have h1:=B0.out.trans (hb.mono (by rw [z0.out];omega))
  exact h1.alloc (by have:=hb.size;rw [z0.out] at this;omega) _
 have A1:=hid ((A0.out.keptAll hb).alloc (.cells #[.int .i64 (C':Int),.int .i64 (A':Int)] 137))
 have V1:=hid ((V0.out.keptAll hb).alloc (.cells #[.int .i64 (C':Int),.int .i64 (A':Int)] 137))
 have X1:=hid (At.new W1 #[.int .i64 (C':Int),.int .i64 (A':Int)] 137)
 obtain ⟨xb,hxb⟩:∃ x,Hid (W1.heap.size=x):=⟨_,rfl⟩
 have hxl:Hid (p+2≤xb):=by have:=hb.size;rw [z0.out,hxb.out] at this;exact this
 have hsz:Hid ((W1.alloc (.cells #[.int .i64 (C':Int),.int .i64 (A':Int)] 137)).heap.size=xb+1):=by show _=_;rw [World.size_alloc,hxb.out]
 rw [hxb.out] at X1
 clear hck hI' hb A0 V0 B0 z0
 by_cases hC:C'=1
 ·obtain ⟨i,j,hsk,hPV⟩:∃ i j,IsSkip s 0 i∧PV s i t j:=by
   rcases ht.out with ⟨-,h⟩ | ⟨h,-⟩
   ·exact h
   ·exact absurd hC h
  have hE:E'=0:=by rcases hI.out with ⟨-,h,-⟩ | ⟨-,h,-⟩;omega;exact h
  subst hE
  have ec:((C':Int) != 1)=false:=by simp [hC]
  have hsk':=hid hsk
  have hPV':=hid hPV
  have hC':=hid hC
  clear ht hC hsk hPV
  have cV:=hid (fun b g u h=>valueP_pv hs b g hPV'.out 0 u hsk'.out h)
  go_upto_region 2 with fail
  rw [hxb.out]
  generalize W1.alloc (.cells #[.int .i64 (C':Int),.int .i64 (A':Int)] 137)=W2 at A1 V1 X1 B1 hsz ⊢
  have c0:W2.cell? ⟨xb,0,none⟩=some (.int .i64 (C':Int)):=X1.out.cell 0
  go_upto_region 5 with fail
  clear c0
  have D0:=hid (At.new W2 #[.string s,.int .i64 0,.slice none 0 0] 167)
  have q2:Below W2.heap.size W2 (W2.alloc (.cells #[.string s,.int .i64 0,.slice none 0 0] 167)):=(Below.refl _ _).alloc (Nat.le_refl _) _
  have A2:=hid (A1.out.keptAll q2)
  have V2:=hid (V1.out.keptAll q2)
  have X2:=hid (X1.out.keptAll q2)
  have B2:=hid (B1.out.trans (q2.mono (by rw [hsz.out];have:=hxl.out;omega)))
  have hsz2:Hid ((W2.alloc (.cells #[.string s,.int .i64 0,.slice none 0 0] 167)).heap.size=xb+2):=by show _=_;rw [World.size_alloc,hsz.out]
  rw [hsz.out] at D0 ⊢
  clear A1 V1 X1 B1 q2 hsz
  generalize W2.alloc (.cells #[.string s,.int .i64 0,.slice none 0 0] 167)=W3 at A2 V2 X2 B2 D0 hsz2 ⊢
  have cC:=hid (callsP_calls (xb+1) W3)
  rw [hsz2.out] at cC
  go_wp2_with fail
  refine Calls.mono cC.out ?_
  rintro e W4 ⟨rfl,hw4⟩
  rw [hw4]
  clear hw4
  have q3:Below W3.heap.size W3 (W3.alloc (.cells (takesC (xb+1)) 60)):=(Below.refl _ _).alloc (Nat.le_refl _) _
  have K3:=hid (At.new W3 (takesC (xb+1)) 60)
  have A3:=hid (A2.out.keptAll q3)
  have V3:=hid (V2.out.keptAll q3)
  have X3:=hid (X2.out.keptAll q3)
  have D3:=hid (D0.out.keptAll q3)
  have B3:=hid (B2.out.trans (q3.mono (by rw [hsz2.out];have:=hxl.out;omega)))
  have hsz3:Hid ((W3.alloc (.cells (takesC (xb+1)) 60)).heap.size=xb+3):=by show _=_;rw [World.size_alloc,hsz2.out]
  rw [hsz2.out] at K3
  clear cC A2 V2 X2 B2 D0 q3 hsz2
  generalize W3.alloc (.cells (takesC (xb+1)) 60)=W5 at A3 V3 X3 B3 D3 K3 hsz3 ⊢
  have d2:W5.cell? ⟨xb+1,2,none⟩=some (.slice none 0 0):=D3.out.cell 2
  have f2:=D3.out.frozen 2
  have P4:Hid (PaI (xb+1) (xb+2) s 0 (W5.setCell ⟨xb+1,2,none⟩ (.slice (some ⟨xb+2,0,none⟩) 7 7))):=⟨by simpa using D3.out.set 2 (.slice (some ⟨xb+2,0,none⟩) 7 7),K3.out.other (p:=⟨xb+1,2,none⟩) (by simp) _,by omega⟩
  have A4:=hid (A3.out.other (p:=⟨xb+1,2,none⟩) (show p≠xb+1 by have:=hxl.out;omega) (.slice (some ⟨xb+2,0,none⟩) 7 7))
  have V4:=hid (V3.out.other (p:=⟨xb+1,2,none⟩) (show p+1≠xb+1 by have:=hxl.out;omega) (.slice (some ⟨xb+2,0,none⟩) 7 7))
  have X4:=hid (X3.out.other (p:=⟨xb+1,2,none⟩) (show xb≠xb+1 by omega) (.slice (some ⟨xb+2,0,none⟩) 7 7))
  have B4:=hid (B3.out.setCell (p:=⟨xb+1,2,none⟩) (show p≤xb+1 by have:=hxl.out;omega) (.slice (some ⟨xb+2,0,none⟩) 7 7))
  have hsz4:Hid ((W5.setCell ⟨xb+1,2,none⟩ (.slice (some ⟨xb+2,0,none⟩) 7 7)).heap.size=xb+3):=by show _=_;rw [← hsz3.out];simp
  go_upto_region 6 with fail
  clear d2 f2 A3 V3 X3 B3 D3 K3 hsz3
  generalize W5.setCell ⟨xb+1,2,none⟩ (.slice (some ⟨xb+2,0,none⟩) 7 7)=W6 at A4 V4 X4 B4 P4 hsz4 ⊢
  have hx0:W6.drew.cell? ⟨xb,0,none⟩=some (.int .i64 (C':Int))∧W6.drew.cell? ⟨xb,1,none⟩=some (.int .i64 (A':Int)):=⟨X4.out.cell 0,X4.out.cell 1⟩
  have q0:=hid (show Below W6.heap.size W6 W6.drew from (Below.refl _ _).drew)
  have A5:=hid (A4.out.keptAll q0.out)
  have V5:=hid (V4.out.keptAll q0.out)
  have X5:=hid (X4.out.keptAll q0.out)
  have P5:=hid (P4.out.kept q0.out)
  have B5:=hid (B4.out.drew)
  have hsz5:Hid (W6.drew.heap.size=xb+3):=hsz4.out
  refine wp_region_held_drew (S:=fun w'=>w'.cell? ⟨xb,0,none⟩=some (.int .i64 (C':Int))∧w'.cell? ⟨xb,1,none⟩=some (.int .i64 (A':Int))) (by kernel_rfl) hx0 (fun hHeld=>?_)
  clear hHeld q0 A4 V4 X4 P4 B4 hsz4
  generalize W6.drew=v0 at *
  (refine' wpAnyH_take (i:=0) rfl (by kernel_rfl) (by kernel_rfl) (by kernel_rfl) (fun _ _ _ h=>h) (Or.inl ⟨by rfl,?_⟩) (by assumption) ?_;rotate_left;(· (intro wq hq;(try dsimp only at hq);go_simp;first | done | with_reducible rfl));simp only [psA])
  (refine' wpAnyH_take (i:=2) rfl (by kernel_rfl) (by kernel_rfl) (by kernel_rfl) (fun _ _ _ h=>h) (Or.inl ⟨by rfl,?_⟩) (by assumption) ?_;rotate_left;(· (intro wq hq;(try dsimp only at hq);go_simp;first | done | with_reducible rfl));simp only [psA])
  refine wpAnyH_ready (rs:=[1]) (by kernel_rfl) (by simp) ?_
  refine AllReadyH.cons rfl (fun K hK=>?_) ?_
  ·rw [if_pos (by rfl)]
   go_simp
   refine Calls.mono (cV.out _ _ v0 P5) ?_
   rintro e v1 ⟨x,rfl,hV,hP1,hF1⟩
   obtain ⟨ko,kc,vo,vc,rfl⟩:=hV.six
   have hl:=hxl.out
   have A6:=hid (hF1.at_ A5.out (show p≠xb+1 by omega))
   have V6:=hid (hF1.at_ V5.out (show p+1≠xb+1 by omega))
   have X6:=hid (hF1.at_ X5.out (show xb≠xb+1 by omega))
   have U6:=hid hV
   have B6:Hid (Below p w v1):=⟨hF1.os.trans B5.out.os,hF1.tape.trans B5.out.tape,hF1.output.trans B5.out.output,Nat.le_trans B5.out.size hF1.size,fun k hk=>(hF1.block k (by rw [hsz5.out];omega) (by omega)).trans (B5.out.block k hk)⟩
   refine hK.out _ _ ⟨X6.out.cell 0,X6.out.cell 1⟩ (fun _=>?_)
   clear hK K cV hV hP1 hF1 hx0 A5 V5 X5 P5 B5 hl
   have d0:=A6.out.cell 0
   have d1:=A6.out.cell 1
   have d2:=A6.out.cell 2
   have d3:=A6.out.cell 3
   have d4:=A6.out.cell 4
   have d5:=A6.out.cell 5
   simp only [List.getElem?_toArray,List.getElem?_cons_zero,List.getElem?_cons_succ] at d0 d1 d2 d3 d4 d5
   have f0:=A6.out.frozen 0
   have f1:=A6.out.frozen 1
   have f2:=A6.out.frozen 2
   have f3:=A6.out.frozen 3
   have f4:=A6.out.frozen 4
   have f5:=A6.out.frozen 5
   refine wpAnyH_ready (rs:=[3]) (by kernel_rfl) (by simp) ?_
   refine AllReadyH.cons rfl (fun K hK=>?_) ?_
   ·go_simp
    have X7:=hid (show At ((((((v1.setCell ⟨p,0,none⟩ (.int .i64 t.kind)).setCell ⟨p,1,none⟩ (.bool t.b)).setCell ⟨p,2,none⟩ (.string t.raw)).setCell ⟨p,3,none⟩ (.string t.text)).setCell ⟨p,4,none⟩ (.slice ko t.keys.length kc)).setCell ⟨p,5,none⟩ (.slice vo t.kids.length vc)) xb #[.int .i64 (C':Int),.int .i64 (A':Int)] 137 from (same_six.2 xb (by have:=hxl.out;omega) X6.out.lt).trans X6.out)
    have V7:=hid (show At ((((((v1.setCell ⟨p,0,none⟩ (.int .i64 t.kind)).setCell ⟨p,1,none⟩ (.bool t.b)).setCell ⟨p,2,none⟩ (.string t.raw)).setCell ⟨p,3,none⟩ (.string t.text)).setCell ⟨p,4,none⟩ (.slice ko t.keys.length kc)).setCell ⟨p,5,none⟩ (.slice vo t.kids.length vc)) (p+1) #[.int .i64 0,.int .i64 0] 137 from (same_six.2 (p+1) (by omega) V6.out.lt).trans V6.out)
    have A7:=hid (A6.out.six (y0:=.int .i64 t.kind) (y1:=.bool t.b) (y2:=.string t.raw) (y3:=.string t.text) (y4:=.slice ko t.keys.length kc) (y5:=.slice vo t.kids.length vc))
    have U7:=hid (U6.out.kept (S':=fun c=>xb+3≤c) (fun c _ hc=>by rw [← hsz5.out];exact hc) ⟨(same_six (w:=v1) (h:=p) (y0:=.int .i64 t.kind) (y1:=.bool t.b) (y2:=.string t.raw) (y3:=.string t.text) (y4:=.slice ko t.keys.length kc) (y5:=.slice vo t.kids.length vc)).1,fun c hc hl=>same_six.2 c (by rw [hsz5.out] at hc;have:=hxl.out;omega) hl⟩)
    have B7:=hid (below_six B6.out (Nat.le_refl p) (.int .i64 t.kind) (.bool t.b) (.string t.raw) (.string t.text) (.slice ko t.keys.length kc) (.slice vo t.kids.length vc))
    refine hK.out _ _ ⟨X7.out.cell 0,X7.out.cell 1⟩ (fun _=>?_)
    clear hK K d0 f0 d1 f1 d2 f2 d3 f3 d4 f4 d5 f5 A6 V6 X6 U6 B6
    generalize ((((((v1.setCell ⟨p,0,none⟩ (.int .i64 t.kind)).setCell ⟨p,1,none⟩ (.bool t.b)).setCell ⟨p,2,none⟩ (.string t.raw)).setCell ⟨p,3,none⟩ (.string t.text)).setCell ⟨p,4,none⟩ (.slice ko t.keys.length kc)).setCell ⟨p,5,none⟩ (.slice vo t.kids.length vc))=v2 at *
    have d0:=V7.out.cell 0
    have d1:=V7.out.cell 1
    simp only [List.getElem?_toArray,List.getElem?_cons_zero,List.getElem?_cons_succ] at d0 d1
    have f0:=V7.out.frozen 0
    have f1:=V7.out.frozen 1
    have V8:=hid (show At ((v2.setCell ⟨p+1,0,none⟩ (.int .i64 (C':Int))).setCell ⟨p+1,1,none⟩ (.int .i64 (A':Int))) (p+1) #[.int .i64 (C':Int),.int .i64 (A':Int)] 137 by simpa using (V7.out.set 0 (.int .i64 (C':Int))).set 1 (.int .i64 (A':Int)))
    have X8:=hid ((X7.out.other (p:=⟨p+1,0,none⟩) (show xb≠p+1 by have:=hxl.out;omega) (.int .i64 (C':Int))).other (p:=⟨p+1,1,none⟩) (show xb≠p+1 by have:=hxl.out;omega) (.int .i64 (A':Int)))
    refine wpAnyH_ready (rs:=[4]) (by kernel_rfl) (by simp) ?_
    refine AllReadyH.cons rfl (fun K hK=>?_) ?_
    ·go_simp
     refine hK.out _ _ ⟨X8.out.cell 0,X8.out.cell 1⟩ (fun _=>?_)
     clear hK K d0 d1 f0 f1
     (refine' wpAnyH_take (i:=5) rfl (by kernel_rfl) (by kernel_rfl) (by kernel_rfl) (fun _ _ _ h=>h) (Or.inl ⟨by rfl,?_⟩) (by assumption) ?_;rotate_left;(· (intro wq hq;(try dsimp only at hq);go_simp;first | done | with_reducible rfl));simp only [psA])
     refine wpAnyH_done (by kernel_rfl) ?_ _
     have hA8:=(A7.out.other (p:=⟨p+1,0,none⟩) (show p≠p+1 by omega) (.int .i64 (C':Int))).other (p:=⟨p+1,1,none⟩) (show p≠p+1 by omega) (.int .i64 (A':Int))
     have hl:=hxl.out
     have hU8:=U7.out.kept (S':=fun c=>p≤c) (w':=(v2.setCell ⟨p+1,0,none⟩ (.int .i64 (C':Int))).setCell ⟨p+1,1,none⟩ (.int .i64 (A':Int))) (fun c _ hc=>by omega) ⟨by simp,fun c hc _=>by rw [Below.heap_setCell _ _ _ _ (show c≠p+1 by omega),Below.heap_setCell _ _ _ _ (show c≠p+1 by omega)]⟩
     have hB8:=(B7.out.setCell (p:=⟨p+1,0,none⟩) (show p≤p+1 by omega) (.int .i64 (C':Int))).setCell (p:=⟨p+1,1,none⟩) (show p≤p+1 by omega) (.int .i64 (A':Int))
     go_wp2
     refine ret_par (p:=4) (q:=5) (u:=6) rfl rfl rfl hA8 rfl V8.out rfl ?_
     rw [hp.out]
     exact ⟨_,rfl,hU8,hB8⟩
    exact AllReadyH.nil
   exact AllReadyH.nil
  exact AllReadyH.nil
 ·obtain rfl:t=vt0:=by
   rcases ht.out with ⟨h,-⟩ | ⟨-,h⟩
   ·exact absurd h hC
   ·exact h
  have ec:((C':Int) != 1)=true:=by simp;omega
  clear ht hC
  go_upto_region 2 with fail
  rw [hxb.out]
  generalize W1.alloc (.cells #[.int .i64 (C':Int),.int .i64 (A':Int)] 137)=W2 at A1 V1 X1 B1 hsz ⊢
  have c0:W2.cell? ⟨xb,0,none⟩=some (.int .i64 (C':Int)):=X1.out.cell 0
  go_upto_region 3 with fail
  clear c0
  have hx0:W2.drew.cell? ⟨xb,0,none⟩=some (.int .i64 (C':Int))∧W2.drew.cell? ⟨xb,1,none⟩=some (.int .i64 (A':Int)):=⟨X1.out.cell 0,X1.out.cell 1⟩
  have q0:=hid (show Below W2.heap.size W2 W2.drew from (Below.refl _ _).drew)
  have A6:=hid (A1.out.keptAll q0.out)
  have V6:=hid (V1.out.keptAll q0.out)
  have X6:=hid (X1.out.keptAll q0.out)
  have B6:=hid (B1.out.drew)
  refine wp_region_held_drew (S:=fun w'=>w'.cell? ⟨xb,0,none⟩=some (.int .i64 (C':Int))∧w'.cell? ⟨xb,1,none⟩=some (.int .i64 (A':Int))) (by kernel_rfl) hx0 (fun hHeld=>?_)
  clear hHeld q0 A1 V1 X1 B1 hsz
  generalize W2.drew=v0 at *
  (refine' wpAnyH_take (i:=0) rfl (by kernel_rfl) (by kernel_rfl) (by kernel_rfl) (fun _ _ _ h=>h) (Or.inl ⟨by rfl,?_⟩) (by assumption) ?_;rotate_left;(· (intro wq hq;(try dsimp only at hq);go_simp;first | done | with_reducible rfl));simp only [psA])
  (refine' wpAnyH_take (i:=1) rfl (by kernel_rfl) (by kernel_rfl) (by kernel_rfl) (fun _ _ _ h=>h) (Or.inl ⟨by rfl,?_⟩) (by assumption) ?_;rotate_left;(· (intro wq hq;(try dsimp only at hq);go_simp;first | done | with_reducible rfl));simp only [psA])
  (refine' wpAnyH_take (i:=2) rfl (by kernel_rfl) (by kernel_rfl) (by kernel_rfl) (fun _ _ _ h=>h) (Or.inl ⟨by rfl,?_⟩) (by assumption) ?_;rotate_left;(· (intro wq hq;(try dsimp only at hq);go_simp;first | done | with_reducible rfl));simp only [psA])
  have d0:=A6.out.cell 0
  have d1:=A6.out.cell 1
  have d2:=A6.out.cell 2
  have d3:=A6.out.cell 3
  have d4:=A6.out.cell 4
  have d5:=A6.out.cell 5
  simp only [List.getElem?_toArray,List.getElem?_cons_zero,List.getElem?_cons_succ] at d0 d1 d2 d3 d4 d5
  have f0:=A6.out.frozen 0
  have f1:=A6.out.frozen 1
  have f2:=A6.out.frozen 2
  have f3:=A6.out.frozen 3
  have f4:=A6.out.frozen 4
  have f5:=A6.out.frozen 5
  refine wpAnyH_ready (rs:=[3]) (by kernel_rfl) (by simp) ?_
  refine AllReadyH.cons rfl (fun K hK=>?_) ?_
  ·go_simp
   have X7:=hid (show At ((((((v0.setCell ⟨p,0,none⟩ (.int .i64 0)).setCell ⟨p,1,none⟩ (.bool false)).setCell ⟨p,2,none⟩ (.string ⟨#[]⟩)).setCell ⟨p,3,none⟩ (.string ⟨#[]⟩)).setCell ⟨p,4,none⟩ (.slice none 0 0)).setCell ⟨p,5,none⟩ (.slice none 0 0)) xb #[.int .i64 (C':Int),.int .i64 (A':Int)] 137 from (same_six.2 xb (by have:=hxl.out;omega) X6.out.lt).trans X6.out)
   have V7:=hid (show At ((((((v0.setCell ⟨p,0,none⟩ (.int .i64 0)).setCell ⟨p,1,none⟩ (.bool false)).setCell ⟨p,2,none⟩ (.string ⟨#[]⟩)).setCell ⟨p,3,none⟩ (.string ⟨#[]⟩)).setCell ⟨p,4,none⟩ (.slice none 0 0)).setCell ⟨p,5,none⟩ (.slice none 0 0)) (p+1) #[.int .i64 0,.int .i64 0] 137 from (same_six.2 (p+1) (by omega) V6.out.lt).trans V6.out)
   have A7:=hid (show At ((((((v0.setCell ⟨p,0,none⟩ (.int .i64 0)).setCell ⟨p,1,none⟩ (.bool false)).setCell ⟨p,2,none⟩ (.string ⟨#[]⟩)).setCell ⟨p,3,none⟩ (.string ⟨#[]⟩)).setCell ⟨p,4,none⟩ (.slice none 0 0)).setCell ⟨p,5,none⟩ (.slice none 0 0)) p #[.int .i64 0,.bool false,.string ⟨#[]⟩,.string ⟨#[]⟩,.slice none 0 0,.slice none 0 0] 59 from A6.out.six)
   have B7:=hid (show Below p w ((((((v0.setCell ⟨p,0,none⟩ (.int .i64 0)).setCell ⟨p,1,none⟩ (.bool false)).setCell ⟨p,2,none⟩ (.string ⟨#[]⟩)).setCell ⟨p,3,none⟩ (.string ⟨#[]⟩)).setCell ⟨p,4,none⟩ (.slice none 0 0)).setCell ⟨p,5,none⟩ (.slice none 0 0)) from below_six B6.out (Nat.le_refl p) _ _ _ _ _ _)
   refine hK.out _ _ ⟨X7.out.cell 0,X7.out.cell 1⟩ (fun _=>?_)
   clear hK K d0 f0 d1 f1 d2 f2 d3 f3 d4 f4 d5 f5 A6 V6 X6 B6 hx0
   generalize ((((((v0.setCell ⟨p,0,none⟩ (.int .i64 0)).setCell ⟨p,1,none⟩ (.bool false)).setCell ⟨p,2,none⟩ (.string ⟨#[]⟩)).setCell ⟨p,3,none⟩ (.string ⟨#[]⟩)).setCell ⟨p,4,none⟩ (.slice none 0 0)).setCell ⟨p,5,none⟩ (.slice none 0 0))=v2 at *
   have d0:=V7.out.cell 0
   have d1:=V7.out.cell 1
   simp only [List.getElem?_toArray,List.getElem?_cons_zero,List.getElem?_cons_succ] at d0 d1
   have f0:=V7.out.frozen 0
   have f1:=V7.out.frozen 1
   have V8:=hid (show At ((v2.setCell ⟨p+1,0,none⟩ (.int .i64 (C':Int))).setCell ⟨p+1,1,none⟩ (.int .i64 (A':Int))) (p+1) #[.int .i64 (C':Int),.int .i64 (A':Int)] 137 by simpa using (V7.out.set 0 (.int .i64 (C':Int))).set 1 (.int .i64 (A':Int)))
   have X8:=hid ((X7.out.other (p:=⟨p+1,0,none⟩) (show xb≠p+1 by have:=hxl.out;omega) (.int .i64 (C':Int))).other (p:=⟨p+1,1,none⟩) (show xb≠p+1 by have:=hxl.out;omega) (.int .i64 (A':Int)))
   refine wpAnyH_ready (rs:=[4]) (by kernel_rfl) (by simp) ?_
   refine AllReadyH.cons rfl (fun K hK=>?_) ?_
   ·go_simp
    refine hK.out _ _ ⟨X8.out.cell 0,X8.out.cell 1⟩ (fun _=>?_)
    clear hK K d0 d1 f0 f1
    (refine' wpAnyH_take (i:=5) rfl (by kernel_rfl) (by kernel_rfl) (by kernel_rfl) (fun _ _ _ h=>h) (Or.inl ⟨by rfl,?_⟩) (by assumption) ?_;rotate_left;(· (intro wq hq;(try dsimp only at hq);go_simp;first | done | with_reducible rfl));simp only [psA])
    refine wpAnyH_done (by kernel_rfl) ?_ _
    have hA8:=(A7.out.other (p:=⟨p+1,0,none⟩) (show p≠p+1 by omega) (.int .i64 (C':Int))).other (p:=⟨p+1,1,none⟩) (show p≠p+1 by omega) (.int .i64 (A':Int))
    have hB8:=(B7.out.setCell (p:=⟨p+1,0,none⟩) (show p≤p+1 by omega) (.int .i64 (C':Int))).setCell (p:=⟨p+1,1,none⟩) (show p≤p+1 by omega) (.int .i64 (A':Int))
    go_wp2
    refine ret_par (p:=4) (q:=5) (u:=6) rfl rfl rfl hA8 rfl V8.out rfl ?_
    rw [hp.out]
    exact ⟨_,rfl,leafOn _ _ _ _ _ _ (by decide) (by decide) (by decide),hB8⟩
   exact AllReadyH.nil
  exact AllReadyH.nil
end Go.Proofs.YtjcpamjeekfblaaGreatDoor

namespace Go.Proofs.YtjcpamjeekfblaaGreatDoor
open Go.RowKit Go.Shelf
theorem chk_validT {s:ByteArray} {d:Int} (m:Mc) (h1:1≤d) (h2:d≤1024) (hr:runM mc0 (byts s)=(s.size,m)) (hw:wholeM m=true) (hd:∀ j,j<s.size→((depS s (j+1):Nat):Int)≤d):IsChk s d 1 s.size 0 :=
 .inr ⟨⟨h1,h2⟩,rfl,_,m,hr,.inr ⟨rfl,hw,.inr ⟨hd,rfl,rfl⟩⟩⟩
theorem run_eqT {l:List Nat} {k:Nat} (h:(runM mc0 l).1=k):runM mc0 l=(k,(runM mc0 l).2):=Prod.ext h rfl
theorem skip_of {s:ByteArray} {j k:Nat} (h1:j≤k) (h2:k<s.size) (h3:∀ q,q<k-j→blankN (byteAt s (j+q))=true) (h4:blankN (byteAt s k)=false):IsSkip s j k :=
 ⟨h1,Nat.le_of_lt h2,fun q a b=>by have:=h3 (q-j) (by omega);rwa [show j+(q-j)=q by omega] at this,.inr h4⟩
end Go.Proofs.YtjcpamjeekfblaaGreatDoor

namespace Go.Proofs.YtjcpamjeekfblaaGreatDoor
open Go.RowKit Go.Shelf
def QEnd (s:ByteArray) (a z:Nat):Prop:=∃ n E:Int,IsEnd s ((a+1:Nat):Int) n E∧((E=0∧(z:Int)=n+1)∨(E≠0∧z=s.size))
def IsQt (s:ByteArray) (a:Nat) (o:Option Stp) (e:Nat):Prop :=
 ∃ z,QEnd s a z∧∃ (C A:Nat) (E:Int) (t:Vt),IsChk (s.extract a z) 1 C A E∧IsPar (s.extract a z) C t∧((C=1∧o=some ⟨1,t.text,0⟩∧e=z)∨(C≠1∧o=none∧e=a+A))
theorem chk_leA {s:ByteArray} {d:Int} {C A:Nat} {E:Int} (h:IsChk s d C A E):A≤s.size:=by
 rcases h with ⟨-,-,h,-⟩ | ⟨-,-,k,m,hr,h⟩
 ·omega
 ·have h1:=(run_take mc0 (byts s)).2.2
  rw [hr] at h1
  have h2:(byts s).length=s.size:=by simp [byts]
  rcases h with ⟨-,-,h⟩ | ⟨h0,-,⟨i,hi,-,-,-,h⟩ | ⟨-,-,h⟩⟩
  ·dsimp only at h1;omega
  ·omega
  ·omega
theorem qend_le {s:ByteArray} {a z:Nat} (h:QEnd s a z):z≤s.size:=by
 obtain ⟨n,E,h,h' | ⟨-,h'⟩⟩:=h
 ·rcases h with ⟨-,-,e⟩ | ⟨k,hk,hks,⟨i,hi,-,-,-,e,-⟩ | ⟨-,-,e⟩⟩ <;> omega
 ·omega
theorem qend_gt {s:ByteArray} {a z:Nat} (h:QEnd s a z) (ha:a<s.size):a<z:=by
 obtain ⟨n,E,h,h' | ⟨-,h'⟩⟩:=h
 ·rcases h with ⟨-,-,e⟩ | ⟨k,hk,hks,⟨i,hi,-,-,-,e,-⟩ | ⟨-,-,e⟩⟩ <;> omega
 ·omega
theorem IsQt.le {s:ByteArray} {a e:Nat} {o:Option Stp} (h:IsQt s a o e) (ha:a<s.size):e≤s.size∧a≤e∧(o≠none→a<e):=by
 obtain ⟨z,hz,C,A,E,t,hc,-,h⟩:=h
 have h1:=qend_le hz
 have h2:=qend_gt hz ha
 have h3:=chk_leA hc
 rw [ByteArray.size_extract] at h3
 rcases h with ⟨-,-,rfl⟩ | ⟨-,rfl,rfl⟩
 ·exact ⟨h1,by omega,fun _=>h2⟩
 ·exact ⟨by omega,by omega,fun h=>absurd rfl h⟩
set_option maxRecDepth 10000 in
set_option maxHeartbeats 4000000 in
theorem quoted22_calls (s:ByteArray) (hs:s.size≤1048576) (a:Nat) (ha:a<s.size) (w:World):Calls Tryz.prog 87 #[.string s,.int .i64 (a:Int)] w fun e w'=>(∃ o x,e = .returned (.tuple #[ifO o,.int .i64 ((x:Nat):Int)])∧IsQt s a o x)∧Below w.heap.size w w':=by
 have hsi:(s.size:Int)≤1048576:=by omega
 have hai:(a:Int)<(s.size:Int):=by omega
 have hE:=hid (fun u=>end_calls s (by omega) ((a+1:Nat):Int) (WalkArith.wf_i64 (by omega)) u trivial)
 have hP:=hid (fun (z:Nat) (_:z≤s.size)=>show ∃ (C A:Nat) (E:Int) (t:Vt),IsChk (s.extract a z) 1 C A E∧IsPar (s.extract a z) C t∧A≤s.size∧∀ u,Calls Tryz.prog 105 #[.string (s.extract a z),.int .i64 1] u fun e w'=>∃ x:Value,e = .returned (.tuple #[x,.agg #[.int .i64 (C:Int),.int .i64 (A:Int)],.int .i64 E])∧ValOn (fun c=>u.heap.size≤c) w' t x∧Below u.heap.size u w' from by
  obtain ⟨C,A,E,hc⟩:=chk_ex (s.extract a z) 1
  obtain ⟨t,ht⟩:=par_ex hc
  have h3:=chk_leA hc
  rw [ByteArray.size_extract] at h3
  exact ⟨C,A,E,t,hc,ht,by omega,fun u=>parse_calls _ (by rw [ByteArray.size_extract];omega) 1 (by decide) C A E (hid hc) t (hid ht) u⟩)
 go_enter Tryz.func87,Tryz.ntmps87
 go_wp2_with fail
 refine Calls.mono (hE.out _) ?_
 rintro e w1 ⟨⟨n,E,rfl,hn⟩,b1⟩
 have B1:=hid b1
 clear b1 hE
 by_cases h0:E=0
 ·subst h0
  obtain ⟨z,hz⟩:∃ z:Nat,(z:Int)=n+1:=by
   rcases hn with ⟨-,-,e⟩ | ⟨k,hk,hks,⟨i,hi,-,-,-,e,-⟩ | ⟨-,-,e⟩⟩
   ·cases e
   ·exact ⟨k+i+1,by rw [e];rfl⟩
   ·cases e
  have hQ:=hid (show QEnd s a z from ⟨n,0,hn,.inl ⟨rfl,hz⟩⟩)
  have hzl:=qend_le hQ.out
  have hzg:=qend_gt hQ.out ha
  obtain ⟨C,A,E,t,hc,ht,hA,hp⟩:=hP.out z hzl
  have hc':=hid hc
  have ht':=hid ht
  have hp':=hid hp
  obtain rfl:n=(z:Int)-1:=by omega
  clear hn hP hz hc ht hp
  have hzi:(z:Int)≤(s.size:Int):=by omega
  have hzgi:(a:Int)<(z:Int):=by omega
  have hz1:(z:Int)-1+1=(z:Int):=by omega
  go_wp2_with fail
  refine Calls.mono (hp'.out _) ?_
  rintro e w2 ⟨x,rfl,hV,hb⟩
  obtain ⟨ko,kc,vo,vc,rfl⟩:=hV.six
  have q1:Below w2.heap.size w2 ((w2.alloc (.cells #[.int .i64 t.kind,.bool t.b,.string t.raw,.string t.text,.slice ko t.keys.length kc,.slice vo t.kids.length vc] 59)).alloc (.cells #[.int .i64 (C:Int),.int .i64 (A:Int)] 137)):=by exact bw
  obtain ⟨p,hpp⟩:∃ p,Hid (w2.heap.size=p):=⟨_,rfl⟩
  have A1:Hid (At ((w2.alloc (.cells #[.int .i64 t.kind,.bool t.b,.string t.raw,.string t.text,.slice ko t.keys.length kc,.slice vo t.kids.length vc] 59)).alloc (.cells #[.int .i64 (C:Int),.int .i64 (A:Int)] 137)) p #[.int .i64 t.kind,.bool t.b,.string t.raw,.string t.text,.slice ko t.keys.length kc,.slice vo t.kids.length vc] 59):=by
   have h:=(At.new w2 #[.int .i64 t.kind,.bool t.b,.string t.raw,.string t.text,.slice ko t.keys.length kc,.slice vo t.kids.length vc] 59).alloc (.cells #[.int .i64 (C:Int),.int .i64 (A:Int)] 137)
   rw [hpp.out] at h
   exact h
  have V1:Hid (At ((w2.alloc (.cells #[.int .i64 t.kind,.bool t.b,.string t.raw,.string t.text,.slice ko t.keys.length kc,.slice vo t.kids.length vc] 59)).alloc (.cells #[.int .i64 (C:Int),.int .i64 (A:Int)] 137)) (p+1) #[.int .i64 (C:Int),.int .i64 (A:Int)] 137):=by
   have h:=At.new (w2.alloc (.cells #[.int .i64 t.kind,.bool t.b,.string t.raw,.string t.text,.slice ko t.keys.length kc,.slice vo t.kids.length vc] 59)) #[.int .i64 (C:Int),.int .i64 (A:Int)] 137
   rw [World.size_alloc,hpp.out] at h
   exact h
  have B3:=hid (B1.out.trans ((hb.trans (q1.mono hb.size)).mono B1.out.size))
  go_upto_region 6 with fail
  rw [hpp.out]
  clear hV hb q1 B1 hp'
  generalize ((w2.alloc (.cells #[.int .i64 t.kind,.bool t.b,.string t.raw,.string t.text,.slice ko t.keys.length kc,.slice vo t.kids.length vc] 59)).alloc (.cells #[.int .i64 (C:Int),.int .i64 (A:Int)] 137))=W3 at A1 V1 B3 ⊢
  have d3:=A1.out.cell 3
  have e0:=V1.out.cell 0
  have e1:=V1.out.cell 1
  simp only [List.getElem?_toArray,List.getElem?_cons_zero,List.getElem?_cons_succ] at d3 e0 e1
  by_cases hC:C=1
  ·subst hC
   go_wp2_with fail
   go_ret2
   exact ⟨⟨some ⟨1,t.text,0⟩,z,rfl,z,hQ.out,1,A,E,t,hc'.out,ht'.out,.inl ⟨rfl,rfl,rfl⟩⟩,B3.out⟩
  ·have ec:((C:Int) != 1)=true:=by simp;omega
   have hC':=hid hC
   have hAi:(A:Int)≤(s.size:Int):=by omega
   clear hC d3
   go_upto_region 7 with fail
   go_region
   go_wp2_with fail
   go_ret2
   exact ⟨⟨none,a+A,rfl,z,hQ.out,C,A,E,t,hc'.out,ht'.out,.inr ⟨hC'.out,rfl,rfl⟩⟩,B3.out.drew⟩
 ·obtain ⟨z,hz⟩:∃ z:Nat,z=s.size:=⟨_,rfl⟩
  have hQ:=hid (show QEnd s a z from ⟨n,E,hn,.inr ⟨h0,hz⟩⟩)
  have hzl:=qend_le hQ.out
  have hzg:=qend_gt hQ.out ha
  have h00:(E == 0)=false:=beq_eq_false_iff_ne.2 h0
  obtain ⟨C,A,E',t,hc,ht,hA,hp⟩:=hP.out z hzl
  have hc':=hid hc
  have ht':=hid ht
  have hp':=hid hp
  clear hn hP hzl hzg hc ht hp h0
  subst hz
  go_wp2_with fail
  refine Calls.mono (hp'.out _) ?_
  rintro e w2 ⟨x,rfl,hV,hb⟩
  obtain ⟨ko,kc,vo,vc,rfl⟩:=hV.six
  have q1:Below w2.heap.size w2 ((w2.alloc (.cells #[.int .i64 t.kind,.bool t.b,.string t.raw,.string t.text,.slice ko t.keys.length kc,.slice vo t.kids.length vc] 59)).alloc (.cells #[.int .i64 (C:Int),.int .i64 (A:Int)] 137)):=by exact bw
  obtain ⟨p,hpp⟩:∃ p,Hid (w2.heap.size=p):=⟨_,rfl⟩
  have A1:Hid (At ((w2.alloc (.cells #[.int .i64 t.kind,.bool t.b,.string t.raw,.string t.text,.slice ko t.keys.length kc,.slice vo t.kids.length vc] 59)).alloc (.cells #[.int .i64 (C:Int),.int .i64 (A:Int)] 137)) p #[.int .i64 t.kind,.bool t.b,.string t.raw,.string t.text,.slice ko t.keys.length kc,.slice vo t.kids.length vc] 59):=by
   have h:=(At.new w2 #[.int .i64 t.kind,.bool t.b,.string t.raw,.string t.text,.slice ko t.keys.length kc,.slice vo t.kids.length vc] 59).alloc (.cells #[.int .i64 (C:Int),.int .i64 (A:Int)] 137)
   rw [hpp.out] at h
   exact h
  have V1:Hid (At ((w2.alloc (.cells #[.int .i64 t.kind,.bool t.b,.string t.raw,.string t.text,.slice ko t.keys.length kc,.slice vo t.kids.length vc] 59)).alloc (.cells #[.int .i64 (C:Int),.int .i64 (A:Int)] 137)) (p+1) #[.int .i64 (C:Int),.int .i64 (A:Int)] 137):=by
   have h:=At.new (w2.alloc (.cells #[.int .i64 t.kind,.bool t.b,.string t.raw,.string t.text,.slice ko t.keys.length kc,.slice vo t.kids.length vc] 59)) #[.int .i64 (C:Int),.int .i64 (A:Int)] 137
   rw [World.size_alloc,hpp.out] at h
   exact h
  have B3:=hid (B1.out.trans ((hb.trans (q1.mono hb.size)).mono B1.out.size))
  go_upto_region 6 with fail
  rw [hpp.out]
  clear hV hb q1 B1 hp'
  generalize ((w2.alloc (.cells #[.int .i64 t.kind,.bool t.b,.string t.raw,.string t.text,.slice ko t.keys.length kc,.slice vo t.kids.length vc] 59)).alloc (.cells #[.int .i64 (C:Int),.int .i64 (A:Int)] 137))=W3 at A1 V1 B3 ⊢
  have d3:=A1.out.cell 3
  have e0:=V1.out.cell 0
  have e1:=V1.out.cell 1
  simp only [List.getElem?_toArray,List.getElem?_cons_zero,List.getElem?_cons_succ] at d3 e0 e1
  by_cases hC:C=1
  ·subst hC
   go_wp2_with fail
   go_ret2
   exact ⟨⟨some ⟨1,t.text,0⟩,s.size,rfl,s.size,hQ.out,1,A,E',t,hc'.out,ht'.out,.inl ⟨rfl,rfl,rfl⟩⟩,B3.out⟩
  ·have ec:((C:Int) != 1)=true:=by simp;omega
   have hC':=hid hC
   have hAi:(A:Int)≤(s.size:Int):=by omega
   clear hC d3
   go_upto_region 7 with fail
   go_region
   go_wp2_with fail
   go_ret2
   exact ⟨⟨none,a+A,rfl,s.size,hQ.out,C,A,E',t,hc'.out,ht'.out,.inr ⟨hC'.out,rfl,rfl⟩⟩,B3.out.drew⟩
end Go.Proofs.YtjcpamjeekfblaaGreatDoor

namespace Go.Proofs.YtjcpamjeekfblaaGreatDoor
open Go.RowKit Go.Shelf
def Cn22 (s:Stp):Prop:=(s.kind=1∧s.place=0)∨(s.kind=2∧s.name=⟨#[]⟩)∨(s.kind=3∧s.name=⟨#[]⟩∧s.place=0)
theorem Cn22.iface {s:Stp} (h:Cn22 s):∃ tt vv,ifV s = .iface tt vv:=by
 obtain ⟨k,n,p⟩:=s
 rcases h with ⟨h,-⟩ | ⟨h,-⟩ | ⟨h,-,-⟩ <;> (dsimp only at h;subst h)
 ·exact ⟨85,.string n,rfl⟩
 ·exact ⟨87,.int .i64 p,rfl⟩
 ·exact ⟨89,.agg #[],rfl⟩
def Rd22 (s:ByteArray) (a:Nat) (o:Option Stp) (e:Nat):Prop:=e≤s.size∧a≤e∧∀ x,o=some x→a<e∧Cn22 x
def IsBare (s:ByteArray) (a:Nat) (o:Option Stp) (e:Nat):Prop :=
 (hasB s a 34=true∧IsQt s a o e)∨(hasB s a 34=false∧hasB s a 42=true∧(o,e)=starF s a)∨(hasB s a 34=false∧hasB s a 42=false∧∃ n,IsNm s a n∧o=nmF s a n∧e=n)
theorem has_lt {s:ByteArray} {a x:Nat} (h:hasB s a x=true):a<s.size:=by
 unfold hasB at h
 exact of_decide_eq_true (Bool.and_eq_true_iff.1 h).1
theorem IsQt.cn {s:ByteArray} {a e:Nat} {o:Option Stp} (h:IsQt s a o e) (x:Stp) (hx:o=some x):Cn22 x:=by
 obtain ⟨z,-,C,A,E,t,-,-,h⟩:=h
 rcases h with ⟨-,h,-⟩ | ⟨-,h,-⟩
 ·rw [h] at hx
  cases hx
  exact .inl ⟨rfl,rfl⟩
 ·rw [h] at hx;cases hx
theorem star_rd {s:ByteArray} {a:Nat} (ha:a≤s.size):Rd22 s a (starF s a).1 (starF s a).2:=by
 unfold starF
 by_cases h:hasB s a 42
 ·rw [if_pos h]
  have:=has_lt h
  refine ⟨by dsimp only;omega,by dsimp only;omega,fun x hx=>?_⟩
  cases hx
  exact ⟨by dsimp only;omega,.inr (.inr ⟨rfl,rfl,rfl⟩)⟩
 ·rw [if_neg h]
  exact ⟨ha,Nat.le_refl _,fun x hx=>by cases hx⟩
theorem IsBare.rd {s:ByteArray} {a e:Nat} {o:Option Stp} (h:IsBare s a o e) (ha:a≤s.size):Rd22 s a o e:=by
 rcases h with ⟨h1,h⟩ | ⟨-,-,h⟩ | ⟨-,-,n,hn,h1,h2⟩
 ·have hl:=has_lt h1
  obtain ⟨b,c,d⟩:=h.le hl
  exact ⟨b,c,fun x hx=>⟨d (by rw [hx];simp),h.cn x hx⟩⟩
 ·have:=star_rd (s:=s) ha
  rw [← h] at this
  exact this
 ·subst h1 h2
  refine ⟨hn.2.1,hn.1,fun x hx=>?_⟩
  unfold nmF at hx
  by_cases q:a<e
  ·rw [if_pos q] at hx
   cases hx
   exact ⟨q,.inr (.inl ⟨rfl,rfl⟩)⟩
  ·rw [if_neg q] at hx;cases hx
set_option maxRecDepth 10000 in
set_option maxHeartbeats 4000000 in
theorem bare22_calls (s:ByteArray) (hs:s.size≤1048576) (a:Nat) (ha:a≤s.size) (w:World):Calls Tryz.prog 63 #[.string s,.int .i64 (a:Int)] w fun e w'=>(∃ o x,e = .returned (.tuple #[ifO o,.int .i64 ((x:Nat):Int)])∧IsBare s a o x)∧Below w.heap.size w w':=by
 have h34:=hid (fun u=>has22_calls s a 34 u)
 have h42:=hid (fun u=>has22_calls s a 42 u)
 cases e34:hasB s a 34 with
 | true =>
  have e34':=hid e34
  have hq:=hid (fun u=>quoted22_calls s hs a (has_lt e34) u)
  rw [e34] at h34
  clear e34 h42
  go_enter Tryz.func63,Tryz.ntmps63
  go_wp2_with fail
  refine Calls.mono (h34.out _) ?_
  rintro e w1 ⟨rfl,b1⟩
  have B1:=hid b1
  clear b1 h34
  go_wp2_with fail
  refine Calls.mono (hq.out _) ?_
  rintro e w2 ⟨⟨o,x,rfl,hQ⟩,b2⟩
  have B2:=hid (B1.out.trans (b2.mono B1.out.size))
  have hQ':=hid hQ
  clear b2 hq hQ
  generalize hX:ifO o=X
  have hX':=hid hX
  clear hX
  go_wp2_with fail
  go_ret2
  exact ⟨⟨o,x,by rw [hX'.out];rfl,.inl ⟨e34'.out,hQ'.out⟩⟩,B2.out⟩
 | false =>
  have e34':=hid e34
  rw [e34] at h34
  clear e34
  cases e42:hasB s a 42 with
  | true =>
   have e42':=hid e42
   have hq:=hid (fun u=>star22_calls s (by omega) a u)
   rw [e42] at h42
   clear e42
   go_enter Tryz.func63,Tryz.ntmps63
   go_wp2_with fail
   refine Calls.mono (h34.out _) ?_
   rintro e w1 ⟨rfl,b1⟩
   have B1:=hid b1
   clear b1 h34
   go_wp2_with fail
   refine Calls.mono (h42.out _) ?_
   rintro e w1' ⟨rfl,b1⟩
   have B1':=hid (B1.out.trans (b1.mono B1.out.size))
   clear b1 h42 B1
   go_wp2_with fail
   refine Calls.mono (hq.out _) ?_
   rintro e w2 ⟨rfl,b2⟩
   have B2:=hid (B1'.out.trans (b2.mono B1'.out.size))
   clear b2 hq
   generalize hx:starF s a=ox
   have hx':=hid hx
   clear hx
   obtain ⟨o,x⟩:=ox
   dsimp only
   generalize hX:ifO o=X
   have hX':=hid hX
   clear hX
   go_wp2_with fail
   go_ret2
   exact ⟨⟨o,x,by rw [hX'.out];rfl,.inr (.inl ⟨e34'.out,e42'.out,hx'.out.symm⟩)⟩,B2.out⟩
  | false =>
   have e42':=hid e42
   obtain ⟨n,hn⟩:=nm_ex s a ha
   have hn':=hid hn
   have hq:=hid (fun u=>number22_calls s (by omega) a ha n hn' u)
   rw [e42] at h42
   clear e42 hn
   generalize hX:nmF s a n=o at hq
   have hX':=hid hX
   clear hX
   go_enter Tryz.func63,Tryz.ntmps63
   go_wp2_with fail
   refine Calls.mono (h34.out _) ?_
   rintro e w1 ⟨rfl,b1⟩
   have B1:=hid b1
   clear b1 h34
   go_wp2_with fail
   refine Calls.mono (h42.out _) ?_
   rintro e w1' ⟨rfl,b1⟩
   have B1':=hid (B1.out.trans (b1.mono B1.out.size))
   clear b1 h42 B1
   go_wp2_with fail
   refine Calls.mono (hq.out _) ?_
   rintro e w2 ⟨rfl,b2⟩
   have B2:=hid (B1'.out.trans (b2.mono B1'.out.size))
   clear b2 hq
   generalize hY:ifO o=Y
   have hY':=hid hY
   clear hY
   go_wp2_with fail
   go_ret2
   exact ⟨⟨o,n,by rw [hY'.out];rfl,.inr (.inr ⟨e34'.out,e42'.out,n,hn'.out,hX'.out.symm,rfl⟩)⟩,B2.out⟩
def IsBr (s:ByteArray) (a:Nat) (o:Option Stp) (e:Nat):Prop:=∃ o' e',IsBare s a o' e'∧(((o'=none∨hasB s e' 93=false)∧o=none∧e=e')∨(hasB s e' 93=true∧o'≠none∧o=o'∧e=e'+1))
theorem IsBr.rd {s:ByteArray} {a e:Nat} {o:Option Stp} (h:IsBr s a o e) (ha:a≤s.size):Rd22 s a o e:=by
 obtain ⟨o',e',hb,h⟩:=h
 obtain ⟨h1,h2,h3⟩:=hb.rd ha
 rcases h with ⟨-,rfl,rfl⟩ | ⟨h4,-,rfl,rfl⟩
 ·exact ⟨h1,h2,fun x hx=>by cases hx⟩
 ·have:=has_lt h4
  exact ⟨by omega,by omega,fun x hx=>⟨by omega,(h3 x hx).2⟩⟩
set_option maxRecDepth 10000 in
set_option maxHeartbeats 4000000 in
theorem inBr22_calls (s:ByteArray) (hs:s.size≤1048576) (a:Nat) (ha:a≤s.size) (w:World):Calls Tryz.prog 39 #[.string s,.int .i64 (a:Int)] w fun e w'=>(∃ o x,e = .returned (.tuple #[ifO o,.int .i64 ((x:Nat):Int)])∧IsBr s a o x)∧Below w.heap.size w w':=by
 have hba:=hid (fun u=>bare22_calls s hs a ha u)
 have h93:=hid (fun x u=>has22_calls s x 93 u)
 go_enter Tryz.func39,Tryz.ntmps39
 go_wp2_with fail
 refine Calls.mono (hba.out _) ?_
 rintro e w1 ⟨⟨o,x,rfl,hB⟩,b1⟩
 have B1:=hid b1
 have hB':=hid hB
 obtain ⟨hx1,hx2,hx3⟩:=hB.rd ha
 have hx3':=hid hx3
 have hxi:(x:Int)≤(s.size:Int):=by omega
 have hsi:(s.size:Int)≤1048576:=by omega
 clear b1 hba hB hx3
 cases o with
 | none =>
  rw [show ifO none = .nilIface from rfl]
  go_wp2_with fail
  go_ret2
  exact ⟨⟨none,x,rfl,none,x,hB'.out,.inl ⟨.inl rfl,rfl,rfl⟩⟩,B1.out⟩
 | some st =>
  obtain ⟨tt,vv,hv⟩:=(hx3'.out st rfl).2.iface
  have hv':Hid (ifO (some st) = .iface tt vv):=hid hv
  clear hv
  rw [hv'.out]
  cases e93:hasB s x 93 with
  | true =>
   have h:=hid (fun u=>h93.out x u)
   rw [e93] at h
   have e93':=hid e93
   have hlt:=has_lt e93
   have hlti:(x:Int)<(s.size:Int):=by omega
   clear e93 h93
   go_wp2_with fail
   refine Calls.mono (h.out _) ?_
   rintro e w2 ⟨rfl,b2⟩
   have B2:=hid (B1.out.trans (b2.mono B1.out.size))
   clear b2 h
   go_wp2_with fail
   go_ret2
   exact ⟨⟨some st,x+1,by rw [hv'.out];rfl,some st,x,hB'.out,.inr ⟨e93'.out,by simp,rfl,rfl⟩⟩,B2.out⟩
  | false =>
   have h:=hid (fun u=>h93.out x u)
   rw [e93] at h
   have e93':=hid e93
   clear e93 h93
   go_wp2_with fail
   refine Calls.mono (h.out _) ?_
   rintro e w2 ⟨rfl,b2⟩
   have B2:=hid (B1.out.trans (b2.mono B1.out.size))
   clear b2 h
   go_wp2_with fail
   go_ret2
   exact ⟨⟨none,x,rfl,some st,x,hB'.out,.inl ⟨.inr e93'.out,rfl,rfl⟩⟩,B2.out⟩
end Go.Proofs.YtjcpamjeekfblaaGreatDoor

namespace Go.Proofs.YtjcpamjeekfblaaGreatDoor
open Go.RowKit Go.Shelf
def IsRead (s:ByteArray) (a:Nat) (o:Option Stp) (e:Nat):Prop :=
 (lk s a=46∧∃ n,IsWd (s.extract (a+1) s.size) n∧o=(bpF s (a+1) n).1∧e=(bpF s (a+1) n).2)∨(lk s a=91∧IsBr s (a+1) o e)∨((lk s a≠46∧lk s a≠91)∧o=none∧e=a)
theorem bp_rd {s:ByteArray} {a n:Nat} (ha:a≤s.size) (hn:IsWd (s.extract a s.size) n):Rd22 s a (bpF s a n).1 (bpF s a n).2:=by
 have h1:=hn.1
 rw [ByteArray.size_extract] at h1
 unfold bpF
 by_cases h:0<n
 ·rw [if_pos h]
  exact ⟨by dsimp only;omega,by dsimp only;omega,fun x hx=>by cases hx;exact ⟨by dsimp only;omega,.inl ⟨rfl,rfl⟩⟩⟩
 ·rw [if_neg h]
  exact star_rd ha
theorem IsRead.rd {s:ByteArray} {a e:Nat} {o:Option Stp} (h:IsRead s a o e) (ha:a<s.size):Rd22 s a o e:=by
 have up:Rd22 s (a+1) o e→Rd22 s a o e:=fun ⟨b,c,d⟩=>⟨b,by omega,fun x hx=>⟨by have:=(d x hx).1;omega,(d x hx).2⟩⟩
 rcases h with ⟨-,n,hn,rfl,rfl⟩ | ⟨-,h⟩ | ⟨-,rfl,rfl⟩
 ·exact up (bp_rd (by omega) hn)
 ·exact up (h.rd (by omega))
 ·exact ⟨by omega,Nat.le_refl _,fun x hx=>by cases hx⟩
set_option maxRecDepth 10000 in
set_option maxHeartbeats 4000000 in
theorem read22_calls (s:ByteArray) (hs:s.size≤1048576) (a:Nat) (ha:a<s.size) (w:World):Calls Tryz.prog 21 #[.string s,.int .i64 (a:Int)] w fun e w'=>(∃ o x,e = .returned (.tuple #[ifO o,.int .i64 ((x:Nat):Int)])∧IsRead s a o x)∧Below w.heap.size w w':=by
 have hsi:(s.size:Int)≤1048576:=by omega
 have hai:(a:Int)<(s.size:Int):=by omega
 have e1:=lk_at s a ha
 by_cases h46:lk s a=46
 ·have h46':=hid h46
  obtain ⟨n,hn⟩:=wd_ex (s.extract (a+1) s.size)
  have hn':=hid hn
  have hq:=hid (fun u=>behind22_calls s (by omega) (a+1) (by omega) n hn' u)
  generalize hX:bpF s (a+1) n=ox at hq
  have hX':=hid hX
  obtain ⟨o,x⟩:=ox
  dsimp only at hq
  have c1:((s[a]'ha).toNat:Int)=46:=by rw [← e1,h46];rfl
  have c2:(s[a]'ha).toNat=46:=by omega
  clear hn hX e1 h46 c1
  generalize hY:ifO o=Y at hq
  have hY':=hid hY
  clear hY
  go_enter Tryz.func21,Tryz.ntmps21
  go_wp2_with fail
  refine Calls.mono (hq.out _) ?_
  rintro e w2 ⟨rfl,b2⟩
  have B2:=hid b2
  clear b2 hq
  go_wp2_with fail
  go_ret2
  exact ⟨⟨o,x,by rw [hY'.out];rfl,.inl ⟨h46'.out,n,hn'.out,by rw [hX'.out],by rw [hX'.out]⟩⟩,B2.out⟩
 ·by_cases h91:lk s a=91
  ·have h91':=hid h91
   have hq:=hid (fun u=>inBr22_calls s hs (a+1) (by omega) u)
   have c2:(s[a]'ha).toNat=91:=by rw [← e1,h91]
   clear e1 h46 h91
   go_enter Tryz.func21,Tryz.ntmps21
   go_wp2_with fail
   refine Calls.mono (hq.out _) ?_
   rintro e w2 ⟨⟨o,x,rfl,hB⟩,b2⟩
   have B2:=hid b2
   have hB':=hid hB
   clear b2 hq hB
   generalize hY:ifO o=Y
   have hY':=hid hY
   clear hY
   go_wp2_with fail
   go_ret2
   exact ⟨⟨o,x,by rw [hY'.out];rfl,.inr (.inl ⟨h91'.out,hB'.out⟩)⟩,B2.out⟩
  ·have hh:=hid (And.intro h46 h91)
   rw [e1] at h46 h91
   have c1:(((s[a]'ha).toNat:Int) == 46)=false:=beq_eq_false_iff_ne.2 (by omega)
   have c2:(((s[a]'ha).toNat:Int) == 91)=false:=beq_eq_false_iff_ne.2 (by omega)
   clear e1 h46 h91
   go_enter Tryz.func21,Tryz.ntmps21
   go_wp2_with fail
   go_ret2
   exact ⟨⟨none,a,rfl,.inr (.inr ⟨hh.out,rfl,rfl⟩)⟩,by exact bw⟩
end Go.Proofs.YtjcpamjeekfblaaGreatDoor

namespace Go.Proofs.YtjcpamjeekfblaaGreatDoor
open Go.RowKit Go.Shelf
def stCs (s:Stp):List Value:=[.int .i64 s.kind,.string s.name,.int .i64 s.place]
theorem infoStp:(Tryz.prog.info? 34).map (fun i=>(i.zero,i.size,i.bytes))=some (some (.agg #[.int .i64 0,.string ⟨#[]⟩,.int .i64 0]),3,32):=by kernel_rfl
theorem stCs_get:∀ (ss:List Stp) (i:Nat) (s:Stp) (j:Nat),ss[i]? = some s→j<3→(ss.flatMap stCs)[i*3+j]? = (stCs s)[j]?
 | [],i,s,j,h,_=>by simp at h
 | x :: ss,0,s,j,h,hj=>by
  simp at h
  subst h
  rw [List.flatMap_cons,List.getElem?_append_left (by simp [stCs];omega),Nat.zero_mul,Nat.zero_add]
 | x :: ss,i+1,s,j,h,hj=>by
  rw [List.flatMap_cons,List.getElem?_append_right (by simp [stCs];omega)]
  have:=stCs_get ss i s j (by simpa using h) hj
  rw [← this]
  congr 1
  simp [stCs]
  omega
def StG (B:Nat) (w:World) (v:Value) (ss:List Stp):Prop:=w.ownsRow B 34 3 v ss.length (ss.flatMap stCs)∧∀ (i:Nat) (s:Stp),ss[i]? = some s→s.name.size≤capT
section
variable {B:Nat} {W W':World} {v:Value} {ss:List Stp}
theorem StG.nil (B:Nat) (W:World):StG B W (.slice none 0 0) []:=⟨by simpa using World.ownsRow_nil W B 34 3,fun i s h=>by simp at h⟩
theorem StG.kept (h:StG B W v ss) (hs:SameOn (fun c=>B≤c) W W'):StG B W' v ss:=⟨own_on h.1 (fun g _ hg hl=>hs.2 g hg hl),h.2⟩
theorem StG.keptB (h:StG B W v ss) (hb:Below W.heap.size W W'):StG B W' v ss:=h.kept (SameOn.below hb)
theorem StG.shape (h:StG B W v ss):∃ so cap,v = .slice so ss.length cap:=own_shape h.1
theorem StG.blk (h:StG B W v ss) {g:Nat} (hg:v.ownBlock=some g):B≤g∧g<W.heap.size:=h.1.lt g hg
theorem StG.row {vo:Option Addr} {n vc:Nat} (h:StG B W (.slice vo n vc) ss):n=ss.length∧StepsAt W vo ss:=by
 obtain ⟨h1,h2⟩:=h
 obtain ⟨so,cap,e⟩:=own_shape h1
 cases e
 refine ⟨rfl,fun i s hi=>⟨h2 i s hi,?_⟩⟩
 have hl:=(List.getElem?_eq_some_iff.1 hi).1
 rcases h1.2 with ⟨e,h0⟩ | ⟨g,cap,cur,e,hb,hg,-⟩
 ·omega
 ·cases e
  refine ⟨g,0,rfl,(h1.lt g rfl).2,?_⟩
  intro j y hj
  have hj3:j<3:=by have:=(List.getElem?_eq_some_iff.1 hj).1;simpa using this
  have:=h1.cellAt (i*3+j) (by omega)
  show W.cell? ⟨g,0+i*3+j,none⟩=some y
  rw [show 0+i*3+j=i*3+j by omega,this,stCs_get ss i s j hi hj3]
  exact hj
theorem StG.app {u:Stp} {ty:TypeId} (h:StG B W v ss) (hu:u.name.size≤capT) (ad:Addr) (c:Nat) (hC:∀ (j:Nat) (y:Value),(stCs u)[j]? = some y→W.cell? (ad.add j)=some y) (hn:ss.length<1099511627776) (hB:B≤W.heap.size) :
  ∃ v' W',(Builtin.append_ #[22,22] ty #[v,.slice (some ad) 1 c]).run Tryz.prog W = .ok v' W'∧StG B W' v' (ss++[u])∧W.grownBy W' v.ownBlock:=by
 obtain ⟨h1,h2⟩:=h
 obtain ⟨i0,hi,hz0,hz1,hz2⟩:=info_partsV infoStp
 obtain ⟨v',W',hr,r1,r2⟩:=appendV (P:=Tryz.prog) (ty:=ty) Tryz.underlying22 hi hz0 hz1 hz2 rfl (by decide) h1 ad 1 c (stCs u) (by simp [stCs]) hC (by simp [stCs];exact ⟨rfl,rfl,rfl⟩) (by unfold maxLen;omega) (by omega) hB
 refine ⟨v',W',hr,⟨?_,?_⟩,?_⟩
 ·rw [List.length_append,List.length_singleton,List.flatMap_append,List.flatMap_cons,List.flatMap_nil,List.append_nil]
  exact r1
 ·intro i s hs
  by_cases e:i=ss.length
  ·subst e
   rw [List.getElem?_append_right (Nat.le_refl _)] at hs
   simp at hs
   subst hs
   exact hu
  ·have hl:=(List.getElem?_eq_some_iff.1 hs).1
   rw [List.length_append,List.length_singleton] at hl
   rw [List.getElem?_append_left (by omega)] at hs
   exact h2 i s hs
 ·rcases r2 with ⟨g,cap,rfl,rfl,hg⟩ | ⟨-,hg⟩
  ·exact hg
  ·exact grown_weaken hg
end
end Go.Proofs.YtjcpamjeekfblaaGreatDoor
