/-
  Texts of mine that others lean on, one behind the other.
-/
import Derived.Test.YtongedjlmohogaaGreatDoorPack7
import Derived.Test.YtongedjlmohogaaGreatDoorPack12
import Derived.Test.YtongedjlmohogaaGreatDoorPack13
import Derived.Test.YtongedjlmohogaaGreatDoorPack9
import Derived.Test.YtongedjlmohogaaGreatDoorPack5
import Derived.Lib.ValidLaws
import Derived.Deep.Cut
import Derived.Test.YtongedjlmohogaaGreatDoorPack11
import Derived.Test.YtongedjlmohogaaGreatDoorPack6
import Derived.Test.YtongedjlmohogaaGreatDoorPack1
import Derived.Lib.ConvBytes
import Derived.Laws.AppendOwn
namespace Go.Proofs.YtongedjlmohogaaGreatDoor
open Go.RowKit Go.Shelf
theorem valueP_pv {s:ByteArray} (hs:s.size≤8388608) (b g:Nat) {k j:Nat} {t:Vt} (h:PV s k t j) :
  ∀ (i:Nat) (w:World),IsSkip s i k→Hid (PaI b g s i w)→Calls Tryz.prog 126 #[.pointer (some ⟨b,0,none⟩)] w fun e w'=>ParP b g s j t w e w':=by
 induction h with
 | null i h hl=>exact fun z w hsk hP=>valueP_k1 b g s (by omega) z i _ _ (hid hsk) (by omega) (hid (by unfold kindC;rw [h];rfl)) (hid (fun u hu=>nullP_calls b g s (by omega) i hl u hu)) w hP
 | yes i h hl=>exact fun z w hsk hP=>valueP_k2 b g s (by omega) z i _ _ (hid hsk) (by omega) (hid (by unfold kindC;rw [h];rfl)) (hid (fun u hu=>truthP_yes b g s (by omega) i hl (hid h) u hu)) w hP
 | no i h hl=>exact fun z w hsk hP=>valueP_k2 b g s (by omega) z i _ _ (hid hsk) (by omega) (hid (by unfold kindC;rw [h];rfl)) (hid (fun u hu=>truthP_no b g s (by omega) i hl (hid h) u hu)) w hP
 | text i j T h=>exact fun z w hsk hP=>valueP_k4 b g s (by omega) z i _ _ (hid hsk) h.le.1 (hid (by unfold kindC;rw [h.1];rfl)) (hid (fun u hu=>textP_calls b g s hs i j T (hid h) u hu)) w hP
 | num i j h hc hj hl hs2=>exact fun z w hsk hP=>valueP_k3 b g s (by omega) z i _ _ (hid hsk) h (hid (by obtain ⟨c1,c2,c3,c4,c5,c6⟩:=hc;unfold kindC;rw [if_neg c4,if_neg (by omega),if_neg c3,if_neg c1,if_neg c2])) (hid (fun u hu=>numberP_calls b g s (by omega) i j h (hid hj) hl hs2 u hu)) w hP
 | arr i vs a bb cc h h0 hq hv hss he hn ih =>
  have hi:i<s.size:=byteAt_in (by rw [h];decide)
  have hlen:=arr_len (fun q hl=>by have:=(hq q hl).2.2.1.1;split at this <;> omega) hv hss _ (Nat.le_refl _)
  exact fun z w hsk hP=>valueP_k5 b g s (by omega) z i _ _ (hid hsk) hi (hid (by unfold kindC;rw [h];rfl)) (hid (fun u hu=>arrayP_of b g s hs i hi vs a bb cc (hid h0) (hid hq) (hid (fun q y hy z x hz hx=>ih q y hy z x hz hx)) (hid hss) (hid he) (hid hn) (by omega) u hu)) w hP
 | obj i ks vs hkv a nn mm dd bb cc h h0 hq hk hv hss he hn ih =>
  have hi:i<s.size:=byteAt_in (by rw [h];decide)
  have hlen:=arr_len (fun q hl=>by
   obtain ⟨-,-,g1,-,g2,-,g3,-⟩:=hq q hl
   have g4:=(hk q _ (List.getElem?_eq_getElem (show q<ks.length by omega))).le
   have g1':=g1.1
   have g2':=g2.1
   have g3':=g3.1
   split at g1' <;> omega) hv hss _ (Nat.le_refl _)
  exact fun z w hsk hP=>valueP_k6 b g s (by omega) z i _ _ (hid hsk) hi (hid (by unfold kindC;rw [h];rfl)) (hid (fun u hu=>objectP_of b g s hs i hi ks vs hkv a nn mm dd bb cc (hid h0) (hid hq) (hid hk) (hid (fun q y hy z x hz hx=>ih q y hy z x hz hx)) (hid hss) (hid he) (hid hn) (by omega) u hu)) w hP
set_option maxRecDepth 10000 in
set_option maxHeartbeats 4000000 in
theorem callsP_calls (b:Nat) (w:World) :
  Calls Tryz.prog 125 #[.pointer (some ⟨b,0,none⟩)] w fun e w'=>e = .returned (.slice (some ⟨w.heap.size,0,none⟩) 7 7)∧w'=w.alloc (.cells (takesC b) 60):=by
 unfold takesC
 go_enter Tryz.func125,Tryz.ntmps125
 go_wp2
 go_ret
 exact ⟨rfl,rfl⟩
def IsPar (s:ByteArray) (C:Nat) (t:Vt):Prop:=(C=1∧∃ i j,IsSkip s 0 i∧PV s i t j)∨(C≠1∧t=vt0)
theorem par_ex {s:ByteArray} {d:Int} {C A:Nat} {E:Int} (h:IsChk s d C A E):∃ t,IsPar s C t:=by
 by_cases hc:C=1
 ·have hd:docM (byts s):=chk_doc h (.inl hc)
  obtain ⟨i,t,j,h1,h2⟩:=doc_pv hd
  exact ⟨t,.inl ⟨hc,i,j,h1,h2⟩⟩
 ·exact ⟨vt0,.inr ⟨hc,rfl⟩⟩
theorem ret_par {fn:Func} {p q u:Tmp} {R:Ending→World→Prop} {a:Act} {w:World} {b c:Nat} {cs:Array Value} {x y:Value} (hres:fn.results = #[.cell p 59,.cell q 137,.tmp u]) (hp:a.tmps.getD p undef = .pointer (some ⟨b,0,none⟩)) (hq:a.tmps.getD q undef = .pointer (some ⟨c,0,none⟩))
  (h:At w b cs 59) (hc:cs.size=6) (h2:At w c #[x,y] 137) (hd:a.defers=[]) (hR:R (.returned (.tuple #[.agg cs,.agg #[x,y],a.tmps.getD u undef])) w):bodyPost Tryz.prog fn R .ret a w:=by
 refine bodyPost_ret (v:=.tuple #[.agg cs,.agg #[x,y],a.tmps.getD u undef]) ?_ hd hR
 have hl:=run_loadVar_row (P:=Tryz.prog) w b 59 59 cs (0,0) _ h Tryz.underlying59 rfl (by rw [hc];exact sizeVl)
 have hl2:=run_loadVar_row (P:=Tryz.prog) w c 137 137 #[x,y] (0,0) _ h2 Tryz.underlying137 rfl (by exact sizeVer)
 have hp':a.tmps[p]?.getD undef = .pointer (some ⟨b,0,none⟩):=by simpa using hp
 have hq':a.tmps[q]?.getD undef = .pointer (some ⟨c,0,none⟩):=by simpa using hq
 simp [results,hres,hp',hq',asAddr,hl,hl2]
set_option maxRecDepth 10000 in
set_option maxHeartbeats 4000000 in
theorem parse_calls (s:ByteArray) (hs:s.size≤8388608) (d:Int) (hd:(Lit.int .i64 d).wf=true) (C A:Nat) (E:Int) (hI:Hid (IsChk s d C A E)) (t:Vt) (ht:Hid (IsPar s C t)) (w:World) :
  Calls Tryz.prog 105 #[.string s,.int .i64 d] w fun e w'=>∃ x:Value,e = .returned (.tuple #[x,.agg #[.int .i64 (C:Int),.int .i64 (A:Int)],.int .i64 E])∧ValOn (fun c=>w.heap.size≤c) w' t x∧Below w.heap.size w w':=by
 have hck:=hid (fun u=>ckA_calls s (by omega) d hd u)
 obtain ⟨p,hp⟩:∃ p,Hid (w.heap.size=p):=⟨_,rfl⟩
 have B0:Hid (Below p w ((w.alloc (.cells #[.int .i64 0,.bool false,.string ⟨#[]⟩,.string ⟨#[]⟩,.slice none 0 0,.slice none 0 0] 59)).alloc (.cells #[.int .i64 0,.int .i64 0] 137))):=by
  rw [← hp.out]
  exact ((Below.refl _ w).alloc (Nat.le_refl _) _).alloc (by rw [World.size_alloc];omega) _
 have e1:(w.alloc (.cells #[.int .i64 0,.bool false,.string ⟨#[]⟩,.string ⟨#[]⟩,.slice none 0 0,.slice none 0 0] 59)).heap.size=p+1:=by rw [World.size_alloc,hp.out]
 have A0:Hid (At ((w.alloc (.cells #[.int .i64 0,.bool false,.string ⟨#[]⟩,.string ⟨#[]⟩,.slice none 0 0,.slice none 0 0] 59)).alloc (.cells #[.int .i64 0,.int .i64 0] 137)) p #[.int .i64 0,.bool false,.string ⟨#[]⟩,.string ⟨#[]⟩,.slice none 0 0,.slice none 0 0] 59):=by
  have h:=(At.new w #[.int .i64 0,.bool false,.string ⟨#[]⟩,.string ⟨#[]⟩,.slice none 0 0,.slice none 0 0] 59).alloc (.cells #[.int .i64 0,.int .i64 0] 137)
  rw [hp.out] at h
  exact h
 have V0:Hid (At ((w.alloc (.cells #[.int .i64 0,.bool false,.string ⟨#[]⟩,.string ⟨#[]⟩,.slice none 0 0,.slice none 0 0] 59)).alloc (.cells #[.int .i64 0,.int .i64 0] 137)) (p+1) #[.int .i64 0,.int .i64 0] 137):=by
  have h:=At.new (w.alloc (.cells #[.int .i64 0,.bool false,.string ⟨#[]⟩,.string ⟨#[]⟩,.slice none 0 0,.slice none 0 0] 59)) #[.int .i64 0,.int .i64 0] 137
  rw [e1] at h
  exact h
 have z0:Hid (((w.alloc (.cells #[.int .i64 0,.bool false,.string ⟨#[]⟩,.string ⟨#[]⟩,.slice none 0 0,.slice none 0 0] 59)).alloc (.cells #[.int .i64 0,.int .i64 0] 137)).heap.size=p+2):=by show _=_;rw [World.size_alloc,e1]
 clear e1
 go_enter Tryz.func105,Tryz.ntmps105
 go_upto_region 1 with fail
 rw [hp.out]
 generalize (w.alloc (.cells #[.int .i64 0,.bool false,.string ⟨#[]⟩,.string ⟨#[]⟩,.slice none 0 0,.slice none 0 0] 59)).alloc (.cells #[.int .i64 0,.int .i64 0] 137)=W0 at A0 V0 B0 z0 ⊢
 go_wp2_with fail
 refine Calls.mono (hck.out W0) ?_
 rintro e W1 ⟨C',A',E',rfl,hI',hb⟩
 obtain ⟨rfl,rfl,rfl⟩:=hI'.uniq hI.out
 have B1:Hid (Below p w (W1.alloc (.cells #[.int .i64 (C':Int),.int .i64 (A':Int)] 137))):=by
  have h1:=B0.out.trans (hb.mono (by rw [z0.out];omega))
  exact h1.alloc (by have:=hb.size;rw [z0.out] at this;omega) _
 have A1:=hid ((A0.out.keptAll hb).alloc (.cells #[.int .i64 (C':Int),.int .i64 (A':Int)] 137))
 have V1:=hid ((V0.out.keptAll hb).alloc (.cells #[.int .i64 (C':Int),.int .i64 (A':Int)] 137))
 have X1:=hid (At.new W1 #[.int .i64 (C':Int),.int .i64 (A':Int)] 137)
 obtain ⟨xb,hxb⟩:∃ x,Hid (W1.heap.size=x):=⟨_,rfl⟩
 have hxl:Hid (p+2≤xb):=by have:=hb.size;rw [z0.out,hxb.out] at this;exact this
 have hsz:Hid ((W1.alloc (.cells #[.int .i64 (C':Int),.int .i64 (A':Int)] 137)).heap.size=xb+1):=by show _=_;rw [World.size_alloc,hxb.out]
 rw [hxb.out] at X1
 clear hck hI' hb A0 V0 B0 z0
 by_cases hC:C'=1
 ·obtain ⟨i,j,hsk,hPV⟩:∃ i j,IsSkip s 0 i∧PV s i t j:=by
   rcases ht.out with ⟨-,h⟩ | ⟨h,-⟩
   ·exact h
   ·exact absurd hC h
  have hE:E'=0:=by rcases hI.out with ⟨-,h,-⟩ | ⟨-,h,-⟩;omega;exact h
  subst hE
  have ec:((C':Int) != 1)=false:=by simp [hC]
  have hsk':=hid hsk
  have hPV':=hid hPV
  have hC':=hid hC
  clear ht hC hsk hPV
  have cV:=hid (fun b g u h=>valueP_pv hs b g hPV'.out 0 u hsk'.out h)
  go_upto_region 2 with fail
  rw [hxb.out]
  generalize W1.alloc (.cells #[.int .i64 (C':Int),.int .i64 (A':Int)] 137)=W2 at A1 V1 X1 B1 hsz ⊢
  have c0:W2.cell? ⟨xb,0,none⟩=some (.int .i64 (C':Int)):=X1.out.cell 0
  go_upto_region 5 with fail
  clear c0
  have D0:=hid (At.new W2 #[.string s,.int .i64 0,.slice none 0 0] 167)
  have q2:Below W2.heap.size W2 (W2.alloc (.cells #[.string s,.int .i64 0,.slice none 0 0] 167)):=(Below.refl _ _).alloc (Nat.le_refl _) _
  have A2:=hid (A1.out.keptAll q2)
  have V2:=hid (V1.out.keptAll q2)
  have X2:=hid (X1.out.keptAll q2)
  have B2:=hid (B1.out.trans (q2.mono (by rw [hsz.out];have:=hxl.out;omega)))
  have hsz2:Hid ((W2.alloc (.cells #[.string s,.int .i64 0,.slice none 0 0] 167)).heap.size=xb+2):=by show _=_;rw [World.size_alloc,hsz.out]
  rw [hsz.out] at D0 ⊢
  clear A1 V1 X1 B1 q2 hsz
  generalize W2.alloc (.cells #[.string s,.int .i64 0,.slice none 0 0] 167)=W3 at A2 V2 X2 B2 D0 hsz2 ⊢
  have cC:=hid (callsP_calls (xb+1) W3)
  rw [hsz2.out] at cC
  go_wp2_with fail
  refine Calls.mono cC.out ?_
  rintro e W4 ⟨rfl,hw4⟩
  rw [hw4]
  clear hw4
  have q3:Below W3.heap.size W3 (W3.alloc (.cells (takesC (xb+1)) 60)):=(Below.refl _ _).alloc (Nat.le_refl _) _
  have K3:=hid (At.new W3 (takesC (xb+1)) 60)
  have A3:=hid (A2.out.keptAll q3)
  have V3:=hid (V2.out.keptAll q3)
  have X3:=hid (X2.out.keptAll q3)
  have D3:=hid (D0.out.keptAll q3)
  have B3:=hid (B2.out.trans (q3.mono (by rw [hsz2.out];have:=hxl.out;omega)))
  have hsz3:Hid ((W3.alloc (.cells (takesC (xb+1)) 60)).heap.size=xb+3):=by show _=_;rw [World.size_alloc,hsz2.out]
  rw [hsz2.out] at K3
  clear cC A2 V2 X2 B2 D0 q3 hsz2
  generalize W3.alloc (.cells (takesC (xb+1)) 60)=W5 at A3 V3 X3 B3 D3 K3 hsz3 ⊢
  have d2:W5.cell? ⟨xb+1,2,none⟩=some (.slice none 0 0):=D3.out.cell 2
  have f2:=D3.out.frozen 2
  have P4:Hid (PaI (xb+1) (xb+2) s 0 (W5.setCell ⟨xb+1,2,none⟩ (.slice (some ⟨xb+2,0,none⟩) 7 7))):=⟨by simpa using D3.out.set 2 (.slice (some ⟨xb+2,0,none⟩) 7 7),K3.out.other (p:=⟨xb+1,2,none⟩) (by simp) _,by omega⟩
  have A4:=hid (A3.out.other (p:=⟨xb+1,2,none⟩) (show p≠xb+1 by have:=hxl.out;omega) (.slice (some ⟨xb+2,0,none⟩) 7 7))
  have V4:=hid (V3.out.other (p:=⟨xb+1,2,none⟩) (show p+1≠xb+1 by have:=hxl.out;omega) (.slice (some ⟨xb+2,0,none⟩) 7 7))
  have X4:=hid (X3.out.other (p:=⟨xb+1,2,none⟩) (show xb≠xb+1 by omega) (.slice (some ⟨xb+2,0,none⟩) 7 7))
  have B4:=hid (B3.out.setCell (p:=⟨xb+1,2,none⟩) (show p≤xb+1 by have:=hxl.out;omega) (.slice (some ⟨xb+2,0,none⟩) 7 7))
  have hsz4:Hid ((W5.setCell ⟨xb+1,2,none⟩ (.slice (some ⟨xb+2,0,none⟩) 7 7)).heap.size=xb+3):=by show _=_;rw [← hsz3.out];simp
  go_upto_region 6 with fail
  clear d2 f2 A3 V3 X3 B3 D3 K3 hsz3
  generalize W5.setCell ⟨xb+1,2,none⟩ (.slice (some ⟨xb+2,0,none⟩) 7 7)=W6 at A4 V4 X4 B4 P4 hsz4 ⊢
  have hx0:W6.drew.cell? ⟨xb,0,none⟩=some (.int .i64 (C':Int))∧W6.drew.cell? ⟨xb,1,none⟩=some (.int .i64 (A':Int)):=⟨X4.out.cell 0,X4.out.cell 1⟩
  have q0:=hid (show Below W6.heap.size W6 W6.drew from (Below.refl _ _).drew)
  have A5:=hid (A4.out.keptAll q0.out)
  have V5:=hid (V4.out.keptAll q0.out)
  have X5:=hid (X4.out.keptAll q0.out)
  have P5:=hid (P4.out.kept q0.out)
  have B5:=hid (B4.out.drew)
  have hsz5:Hid (W6.drew.heap.size=xb+3):=hsz4.out
  refine wp_region_held_drew (S:=fun w'=>w'.cell? ⟨xb,0,none⟩=some (.int .i64 (C':Int))∧w'.cell? ⟨xb,1,none⟩=some (.int .i64 (A':Int))) (by kernel_rfl) hx0 (fun hHeld=>?_)
  clear hHeld q0 A4 V4 X4 P4 B4 hsz4
  generalize W6.drew=v0 at *
  (refine' wpAnyH_take (i:=0) rfl (by kernel_rfl) (by kernel_rfl) (by kernel_rfl) (fun _ _ _ h=>h) (Or.inl ⟨by rfl,?_⟩) (by assumption) ?_;rotate_left;(· (intro wq hq;(try dsimp only at hq);go_simp;first | done | with_reducible rfl));simp only [psA])
  (refine' wpAnyH_take (i:=2) rfl (by kernel_rfl) (by kernel_rfl) (by kernel_rfl) (fun _ _ _ h=>h) (Or.inl ⟨by rfl,?_⟩) (by assumption) ?_;rotate_left;(· (intro wq hq;(try dsimp only at hq);go_simp;first | done | with_reducible rfl));simp only [psA])
  refine wpAnyH_ready (rs:=[1]) (by kernel_rfl) (by simp) ?_
  refine AllReadyH.cons rfl (fun K hK=>?_) ?_
  ·rw [if_pos (by rfl)]
   go_simp
   refine Calls.mono (cV.out _ _ v0 P5) ?_
   rintro e v1 ⟨x,rfl,hV,hP1,hF1⟩
   obtain ⟨ko,kc,vo,vc,rfl⟩:=hV.six
   have hl:=hxl.out
   have A6:=hid (hF1.at_ A5.out (show p≠xb+1 by omega))
   have V6:=hid (hF1.at_ V5.out (show p+1≠xb+1 by omega))
   have X6:=hid (hF1.at_ X5.out (show xb≠xb+1 by omega))
   have U6:=hid hV
   have B6:Hid (Below p w v1):=⟨hF1.os.trans B5.out.os,hF1.tape.trans B5.out.tape,hF1.output.trans B5.out.output,Nat.le_trans B5.out.size hF1.size,fun k hk=>(hF1.block k (by rw [hsz5.out];omega) (by omega)).trans (B5.out.block k hk)⟩
   refine hK.out _ _ ⟨X6.out.cell 0,X6.out.cell 1⟩ (fun _=>?_)
   clear hK K cV hV hP1 hF1 hx0 A5 V5 X5 P5 B5 hl
   have d0:=A6.out.cell 0
   have d1:=A6.out.cell 1
   have d2:=A6.out.cell 2
   have d3:=A6.out.cell 3
   have d4:=A6.out.cell 4
   have d5:=A6.out.cell 5
   simp only [List.getElem?_toArray,List.getElem?_cons_zero,List.getElem?_cons_succ] at d0 d1 d2 d3 d4 d5
   have f0:=A6.out.frozen 0
   have f1:=A6.out.frozen 1
   have f2:=A6.out.frozen 2
   have f3:=A6.out.frozen 3
   have f4:=A6.out.frozen 4
   have f5:=A6.out.frozen 5
   refine wpAnyH_ready (rs:=[3]) (by kernel_rfl) (by simp) ?_
   refine AllReadyH.cons rfl (fun K hK=>?_) ?_
   ·go_simp
    have X7:=hid (show At ((((((v1.setCell ⟨p,0,none⟩ (.int .i64 t.kind)).setCell ⟨p,1,none⟩ (.bool t.b)).setCell ⟨p,2,none⟩ (.string t.raw)).setCell ⟨p,3,none⟩ (.string t.text)).setCell ⟨p,4,none⟩ (.slice ko t.keys.length kc)).setCell ⟨p,5,none⟩ (.slice vo t.kids.length vc)) xb #[.int .i64 (C':Int),.int .i64 (A':Int)] 137 from (same_six.2 xb (by have:=hxl.out;omega) X6.out.lt).trans X6.out)
    have V7:=hid (show At ((((((v1.setCell ⟨p,0,none⟩ (.int .i64 t.kind)).setCell ⟨p,1,none⟩ (.bool t.b)).setCell ⟨p,2,none⟩ (.string t.raw)).setCell ⟨p,3,none⟩ (.string t.text)).setCell ⟨p,4,none⟩ (.slice ko t.keys.length kc)).setCell ⟨p,5,none⟩ (.slice vo t.kids.length vc)) (p+1) #[.int .i64 0,.int .i64 0] 137 from (same_six.2 (p+1) (by omega) V6.out.lt).trans V6.out)
    have A7:=hid (A6.out.six (y0:=.int .i64 t.kind) (y1:=.bool t.b) (y2:=.string t.raw) (y3:=.string t.text) (y4:=.slice ko t.keys.length kc) (y5:=.slice vo t.kids.length vc))
    have U7:=hid (U6.out.kept (S':=fun c=>xb+3≤c) (fun c _ hc=>by rw [← hsz5.out];exact hc) ⟨(same_six (w:=v1) (h:=p) (y0:=.int .i64 t.kind) (y1:=.bool t.b) (y2:=.string t.raw) (y3:=.string t.text) (y4:=.slice ko t.keys.length kc) (y5:=.slice vo t.kids.length vc)).1,fun c hc hl=>same_six.2 c (by rw [hsz5.out] at hc;have:=hxl.out;omega) hl⟩)
    have B7:=hid (below_six B6.out (Nat.le_refl p) (.int .i64 t.kind) (.bool t.b) (.string t.raw) (.string t.text) (.slice ko t.keys.length kc) (.slice vo t.kids.length vc))
    refine hK.out _ _ ⟨X7.out.cell 0,X7.out.cell 1⟩ (fun _=>?_)
    clear hK K d0 f0 d1 f1 d2 f2 d3 f3 d4 f4 d5 f5 A6 V6 X6 U6 B6
    generalize ((((((v1.setCell ⟨p,0,none⟩ (.int .i64 t.kind)).setCell ⟨p,1,none⟩ (.bool t.b)).setCell ⟨p,2,none⟩ (.string t.raw)).setCell ⟨p,3,none⟩ (.string t.text)).setCell ⟨p,4,none⟩ (.slice ko t.keys.length kc)).setCell ⟨p,5,none⟩ (.slice vo t.kids.length vc))=v2 at *
    have d0:=V7.out.cell 0
    have d1:=V7.out.cell 1
    simp only [List.getElem?_toArray,List.getElem?_cons_zero,List.getElem?_cons_succ] at d0 d1
    have f0:=V7.out.frozen 0
    have f1:=V7.out.frozen 1
    have V8:=hid (show At ((v2.setCell ⟨p+1,0,none⟩ (.int .i64 (C':Int))).setCell ⟨p+1,1,none⟩ (.int .i64 (A':Int))) (p+1) #[.int .i64 (C':Int),.int .i64 (A':Int)] 137 by simpa using (V7.out.set 0 (.int .i64 (C':Int))).set 1 (.int .i64 (A':Int)))
    have X8:=hid ((X7.out.other (p:=⟨p+1,0,none⟩) (show xb≠p+1 by have:=hxl.out;omega) (.int .i64 (C':Int))).other (p:=⟨p+1,1,none⟩) (show xb≠p+1 by have:=hxl.out;omega) (.int .i64 (A':Int)))
    refine wpAnyH_ready (rs:=[4]) (by kernel_rfl) (by simp) ?_
    refine AllReadyH.cons rfl (fun K hK=>?_) ?_
    ·go_simp
     refine hK.out _ _ ⟨X8.out.cell 0,X8.out.cell 1⟩ (fun _=>?_)
     clear hK K d0 d1 f0 f1
     (refine' wpAnyH_take (i:=5) rfl (by kernel_rfl) (by kernel_rfl) (by kernel_rfl) (fun _ _ _ h=>h) (Or.inl ⟨by rfl,?_⟩) (by assumption) ?_;rotate_left;(· (intro wq hq;(try dsimp only at hq);go_simp;first | done | with_reducible rfl));simp only [psA])
     refine wpAnyH_done (by kernel_rfl) ?_ _
     have hA8:=(A7.out.other (p:=⟨p+1,0,none⟩) (show p≠p+1 by omega) (.int .i64 (C':Int))).other (p:=⟨p+1,1,none⟩) (show p≠p+1 by omega) (.int .i64 (A':Int))
     have hl:=hxl.out
     have hU8:=U7.out.kept (S':=fun c=>p≤c) (w':=(v2.setCell ⟨p+1,0,none⟩ (.int .i64 (C':Int))).setCell ⟨p+1,1,none⟩ (.int .i64 (A':Int))) (fun c _ hc=>by omega) ⟨by simp,fun c hc _=>by rw [Below.heap_setCell _ _ _ _ (show c≠p+1 by omega),Below.heap_setCell _ _ _ _ (show c≠p+1 by omega)]⟩
     have hB8:=(B7.out.setCell (p:=⟨p+1,0,none⟩) (show p≤p+1 by omega) (.int .i64 (C':Int))).setCell (p:=⟨p+1,1,none⟩) (show p≤p+1 by omega) (.int .i64 (A':Int))
     go_wp2
     refine ret_par (p:=4) (q:=5) (u:=6) rfl rfl rfl hA8 rfl V8.out rfl ?_
     rw [hp.out]
     exact ⟨_,rfl,hU8,hB8⟩
    exact AllReadyH.nil
   exact AllReadyH.nil
  exact AllReadyH.nil
 ·obtain rfl:t=vt0:=by
   rcases ht.out with ⟨h,-⟩ | ⟨-,h⟩
   ·exact absurd h hC
   ·exact h
  have ec:((C':Int) != 1)=true:=by simp;omega
  clear ht hC
  go_upto_region 2 with fail
  rw [hxb.out]
  generalize W1.alloc (.cells #[.int .i64 (C':Int),.int .i64 (A':Int)] 137)=W2 at A1 V1 X1 B1 hsz ⊢
  have c0:W2.cell? ⟨xb,0,none⟩=some (.int .i64 (C':Int)):=X1.out.cell 0
  go_upto_region 3 with fail
  clear c0
  have hx0:W2.drew.cell? ⟨xb,0,none⟩=some (.int .i64 (C':Int))∧W2.drew.cell? ⟨xb,1,none⟩=some (.int .i64 (A':Int)):=⟨X1.out.cell 0,X1.out.cell 1⟩
  have q0:=hid (show Below W2.heap.size W2 W2.drew from (Below.refl _ _).drew)
  have A6:=hid (A1.out.keptAll q0.out)
  have V6:=hid (V1.out.keptAll q0.out)
  have X6:=hid (X1.out.keptAll q0.out)
  have B6:=hid (B1.out.drew)
  refine wp_region_held_drew (S:=fun w'=>w'.cell? ⟨xb,0,none⟩=some (.int .i64 (C':Int))∧w'.cell? ⟨xb,1,none⟩=some (.int .i64 (A':Int))) (by kernel_rfl) hx0 (fun hHeld=>?_)
  clear hHeld q0 A1 V1 X1 B1 hsz
  generalize W2.drew=v0 at *
  (refine' wpAnyH_take (i:=0) rfl (by kernel_rfl) (by kernel_rfl) (by kernel_rfl) (fun _ _ _ h=>h) (Or.inl ⟨by rfl,?_⟩) (by assumption) ?_;rotate_left;(· (intro wq hq;(try dsimp only at hq);go_simp;first | done | with_reducible rfl));simp only [psA])
  (refine' wpAnyH_take (i:=1) rfl (by kernel_rfl) (by kernel_rfl) (by kernel_rfl) (fun _ _ _ h=>h) (Or.inl ⟨by rfl,?_⟩) (by assumption) ?_;rotate_left;(· (intro wq hq;(try dsimp only at hq);go_simp;first | done | with_reducible rfl));simp only [psA])
  (refine' wpAnyH_take (i:=2) rfl (by kernel_rfl) (by kernel_rfl) (by kernel_rfl) (fun _ _ _ h=>h) (Or.inl ⟨by rfl,?_⟩) (by assumption) ?_;rotate_left;(· (intro wq hq;(try dsimp only at hq);go_simp;first | done | with_reducible rfl));simp only [psA])
  have d0:=A6.out.cell 0
  have d1:=A6.out.cell 1
  have d2:=A6.out.cell 2
  have d3:=A6.out.cell 3
  have d4:=A6.out.cell 4
  have d5:=A6.out.cell 5
  simp only [List.getElem?_toArray,List.getElem?_cons_zero,List.getElem?_cons_succ] at d0 d1 d2 d3 d4 d5
  have f0:=A6.out.frozen 0
  have f1:=A6.out.frozen 1
  have f2:=A6.out.frozen 2
  have f3:=A6.out.frozen 3
  have f4:=A6.out.frozen 4
  have f5:=A6.out.frozen 5
  refine wpAnyH_ready (rs:=[3]) (by kernel_rfl) (by simp) ?_
  refine AllReadyH.cons rfl (fun K hK=>?_) ?_
  ·go_simp
   have X7:=hid (show At ((((((v0.setCell ⟨p,0,none⟩ (.int .i64 0)).setCell ⟨p,1,none⟩ (.bool false)).setCell ⟨p,2,none⟩ (.string ⟨#[]⟩)).setCell ⟨p,3,none⟩ (.string ⟨#[]⟩)).setCell ⟨p,4,none⟩ (.slice none 0 0)).setCell ⟨p,5,none⟩ (.slice none 0 0)) xb #[.int .i64 (C':Int),.int .i64 (A':Int)] 137 from (same_six.2 xb (by have:=hxl.out;omega) X6.out.lt).trans X6.out)
   have V7:=hid (show At ((((((v0.setCell ⟨p,0,none⟩ (.int .i64 0)).setCell ⟨p,1,none⟩ (.bool false)).setCell ⟨p,2,none⟩ (.string ⟨#[]⟩)).setCell ⟨p,3,none⟩ (.string ⟨#[]⟩)).setCell ⟨p,4,none⟩ (.slice none 0 0)).setCell ⟨p,5,none⟩ (.slice none 0 0)) (p+1) #[.int .i64 0,.int .i64 0] 137 from (same_six.2 (p+1) (by omega) V6.out.lt).trans V6.out)
   have A7:=hid (show At ((((((v0.setCell ⟨p,0,none⟩ (.int .i64 0)).setCell ⟨p,1,none⟩ (.bool false)).setCell ⟨p,2,none⟩ (.string ⟨#[]⟩)).setCell ⟨p,3,none⟩ (.string ⟨#[]⟩)).setCell ⟨p,4,none⟩ (.slice none 0 0)).setCell ⟨p,5,none⟩ (.slice none 0 0)) p #[.int .i64 0,.bool false,.string ⟨#[]⟩,.string ⟨#[]⟩,.slice none 0 0,.slice none 0 0] 59 from A6.out.six)
   have B7:=hid (show Below p w ((((((v0.setCell ⟨p,0,none⟩ (.int .i64 0)).setCell ⟨p,1,none⟩ (.bool false)).setCell ⟨p,2,none⟩ (.string ⟨#[]⟩)).setCell ⟨p,3,none⟩ (.string ⟨#[]⟩)).setCell ⟨p,4,none⟩ (.slice none 0 0)).setCell ⟨p,5,none⟩ (.slice none 0 0)) from below_six B6.out (Nat.le_refl p) _ _ _ _ _ _)
   refine hK.out _ _ ⟨X7.out.cell 0,X7.out.cell 1⟩ (fun _=>?_)
   clear hK K d0 f0 d1 f1 d2 f2 d3 f3 d4 f4 d5 f5 A6 V6 X6 B6 hx0
   generalize ((((((v0.setCell ⟨p,0,none⟩ (.int .i64 0)).setCell ⟨p,1,none⟩ (.bool false)).setCell ⟨p,2,none⟩ (.string ⟨#[]⟩)).setCell ⟨p,3,none⟩ (.string ⟨#[]⟩)).setCell ⟨p,4,none⟩ (.slice none 0 0)).setCell ⟨p,5,none⟩ (.slice none 0 0))=v2 at *
   have d0:=V7.out.cell 0
   have d1:=V7.out.cell 1
   simp only [List.getElem?_toArray,List.getElem?_cons_zero,List.getElem?_cons_succ] at d0 d1
   have f0:=V7.out.frozen 0
   have f1:=V7.out.frozen 1
   have V8:=hid (show At ((v2.setCell ⟨p+1,0,none⟩ (.int .i64 (C':Int))).setCell ⟨p+1,1,none⟩ (.int .i64 (A':Int))) (p+1) #[.int .i64 (C':Int),.int .i64 (A':Int)] 137 by simpa using (V7.out.set 0 (.int .i64 (C':Int))).set 1 (.int .i64 (A':Int)))
   have X8:=hid ((X7.out.other (p:=⟨p+1,0,none⟩) (show xb≠p+1 by have:=hxl.out;omega) (.int .i64 (C':Int))).other (p:=⟨p+1,1,none⟩) (show xb≠p+1 by have:=hxl.out;omega) (.int .i64 (A':Int)))
   refine wpAnyH_ready (rs:=[4]) (by kernel_rfl) (by simp) ?_
   refine AllReadyH.cons rfl (fun K hK=>?_) ?_
   ·go_simp
    refine hK.out _ _ ⟨X8.out.cell 0,X8.out.cell 1⟩ (fun _=>?_)
    clear hK K d0 d1 f0 f1
    (refine' wpAnyH_take (i:=5) rfl (by kernel_rfl) (by kernel_rfl) (by kernel_rfl) (fun _ _ _ h=>h) (Or.inl ⟨by rfl,?_⟩) (by assumption) ?_;rotate_left;(· (intro wq hq;(try dsimp only at hq);go_simp;first | done | with_reducible rfl));simp only [psA])
    refine wpAnyH_done (by kernel_rfl) ?_ _
    have hA8:=(A7.out.other (p:=⟨p+1,0,none⟩) (show p≠p+1 by omega) (.int .i64 (C':Int))).other (p:=⟨p+1,1,none⟩) (show p≠p+1 by omega) (.int .i64 (A':Int))
    have hB8:=(B7.out.setCell (p:=⟨p+1,0,none⟩) (show p≤p+1 by omega) (.int .i64 (C':Int))).setCell (p:=⟨p+1,1,none⟩) (show p≤p+1 by omega) (.int .i64 (A':Int))
    go_wp2
    refine ret_par (p:=4) (q:=5) (u:=6) rfl rfl rfl hA8 rfl V8.out rfl ?_
    rw [hp.out]
    exact ⟨_,rfl,leafOn _ _ _ _ _ _ (by decide) (by decide) (by decide),hB8⟩
   exact AllReadyH.nil
  exact AllReadyH.nil
end Go.Proofs.YtongedjlmohogaaGreatDoor

namespace Go.Proofs.YtongedjlmohogaaGreatDoor
open Go.RowKit Go.Shelf
theorem chk_validT {s:ByteArray} {d:Int} (m:Mc) (h1:1≤d) (h2:d≤1024) (hr:runM mc0 (byts s)=(s.size,m)) (hw:wholeM m=true) (hd:∀ j,j<s.size→((depS s (j+1):Nat):Int)≤d):IsChk s d 1 s.size 0 :=
 .inr ⟨⟨h1,h2⟩,rfl,_,m,hr,.inr ⟨rfl,hw,.inr ⟨hd,rfl,rfl⟩⟩⟩
theorem run_eqT {l:List Nat} {k:Nat} (h:(runM mc0 l).1=k):runM mc0 l=(k,(runM mc0 l).2):=Prod.ext h rfl
theorem skip_of {s:ByteArray} {j k:Nat} (h1:j≤k) (h2:k<s.size) (h3:∀ q,q<k-j→blankN (byteAt s (j+q))=true) (h4:blankN (byteAt s k)=false):IsSkip s j k :=
 ⟨h1,Nat.le_of_lt h2,fun q a b=>by have:=h3 (q-j) (by omega);rwa [show j+(q-j)=q by omega] at this,.inr h4⟩
end Go.Proofs.YtongedjlmohogaaGreatDoor

namespace Go.Proofs.YtongedjlmohogaaGreatDoor
open Go.Lib
def okR (s:St5) (l:List UInt8):Prop:=(runS s (l.map UInt8.toNat)).wrong=false∧(runS s (l.map UInt8.toNat)).q.left=0
theorem okR_cons (s:St5) (b:UInt8) (l:List UInt8):okR s (b :: l) ↔ okR (tk s b.toNat) l:=Iff.rfl
theorem okR_wrong {s:St5} (h:s.wrong=true) (l:List UInt8):¬ okR s l:=fun ho=>by
 have h1:=ho.1
 rw [runS_wrong h,h] at h1
 cases h1
theorem okR_short {s:St5} (h:s.q.left≠0):¬ okR s []:=fun ho=>h ho.2
theorem tk_in {s:St5} (h:s.wrong=false) (hl:s.q.left≠0) {x:Nat} (h1:s.q.lo≤x) (h2:x≤s.q.hi):tk s x=⟨s.good+1,false,⟨s.q.left-1,128,191⟩⟩ :=
 tk_some h (by unfold stp;rw [if_neg hl,if_neg (by omega)])
theorem tk_out {s:St5} (h:s.wrong=false) (hl:s.q.left≠0) {x:Nat} (h1:x<s.q.lo∨s.q.hi<x):(tk s x).wrong=true:=by
 rw [tk_none h (by unfold stp;rw [if_neg hl,if_pos h1])]
theorem tk_lead {s:St5} (h:s.wrong=false) (hl:s.q.left=0) {x n lo hi:Nat} (hq:begQ s.q x=some ⟨n,lo,hi⟩):tk s x=⟨s.good+1,false,⟨n,lo,hi⟩⟩ :=
 tk_some h (by unfold stp;rw [if_pos hl];exact hq)
theorem ok_check {s:St5} (h:s.wrong=false) (hl:s.q.left=0) (b:UInt8) (t:List UInt8) (sz lo hi:Nat) (hsz:sz=2∨sz=3∨sz=4) (hq:begQ s.q b.toNat=some ⟨sz-1,lo,hi⟩)
  (ih:∀ (u:List UInt8) (s':St5),u.length≤t.length→s'.wrong=false→s'.q.left=0→(validD u=true ↔ okR s' u)) :
  ((match checkN (b :: t).length ((b :: t).getD 1 0).toNat ((b :: t).getD 2 0).toNat ((b :: t).getD 3 0).toNat sz lo hi with
   | none=>false
   | some k=>validD ((b :: t).drop k))=true) ↔ okR s (b :: t):=by
 rw [okR_cons,tk_lead h hl hq]
 unfold checkN
 cases t with
 | nil =>
  have hno:¬ okR ⟨s.good+1,false,⟨sz-1,lo,hi⟩⟩ []:=okR_short (by show sz-1≠0;omega)
  refine iff_of_false ?_ hno
  rcases hsz with rfl | rfl | rfl <;> simp
 | cons c t =>
  rw [okR_cons]
  by_cases hc:c.toNat<lo∨hi<c.toNat
  ·have hno:¬ okR (tk ⟨s.good+1,false,⟨sz-1,lo,hi⟩⟩ c.toNat) t:=okR_wrong (tk_out rfl (by show sz-1≠0;omega) hc) t
   refine iff_of_false ?_ hno
   have hc':c.toNat<lo∨hi<c.toNat:=hc
   rcases hsz with rfl | rfl | rfl <;> rcases hc with hc | hc <;> simp [hc]
  ·rw [tk_in rfl (by show sz-1≠0;omega) (show lo≤c.toNat by omega) (show c.toNat≤hi by omega)]
   have n1:¬ c.toNat<lo:=by omega
   have n2:¬ hi<c.toNat:=by omega
   rcases hsz with rfl | hsz
   ·simpa [n1,n2,show ¬ t.length+1+1<2 by omega] using ih t ⟨s.good+1+1,false,⟨0,128,191⟩⟩ (by simp) rfl rfl
   cases t with
   | nil =>
    refine iff_of_false ?_ (okR_short (by show sz-1-1≠0;omega))
    rcases hsz with rfl | rfl <;> simp
   | cons d t =>
    rw [okR_cons]
    by_cases hd:d.toNat<128∨191<d.toNat
    ·refine iff_of_false ?_ (okR_wrong (tk_out rfl (by show sz-1-1≠0;omega) hd) t)
     rcases hsz with rfl | rfl <;> rcases hd with hd | hd <;> simp [hd]
    ·rw [tk_in rfl (by show sz-1-1≠0;omega) (show 128≤d.toNat by omega) (show d.toNat≤191 by omega)]
     have m1:¬ d.toNat<128:=by omega
     have m2:¬ 191<d.toNat:=by omega
     rcases hsz with rfl | rfl
     ·simpa [n1,n2,m1,m2,show ¬ t.length+1+1+1<3 by omega] using ih t ⟨s.good+1+1+1,false,⟨0,128,191⟩⟩ (by simp;omega) rfl rfl
     cases t with
     | nil =>
      refine iff_of_false ?_ (okR_short (by show (4-1-1-1:Nat)≠0;omega))
      simp
     | cons e t =>
      rw [okR_cons]
      by_cases he:e.toNat<128∨191<e.toNat
      ·refine iff_of_false ?_ (okR_wrong (tk_out rfl (by show (4-1-1-1:Nat)≠0;omega) he) t)
       rcases he with he | he <;> simp [he]
      ·rw [tk_in rfl (by show (4-1-1-1:Nat)≠0;omega) (show 128≤e.toNat by omega) (show e.toNat≤191 by omega)]
       have k1:¬ e.toNat<128:=by omega
       have k2:¬ 191<e.toNat:=by omega
       simpa [n1,n2,m1,m2,k1,k2,show ¬ t.length+1+1+1+1<4 by omega] using ih t ⟨s.good+1+1+1+1,false,⟨0,128,191⟩⟩ (by simp;omega) rfl rfl
theorem valid_ok:∀ (n:Nat) (l:List UInt8) (s:St5),l.length≤n→s.wrong=false→s.q.left=0→(validD l=true ↔ okR s l)
 | _,[],s,_,hw,hl=>⟨fun _=>⟨hw,hl⟩,fun _=>rfl⟩
 | 0,b :: t,_,hn,_,_=>by simp at hn
 | n+1,b :: t,s,hn,hw,hl=>by
  have hbl:b.toNat<256:=b.toNat_lt
  have hnt:t.length≤n:=by simpa using hn
  by_cases hb:b.toNat<128
  ·rw [validD_cons b t hb,okR_cons,tk_some hw (q:=s.q) (by unfold stp begQ;rw [if_pos hl,if_neg (by omega),if_neg (by omega),if_neg (by omega),if_neg (by omega),if_neg (by omega)])]
   exact valid_ok n t _ hnt rfl hl
  ·have ih:∀ (u:List UInt8) (s':St5),u.length≤t.length→s'.wrong=false→s'.q.left=0→(validD u=true ↔ okR s' u):=fun u s' hu h1 h2=>valid_ok n u s' (by omega) h1 h2
   rw [validD_lead (b :: t) (by simp) (by simpa using (by omega:128≤b.toNat))]
   have e0:((b :: t).getD 0 0).toNat=b.toNat:=by simp
   rw [e0]
   have bad:begQ s.q b.toNat=none→firstT b.toNat % 8=1→((match checkN (b :: t).length ((b :: t).getD 1 0).toNat ((b :: t).getD 2 0).toNat ((b :: t).getD 3 0).toNat (firstT b.toNat % 8) (accLo (firstT b.toNat / 16)) (accHi (firstT b.toNat / 16)) with
    | none=>false
    | some k=>validD ((b :: t).drop k))=true ↔ okR s (b :: t)):=fun h1 h2=>by
    refine iff_of_false ?_ ?_
    ·rw [h2];simp [checkN]
    ·rw [okR_cons]
     exact okR_wrong (by rw [tk_none hw (by unfold stp;rw [if_pos hl];exact h1)]) t
   have good:∀ sz lo hi,firstT b.toNat % 8=sz→accLo (firstT b.toNat / 16)=lo→accHi (firstT b.toNat / 16)=hi→(sz=2∨sz=3∨sz=4)→begQ s.q b.toNat=some ⟨sz-1,lo,hi⟩→((match checkN (b :: t).length ((b :: t).getD 1 0).toNat ((b :: t).getD 2 0).toNat ((b :: t).getD 3 0).toNat (firstT b.toNat % 8) (accLo (firstT b.toNat / 16)) (accHi (firstT b.toNat / 16)) with
    | none=>false
    | some k=>validD ((b :: t).drop k))=true ↔ okR s (b :: t)):=fun sz lo hi e1 e2 e3 hsz hq=>by
    rw [e1,e2,e3]
    exact ok_check hw hl b t sz lo hi hsz hq ih
   clear ih e0 hn
   generalize b.toNat=x at *
   by_cases c0:x<194
   ·exact bad (by unfold begQ;rw [if_neg (by omega),if_neg (by omega),if_neg (by omega),if_neg (by omega),if_pos (by omega)]) (by simp [firstT,hb,c0])
   by_cases c1:x<224
   ·exact good 2 128 191 (by simp [firstT,hb,c0,c1]) (by simp [firstT,accLo,hb,c0,c1]) (by simp [firstT,accHi,hb,c0,c1]) (by omega) (by unfold begQ secLo secHi;rw [if_neg (by omega),if_neg (by omega),if_neg (by omega),if_pos (by omega),if_neg (by omega),if_neg (by omega),if_neg (by omega),if_neg (by omega)])
   by_cases c2:x=224
   ·subst c2;exact good 3 160 191 (by decide) (by decide) (by decide) (by omega) rfl
   by_cases c3:x<237
   ·exact good 3 128 191 (by simp [firstT,hb,c0,c1,c2,c3]) (by simp [firstT,accLo,hb,c0,c1,c2,c3]) (by simp [firstT,accHi,hb,c0,c1,c2,c3]) (by omega) (by unfold begQ secLo secHi;rw [if_neg (by omega),if_neg (by omega),if_pos (by omega),if_neg (by omega),if_neg (by omega),if_neg (by omega),if_neg (by omega)])
   by_cases c4:x=237
   ·subst c4;exact good 3 128 159 (by decide) (by decide) (by decide) (by omega) rfl
   by_cases c5:x<240
   ·exact good 3 128 191 (by simp [firstT,hb,c0,c1,c2,c3,c4,c5]) (by simp [firstT,accLo,hb,c0,c1,c2,c3,c4,c5]) (by simp [firstT,accHi,hb,c0,c1,c2,c3,c4,c5]) (by omega) (by unfold begQ secLo secHi;rw [if_neg (by omega),if_neg (by omega),if_pos (by omega),if_neg (by omega),if_neg (by omega),if_neg (by omega),if_neg (by omega)])
   by_cases c6:x=240
   ·subst c6;exact good 4 144 191 (by decide) (by decide) (by decide) (by omega) rfl
   by_cases c7:x<244
   ·exact good 4 128 191 (by simp [firstT,hb,c0,c1,c2,c3,c4,c5,c6,c7]) (by simp [firstT,accLo,hb,c0,c1,c2,c3,c4,c5,c6,c7]) (by simp [firstT,accHi,hb,c0,c1,c2,c3,c4,c5,c6,c7]) (by omega) (by unfold begQ secLo secHi;rw [if_neg (by omega),if_pos (by omega),if_neg (by omega),if_neg (by omega),if_neg (by omega),if_neg (by omega)])
   by_cases c8:x=244
   ·subst c8;exact good 4 128 143 (by decide) (by decide) (by decide) (by omega) rfl
   ·exact bad (by unfold begQ;rw [if_pos (by omega)]) (by simp [firstT,hb,c0,c1,c2,c3,c4,c5,c6,c7,c8])
theorem valid_bad (s:ByteArray):validD s.data.toList=decide (badOf s = -1):=by
 have h:=valid_ok _ s.data.toList s5 (Nat.le_refl _) rfl rfl
 have h2:okR s5 s.data.toList ↔ badOf s = -1:=by
  unfold badOf badI okR byts
  constructor
  ·rintro ⟨h1,h2⟩
   rw [if_neg]
   rw [h1,h2]
   simp
  ·intro h3
   by_cases hc:(runS s5 (s.data.toList.map UInt8.toNat)).wrong=true∨0<(runS s5 (s.data.toList.map UInt8.toNat)).q.left
   ·rw [if_pos hc] at h3
    omega
   ·constructor
    ·cases hx:(runS s5 (s.data.toList.map UInt8.toNat)).wrong with
     | false=>rfl
     | true=>exact absurd (.inl hx) hc
    ·omega
 cases hv:validD s.data.toList with
 | true=>rw [decide_eq_true (h2.1 (h.1 hv))]
 | false =>
  rw [decide_eq_false]
  intro hb
  rw [h.2 (h2.2 hb)] at hv
  cases hv
end Go.Proofs.YtongedjlmohogaaGreatDoor

namespace Go.Proofs.YtongedjlmohogaaGreatDoor
open Go.RowKit Go.Shelf
theorem drop_some {α:Type} {L:List α} {i:Nat} {x:α} (h:L[i]? = some x):L.drop i=x :: L.drop (i+1):=by
 obtain ⟨h1,h2⟩:=List.getElem?_eq_some_iff.mp h
 rw [List.drop_eq_getElem_cons h1,h2]
end Go.Proofs.YtongedjlmohogaaGreatDoor

namespace Go.Proofs.YtongedjlmohogaaGreatDoor
open Go.RowKit Go.Shelf
section
variable {w0:World} {n:Bool} {t1 t2 t3:ByteArray} {w:World}
end
def scEx (s:ByteArray) (p:Nat):ByteArray:=if scX s p then s.extract (scC s p+1) (scH s p) else ⟨#[]⟩
def RsT (s:ByteArray) (p:Nat) (n:Bool) (t1 t2 t3:ByteArray) (en:Nat) (ok:Bool):Prop :=
 en=(scanS s p).2∧(ok=false→(scanS s p).1=none)∧(ok=true→∃ N,(scanS s p).1=some N∧n=N.neg∧t1=N.wh∧t2=N.be∧t3=scEx s p)
theorem RsT.no {s:ByteArray} {p:Nat} {n:Bool} {t1 t2 t3:ByteArray} {en:Nat} (h:scanS s p=(none,en)):RsT s p n t1 t2 t3 en false:=by
 exact ⟨by rw [h],(fun _=>by rw [h]),(fun h=>by cases h)⟩
theorem RsT.yes {s:ByteArray} {p:Nat} (h1:dgB (lk s (scA s p))=true) (h2:¬ (lk s (scB s p)=46∧dgB (lk s (scB s p+1))=false)) (h3:¬ (scX s p=true∧dgB (lk s (scF s p))=false)) :
  RsT s p (scNeg s p) (s.extract (scA s p) (scB s p)) (scBe s p) (scEx s p) (scH s p) true:=by
 have h:scanS s p=(some ⟨scNeg s p,s.extract (scA s p) (scB s p),scBe s p,scDn s p,scPw s p⟩,scH s p):=by
  rw [scanS,if_neg (by rw [h1];decide),if_neg h2,if_neg h3]
 exact ⟨by rw [h],(fun h=>by cases h),fun _=>⟨_,by rw [h],rfl,rfl,rfl,rfl⟩⟩
end Go.Proofs.YtongedjlmohogaaGreatDoor

/- quarryref17.plain,kind by kind: the fields that a kind uses,all others zero. -/
namespace Go.Proofs.YtongedjlmohogaaGreatDoor
open Go.RowKit Go.Shelf
end Go.Proofs.YtongedjlmohogaaGreatDoor
/- quarryref17.plain of numbers,texts and objects,and of what is none of these;all kinds together. -/
namespace Go.Proofs.YtongedjlmohogaaGreatDoor
open Go.RowKit Go.Shelf
end Go.Proofs.YtongedjlmohogaaGreatDoor
/- quarryref17.plain of objects;all kinds together;quarryref17.formed. -/
namespace Go.Proofs.YtongedjlmohogaaGreatDoor
open Go.RowKit Go.Shelf
def allB (ks:List ByteArray):Bool:=ks.all fun k=>decide (badOf k = -1)
end Go.Proofs.YtongedjlmohogaaGreatDoor
/- quarryref17.plain of any value;quarryref17.formed and Formed. -/
namespace Go.Proofs.YtongedjlmohogaaGreatDoor
open Go.RowKit Go.Shelf
def plainV:Vt→Bool
 | .mk k b r t ks vs =>
  if k=1 then decide (ks.length=0) && (decide (vs.length=0) && (!b && ((r.toList == []) && (t.toList == []))))
  else if k=2 then decide (ks.length=0) && (decide (vs.length=0) && ((r.toList == []) && (t.toList == [])))
  else if k=3 then decide (ks.length=0) && (decide (vs.length=0) && (!b && ((t.toList == []) && (decide ((ofS r).2=0) || decide ((ofS r).2=111)))))
  else if k=4 then decide (ks.length=0) && (decide (vs.length=0) && (!b && ((r.toList == []) && decide (badOf t = -1))))
  else if k=5 then !b && ((r.toList == []) && ((t.toList == []) && decide (ks.length=0)))
  else if k=6 then allB ks && (!b && ((r.toList == []) && ((t.toList == []) && decide (ks.length=vs.length))))
  else false
mutual
def wfV:Vt→Int→Bool
 | .mk k b r t ks vs,l=>plainV (.mk k b r t ks vs) && (!(decide (k=5∨k=6) && decide (l=0)) && wfL vs (l-1))
def wfL:List Vt→Int→Bool
 | [],_=>true
 | v :: vs,l=>wfV v l && wfL vs l
end
theorem wfL_drop {vs:List Vt} {i:Nat} {u:Vt} (l:Int) (h:vs[i]? = some u):wfL (vs.drop i) l=(wfV u l && wfL (vs.drop (i+1)) l):=by
 rw [drop_some h]
 conv=>lhs;unfold wfL
theorem plain_kids {k:Int} {b:Bool} {r t:ByteArray} {ks:List ByteArray} {vs:List Vt} (h:plainV (.mk k b r t ks vs)=true) (hk:¬ (k=5∨k=6)):vs.length=0:=by
 unfold plainV at h
 dsimp only at h
 rw [if_neg (show ¬ k=5 by omega),if_neg (show ¬ k=6 by omega)] at h
 repeat' split at h
 all_goals first
  | (simp only [Bool.and_eq_true,decide_eq_true_eq] at h;exact h.2.1)
  | (cases h;done)
end Go.Proofs.YtongedjlmohogaaGreatDoor
