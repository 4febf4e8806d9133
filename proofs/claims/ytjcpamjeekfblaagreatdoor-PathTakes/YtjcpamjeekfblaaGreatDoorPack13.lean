/-
  Texts of mine that others lean on, one behind the other.
-/
import Derived.Test.YtjcpamjeekfblaaGreatDoorPack1
import Derived.Test.YtjcpamjeekfblaaGreatDoorPack10
import Derived.Test.YtjcpamjeekfblaaGreatDoorPack11
import Derived.Test.YtjcpamjeekfblaaGreatDoorPack12
import Derived.Test.YtjcpamjeekfblaaGreatDoorPack3
import Derived.Test.YtjcpamjeekfblaaGreatDoorPack4
import Derived.Laws.OwnMore
import Derived.Deep.DeepAppendRoom
import Derived.Deep.Onto
namespace Go.Proofs.YtjcpamjeekfblaaGreatDoor
open Go.RowKit Go.Shelf
def ParP (b g:Nat) (s:ByteArray) (j:Nat) (t:Vt) (w:World) (e:Ending) (w':World):Prop:=∃ x:Value,e = .returned x∧ValOn (fun c=>w.heap.size≤c) w' t x∧PaI b g s j w'∧PFr b w w'
theorem PaI.same {b g i p:Nat} {s:ByteArray} {w w':World} (h:PaI b g s i w) (hs:SameOn (fun c=>c≠p) w w') (hb:b≠p) (hg:g≠p):PaI b g s i w' :=
  ⟨(hs.2 b hb h.at_.lt).trans h.at_,(hs.2 g hg h.tk.lt).trans h.tk,h.ne⟩
theorem PFr.setO {b p:Nat} {w W:World} (h:PFr b w W) (hp:w.heap.size≤p) (k:Nat) (v:Value):PFr b w (W.setCell ⟨p,k,none⟩ v) :=
  ⟨h.os,h.tape,h.output,by simpa using h.size,fun i hi hb=>(Below.heap_setCell W ⟨p,k,none⟩ v i (show i≠p by omega)).trans (h.block i hi hb)⟩
theorem PFr.six {b p:Nat} {w W:World} (h:PFr b w W) (hp:w.heap.size≤p) (y0 y1 y2 y3 y4 y5:Value):PFr b w ((((((W.setCell ⟨p,0,none⟩ y0).setCell ⟨p,1,none⟩ y1).setCell ⟨p,2,none⟩ y2).setCell ⟨p,3,none⟩ y3).setCell ⟨p,4,none⟩ y4).setCell ⟨p,5,none⟩ y5) :=
  (((((h.setO hp _ _).setO hp _ _).setO hp _ _).setO hp _ _).setO hp _ _).setO hp _ _
def GoP (b g:Nat) (s:ByteArray) (k c:Nat) (w:World) (e:Ending) (w':World):Prop:=(byteAt s k=c∧e = .returned (.bool false)∧PaI b g s (k+1) w'∧PFr b w w')∨(byteAt s k≠c∧e = .returned (.bool true)∧PaI b g s (if byteAt s k=44 then k+1 else k) w'∧PFr b w w')
theorem leafOn (S:Nat→Prop) (w:World) (k:Int) (b:Bool) (r t:ByteArray) (hw:(Lit.int .i64 k).wf=true) (hr:r.size≤capT) (ht:t.size≤capT):ValOn S w (.mk k b r t [] []) (.agg #[.int .i64 k,.bool b,.string r,.string t,.slice none 0 0,.slice none 0 0]) :=
  .mk k b r t [] [] none 0 none 0 (fun _=>#[]) hw ⟨hr,ht,Nat.zero_le _,Nat.zero_le _⟩ (fun i s h=>by simp at h) (fun i h=>by simp at h) (fun i u h=>by simp at h)
set_option maxRecDepth 10000 in
set_option maxHeartbeats 4000000 in
theorem nullP_calls (b g : Nat) (s : ByteArray) (hs : s.size ≤ 281474976710656) (i : Nat) (hi : i + 4 ≤ s.size) (w : World) (hP : Hid (PaI b g s i w)) :
    Calls Tryz.prog 138 #[.pointer (some ⟨b,0,none⟩)] w fun e w'=>ParP b g s (i+4) (.mk 1 false ⟨#[]⟩ ⟨#[]⟩ [] []) w e w':=by
  have hii:(i:Int)+4≤281474976710656:=by omega
  have hlb:=hP.out.at_.lt
  have hlg:=hP.out.tk.lt
  have A0:=hid (At.new w #[.int .i64 0,.bool false,.string ⟨#[]⟩,.string ⟨#[]⟩,.slice none 0 0,.slice none 0 0] 59)
  have q0:Below w.heap.size w (w.alloc (.cells #[.int .i64 0,.bool false,.string ⟨#[]⟩,.string ⟨#[]⟩,.slice none 0 0,.slice none 0 0] 59)):=(Below.refl _ w).alloc (Nat.le_refl _) _
  have P0:=hid (hP.out.kept q0)
  have F0:=hid (PFr.of_below (b:=b) q0)
  obtain ⟨p,hp⟩:∃ p,Hid (w.heap.size=p):=⟨_,rfl⟩
  have hpb:Hid (b≠p):=by show b≠p;have:=hp.out;omega
  have hpg:Hid (g≠p):=by show g≠p;have:=hp.out;omega
  rw [hp.out] at A0
  clear q0 hlb hlg
  go_enter Tryz.func138,Tryz.ntmps138
  go_upto_region 1 with fail
  rw [hp.out]
  generalize w.alloc (.cells #[.int .i64 0,.bool false,.string ⟨#[]⟩,.string ⟨#[]⟩,.slice none 0 0,.slice none 0 0] 59)=W1 at A0 P0 F0 ⊢
  have c1:W1.cell? ⟨b,1,none⟩=some (.int .i64 (i:Int)):=P0.out.at_.cell 1
  have g1:=P0.out.at_.frozen 1
  have A2:=hid (A0.out.other (p:=⟨b,1,none⟩) (Ne.symm hpb.out) (.int .i64 ((i:Int)+4)))
  have P2:=hid (P0.out.go ((i:Int)+4) (i+4) (by omega))
  have F2:=hid (F0.out.set 1 (.int .i64 ((i:Int)+4)))
  go_upto_region 2 with fail
  generalize W1.setCell ⟨b,1,none⟩ (.int .i64 ((i:Int)+4))=W2 at A2 P2 F2 ⊢
  clear c1 g1 A0 P0 F0
  have d0:=A2.out.cell 0
  have d1:=A2.out.cell 1
  have d2:=A2.out.cell 2
  have d3:=A2.out.cell 3
  have d4:=A2.out.cell 4
  have d5:=A2.out.cell 5
  simp only [List.getElem?_toArray,List.getElem?_cons_zero,List.getElem?_cons_succ] at d0 d1 d2 d3 d4 d5
  have f0:=A2.out.frozen 0
  have f1:=A2.out.frozen 1
  have f2:=A2.out.frozen 2
  have f3:=A2.out.frozen 3
  have f4:=A2.out.frozen 4
  have f5:=A2.out.frozen 5
  go_wp2
  refine ret_val1 (p:=2) rfl rfl (A2.out.six) rfl ?_
  exact ⟨_,rfl,leafOn _ _ _ _ _ _ (by decide) (by first | decide | assumption) (by first | decide | assumption),P2.out.same same_six hpb.out hpg.out,F2.out.six (Nat.le_of_eq hp.out) _ _ _ _ _ _⟩
set_option maxRecDepth 10000 in
set_option maxHeartbeats 4000000 in
theorem truthP_no (b g : Nat) (s : ByteArray) (hs : s.size ≤ 281474976710656) (i : Nat) (hi : i + 5 ≤ s.size) (hc : Hid (byteAt s i = 102)) (w : World) (hP : Hid (PaI b g s i w)) :
    Calls Tryz.prog 139 #[.pointer (some ⟨b,0,none⟩)] w fun e w'=>ParP b g s (i+5) (.mk 2 false ⟨#[]⟩ ⟨#[]⟩ [] []) w e w':=by
  have hii:(i:Int)+5≤281474976710656:=by omega
  have his:i<s.size:=by omega
  have hisi:(i:Int)<(s.size:Int):=by omega
  have hy:=byteAt_eq s i his
  rw [hc.out] at hy
  have hlb:=hP.out.at_.lt
  have hlg:=hP.out.tk.lt
  have A0:=hid (At.new w #[.int .i64 0,.bool false,.string ⟨#[]⟩,.string ⟨#[]⟩,.slice none 0 0,.slice none 0 0] 59)
  have q0:Below w.heap.size w (w.alloc (.cells #[.int .i64 0,.bool false,.string ⟨#[]⟩,.string ⟨#[]⟩,.slice none 0 0,.slice none 0 0] 59)):=(Below.refl _ w).alloc (Nat.le_refl _) _
  have P0:=hid (hP.out.kept q0)
  have F0:=hid (PFr.of_below (b:=b) q0)
  obtain ⟨p,hp⟩:∃ p,Hid (w.heap.size=p):=⟨_,rfl⟩
  have hpb:Hid (b≠p):=by show b≠p;have:=hp.out;omega
  have hpg:Hid (g≠p):=by show g≠p;have:=hp.out;omega
  rw [hp.out] at A0
  clear q0 hlb hlg
  go_enter Tryz.func139,Tryz.ntmps139
  go_upto_region 1 with fail
  rw [hp.out]
  generalize w.alloc (.cells #[.int .i64 0,.bool false,.string ⟨#[]⟩,.string ⟨#[]⟩,.slice none 0 0,.slice none 0 0] 59)=W1 at A0 P0 F0 ⊢
  have c0:W1.cell? ⟨b,0,none⟩=some (.string s):=P0.out.at_.cell 0
  have c1:W1.cell? ⟨b,1,none⟩=some (.int .i64 (i:Int)):=P0.out.at_.cell 1
  go_wp2
  refine wp_region_quiet (C:=(fun w'=>w'.cell? ⟨b,0,none⟩=some (.string s)∧w'.cell? ⟨b,1,none⟩=some (.int .i64 (i:Int))∧Below W1.heap.size W1 w')) (by kernel_rfl) (by kernel_rfl) (⟨c0,c1,(Below.refl _ _).drew⟩) ?_
  dsimp only
  repeat (first
    | (refine wpQuiet_skip (by rfl) ?_;simp only [psA])
    | (refine' wpQuiet_take (by rfl) ?_ ?_
       rotate_left
       · (intro wq hq;(try dsimp only at hq);go_simp
          first
            | done
            | with_reducible rfl
         )
       simp only [psA]))
  refine wpQuiet_nil ?_
  intro w5 hw5
  have A1:=hid (A0.out.keptAll hw5.2.2)
  have P1:=hid (P0.out.kept hw5.2.2)
  have F1:=hid (F0.out.trans (PFr.of_below hw5.2.2))
  clear hw5 c0 c1 A0 P0 F0
  have c1:w5.cell? ⟨b,1,none⟩=some (.int .i64 (i:Int)):=P1.out.at_.cell 1
  have g1:=P1.out.at_.frozen 1
  have A2:=hid (A1.out.other (p:=⟨b,1,none⟩) (Ne.symm hpb.out) (.int .i64 ((i:Int)+5)))
  have P2:=hid (P1.out.go ((i:Int)+5) (i+5) (by omega))
  have F2:=hid (F1.out.set 1 (.int .i64 ((i:Int)+5)))
  go_upto_region 3 with fail
  generalize w5.setCell ⟨b,1,none⟩ (.int .i64 ((i:Int)+5))=W2 at A2 P2 F2 ⊢
  clear c1 g1 A1 P1 F1
  have d0:=A2.out.cell 0
  have d1:=A2.out.cell 1
  have d2:=A2.out.cell 2
  have d3:=A2.out.cell 3
  have d4:=A2.out.cell 4
  have d5:=A2.out.cell 5
  simp only [List.getElem?_toArray,List.getElem?_cons_zero,List.getElem?_cons_succ] at d0 d1 d2 d3 d4 d5
  have f0:=A2.out.frozen 0
  have f1:=A2.out.frozen 1
  have f2:=A2.out.frozen 2
  have f3:=A2.out.frozen 3
  have f4:=A2.out.frozen 4
  have f5:=A2.out.frozen 5
  go_wp2
  refine ret_val1 (p:=2) rfl rfl (A2.out.six) rfl ?_
  exact ⟨_,rfl,leafOn _ _ _ _ _ _ (by decide) (by first | decide | assumption) (by first | decide | assumption),P2.out.same same_six hpb.out hpg.out,F2.out.six (Nat.le_of_eq hp.out) _ _ _ _ _ _⟩
set_option maxRecDepth 10000 in
set_option maxHeartbeats 4000000 in
theorem truthP_yes (b g : Nat) (s : ByteArray) (hs : s.size ≤ 281474976710656) (i : Nat) (hi : i + 4 ≤ s.size) (hc : Hid (byteAt s i = 116)) (w : World) (hP : Hid (PaI b g s i w)) :
    Calls Tryz.prog 139 #[.pointer (some ⟨b,0,none⟩)] w fun e w'=>ParP b g s (i+4) (.mk 2 true ⟨#[]⟩ ⟨#[]⟩ [] []) w e w':=by
  have hii:(i:Int)+4≤281474976710656:=by omega
  have his:i<s.size:=by omega
  have hisi:(i:Int)<(s.size:Int):=by omega
  have hy:=byteAt_eq s i his
  rw [hc.out] at hy
  have hlb:=hP.out.at_.lt
  have hlg:=hP.out.tk.lt
  have A0:=hid (At.new w #[.int .i64 0,.bool false,.string ⟨#[]⟩,.string ⟨#[]⟩,.slice none 0 0,.slice none 0 0] 59)
  have q0:Below w.heap.size w (w.alloc (.cells #[.int .i64 0,.bool false,.string ⟨#[]⟩,.string ⟨#[]⟩,.slice none 0 0,.slice none 0 0] 59)):=(Below.refl _ w).alloc (Nat.le_refl _) _
  have P0:=hid (hP.out.kept q0)
  have F0:=hid (PFr.of_below (b:=b) q0)
  obtain ⟨p,hp⟩:∃ p,Hid (w.heap.size=p):=⟨_,rfl⟩
  have hpb:Hid (b≠p):=by show b≠p;have:=hp.out;omega
  have hpg:Hid (g≠p):=by show g≠p;have:=hp.out;omega
  rw [hp.out] at A0
  clear q0 hlb hlg
  go_enter Tryz.func139,Tryz.ntmps139
  go_upto_region 1 with fail
  rw [hp.out]
  generalize w.alloc (.cells #[.int .i64 0,.bool false,.string ⟨#[]⟩,.string ⟨#[]⟩,.slice none 0 0,.slice none 0 0] 59)=W1 at A0 P0 F0 ⊢
  have c0:W1.cell? ⟨b,0,none⟩=some (.string s):=P0.out.at_.cell 0
  have c1:W1.cell? ⟨b,1,none⟩=some (.int .i64 (i:Int)):=P0.out.at_.cell 1
  go_wp2
  refine wp_region_quiet (C:=(fun w'=>w'.cell? ⟨b,0,none⟩=some (.string s)∧w'.cell? ⟨b,1,none⟩=some (.int .i64 (i:Int))∧Below W1.heap.size W1 w')) (by kernel_rfl) (by kernel_rfl) (⟨c0,c1,(Below.refl _ _).drew⟩) ?_
  dsimp only
  repeat (first
    | (refine wpQuiet_skip (by rfl) ?_;simp only [psA])
    | (refine' wpQuiet_take (by rfl) ?_ ?_
       rotate_left
       · (intro wq hq;(try dsimp only at hq);go_simp
          first
            | done
            | with_reducible rfl
         )
       simp only [psA]))
  refine wpQuiet_nil ?_
  intro w5 hw5
  have A1:=hid (A0.out.keptAll hw5.2.2)
  have P1:=hid (P0.out.kept hw5.2.2)
  have F1:=hid (F0.out.trans (PFr.of_below hw5.2.2))
  clear hw5 c0 c1 A0 P0 F0
  have c1:w5.cell? ⟨b,1,none⟩=some (.int .i64 (i:Int)):=P1.out.at_.cell 1
  have g1:=P1.out.at_.frozen 1
  have A2:=hid (A1.out.other (p:=⟨b,1,none⟩) (Ne.symm hpb.out) (.int .i64 ((i:Int)+4)))
  have P2:=hid (P1.out.go ((i:Int)+4) (i+4) (by omega))
  have F2:=hid (F1.out.set 1 (.int .i64 ((i:Int)+4)))
  go_upto_region 5 with fail
  generalize w5.setCell ⟨b,1,none⟩ (.int .i64 ((i:Int)+4))=W2 at A2 P2 F2 ⊢
  clear c1 g1 A1 P1 F1
  have d0:=A2.out.cell 0
  have d1:=A2.out.cell 1
  have d2:=A2.out.cell 2
  have d3:=A2.out.cell 3
  have d4:=A2.out.cell 4
  have d5:=A2.out.cell 5
  simp only [List.getElem?_toArray,List.getElem?_cons_zero,List.getElem?_cons_succ] at d0 d1 d2 d3 d4 d5
  have f0:=A2.out.frozen 0
  have f1:=A2.out.frozen 1
  have f2:=A2.out.frozen 2
  have f3:=A2.out.frozen 3
  have f4:=A2.out.frozen 4
  have f5:=A2.out.frozen 5
  go_wp2
  refine ret_val1 (p:=2) rfl rfl (A2.out.six) rfl ?_
  exact ⟨_,rfl,leafOn _ _ _ _ _ _ (by decide) (by first | decide | assumption) (by first | decide | assumption),P2.out.same same_six hpb.out hpg.out,F2.out.six (Nat.le_of_eq hp.out) _ _ _ _ _ _⟩
set_option maxRecDepth 10000 in
set_option maxHeartbeats 4000000 in
theorem goesOnP_calls (b g : Nat) (s : ByteArray) (hs : s.size ≤ 281474976710656) (i k : Nat) (hk : Hid (IsSkip s i k)) (hks : k < s.size) (c : Nat) (w : World) (hP : Hid (PaI b g s i w)) :
    Calls Tryz.prog 156 #[.pointer (some ⟨b,0,none⟩),.int .u8 (c:Int)] w fun e w'=>GoP b g s k c w e w':=by
  have hbl:=hid (blanksP_calls b g s hs i k hk hks w hP)
  have hsi:(s.size:Int)≤281474976710656:=by omega
  have hki:(k:Int)<(s.size:Int):=by omega
  obtain ⟨y,hY⟩:∃ y,Hid (byteAt s k=y):=⟨_,rfl⟩
  have hy:=byteAt_eq s k hks
  rw [hY.out] at hy
  go_enter Tryz.func156,Tryz.ntmps156
  go_wp2_with fail
  refine Calls.mono hbl.out ?_
  rintro e w1 ⟨rfl,hP1,hF1⟩
  have P0:=hid hP1
  have F0:=hid hF1
  clear hbl hP1 hF1 hP
  have c0:w1.cell? ⟨b,0,none⟩=some (.string s):=P0.out.at_.cell 0
  have c1:w1.cell? ⟨b,1,none⟩=some (.int .i64 (k:Int)):=P0.out.at_.cell 1
  go_wp2
  refine wp_region_quiet (C:=(fun w'=>w'.cell? ⟨b,0,none⟩=some (.string s)∧w'.cell? ⟨b,1,none⟩=some (.int .i64 (k:Int))∧Below w1.heap.size w1 w')) (by kernel_rfl) (by kernel_rfl) (⟨c0,c1,(Below.refl _ _).drew⟩) ?_
  dsimp only
  repeat (first
    | (refine wpQuiet_skip (by rfl) ?_;simp only [psA])
    | (refine' wpQuiet_take (by rfl) ?_ ?_
       rotate_left
       · (intro wq hq;(try dsimp only at hq);go_simp
          first
            | done
            | with_reducible rfl
         )
       simp only [psA]))
  refine wpQuiet_nil ?_
  intro w5 hw5
  have P1:=hid (P0.out.kept hw5.2.2)
  have F1:=hid (F0.out.trans (PFr.of_below hw5.2.2))
  clear hw5 c0 c1 P0 F0
  have c1:w5.cell? ⟨b,1,none⟩=some (.int .i64 (k:Int)):=P1.out.at_.cell 1
  have g1:=P1.out.at_.frozen 1
  have P2:=hid (P1.out.go ((k:Int)+1) (k+1) (by omega))
  have F2:=hid (F1.out.set 1 (.int .i64 ((k:Int)+1)))
  by_cases hyc:y=c
  · have e1:((y:Int) == (c:Int))=true:=by simp [hyc]
    have hyc':=hid hyc
    clear hyc
    go_wp2
    go_ret
    exact .inl ⟨hY.out.trans hyc'.out,rfl,P2.out,F2.out⟩
  · have e1:((y:Int) == (c:Int))=false:=by simp;omega
    have hyc':=hid hyc
    clear hyc
    by_cases h44:y=44
    · have e2:((y:Int) == 44)=true:=by simp [h44]
      have h44':=hid h44
      clear h44
      go_wp2
      go_ret
      exact .inr ⟨by rw [hY.out];exact hyc'.out,rfl,by rw [if_pos (hY.out.trans h44'.out)];exact P2.out,F2.out⟩
    · have e2:((y:Int) == 44)=false:=by simp;omega
      have h44':=hid h44
      clear h44
      go_wp2
      go_ret
      exact .inr ⟨by rw [hY.out];exact hyc'.out,rfl,by rw [if_neg (by rw [hY.out];exact h44'.out)];exact P1.out,F1.out⟩
set_option maxRecDepth 10000 in
set_option maxHeartbeats 4000000 in
theorem quoted_calls (b g : Nat) (s : ByteArray) (hs : s.size ≤ 1048576) (i j : Nat) (T : ByteArray) (hT : Hid (Txt s i j T)) (w : World) (hP : Hid (PaI b g s i w)) :
    Calls Tryz.prog 155 #[.pointer (some ⟨b,0,none⟩)] w fun e w'=>e = .returned (.string T)∧PaI b g s j w'∧PFr b w w':=by
  obtain ⟨h1,e,hq,hj,hu⟩:=hT.out
  have hle:=hq.le
  have hq':=hid hq
  have hj':=hid hj
  have hun:=hid (fun u=>un_calls (s.extract (i+1) e) (by rw [ByteArray.size_extract];omega) T (unS (s.extract (i+1) e)).2 (hid (by rw [← hu])) u trivial)
  have hen:=hid (fun u=>end_calls s (by omega) ((i:Int)+1) (by exact WalkArith.wf_i64 (by omega)) u trivial)
  have hei:(e:Int)<(s.size:Int):=by omega
  have hie:(i:Int)+1≤(e:Int):=by omega
  have hsi:(s.size:Int)≤1048576:=by omega
  generalize (unS (s.extract (i+1) e)).2=E2 at hun
  clear h1 hq hj hu hT hle
  have c0:w.cell? ⟨b,0,none⟩=some (.string s):=hP.out.at_.cell 0
  have c1:w.cell? ⟨b,1,none⟩=some (.int .i64 (i:Int)):=hP.out.at_.cell 1
  go_enter Tryz.func155,Tryz.ntmps155
  go_wp2_with fail
  refine Calls.mono (hen.out _) ?_
  rintro r w1 ⟨⟨n,E,rfl,hE⟩,hb⟩
  obtain ⟨rfl,rfl⟩:=qe_isend hq'.out (by push_cast;exact hE)
  have P1:=hid (hP.out.kept hb)
  have F1:=hid (PFr.of_below (b:=b) hb)
  clear hb hE hen hP c0 c1
  have c0:w1.cell? ⟨b,0,none⟩=some (.string s):=P1.out.at_.cell 0
  have c1:w1.cell? ⟨b,1,none⟩=some (.int .i64 (i:Int)):=P1.out.at_.cell 1
  go_wp2_with fail
  refine Calls.mono (hun.out _) ?_
  rintro r w2 ⟨rfl,hb⟩
  have P2:=hid (P1.out.kept hb)
  have F2:=hid (F1.out.trans (PFr.of_below hb))
  clear hb hun P1 F1 c0 c1
  have c1:w2.cell? ⟨b,1,none⟩=some (.int .i64 (i:Int)):=P2.out.at_.cell 1
  have g1:=P2.out.at_.frozen 1
  have P3:=hid (P2.out.go ((e:Int)+1) j (by rw [hj'.out];omega))
  have F3:=hid (F2.out.set 1 (.int .i64 ((e:Int)+1)))
  go_wp2
  go_ret
  exact ⟨rfl,P3.out,F3.out⟩
end Go.Proofs.YtjcpamjeekfblaaGreatDoor

namespace Go.Proofs.YtjcpamjeekfblaaGreatDoor
open Go.RowKit Go.Shelf
theorem appendV {P:Program} {w:World} {base n z bytes:Nat} {t ty e:TypeId} {i:TypeInfo} {z0 v:Value} {xs:List Value} (ht:P.underlying t=some (.slice e)) (hi:P.info? e=some i) (hz:i.zero=some z0) (hsize:i.size=z) (hby:i.bytes=bytes) (hzs:z0.cells.size=z) (hsz:0<z)
  (hown:w.ownsRow base e z v n xs) (a:Addr) (m c:Nat) (news:List Value) (hl:news.length=m*z) (hnews:∀ j u,news[j]? = some u→w.cell? (a.add j)=some u) (h1:∀ u ∈ news,u.oneCell'=true) (h63:n+m≤maxLen) (hbytes:(n+m)*bytes≤140737488355328) (hbase:base≤w.heap.size) :
  ∃ v' w',(Builtin.append_ #[t,t] ty #[v,.slice (some a) m c]).run P w = .ok v' w'∧w'.ownsRow base e z v' (n+m) (xs++news) ∧
   ((∃ g cap,v = .slice (some ⟨g,0,none⟩) n cap∧v' = .slice (some ⟨g,0,none⟩) (n+m) cap∧w.grownBy w' (some g))∨((∀ g,v'.ownBlock=some g→w.heap.size≤g)∧w.grownBy w' none)):=by
 rcases hown.2 with ⟨rfl,rfl⟩ | ⟨g,cap,cur,rfl,hb,hg,hnc,hcm,hcs,htk⟩
 ·have hx:xs=[]:=List.length_eq_zero_iff.1 (by rw [hown.1,Nat.zero_mul])
  subst hx
  obtain ⟨v',w',hr,s1,s2,-⟩:=run_append_own (P:=P) w w.heap.size t ty e i z0 z bytes ht hi hz hsize hby hzs hsz (.slice none 0 0) 0 [] (World.ownsRow_nil w _ _ _) a m c news hl hnews h1 h63 hbytes (Nat.le_refl _)
  exact ⟨v',w',hr,s1.mono hbase,.inr ⟨fun g hg=>(s1.lt g hg).1,s2⟩⟩
 ·by_cases hgr:cap<n+m
  ·obtain ⟨v',w',hr,s1,s2⟩:=run_append_arg_grows (P:=P) w t ty e i z0 z bytes ht hi hz hsize hby hzs hsz ⟨g,0,none⟩ n cap xs hown.1 (hown.cells (g:=g) rfl) a m c news hl hnews hgr h63 hbytes
   exact ⟨v',w',hr,s1.mono hbase,.inr ⟨fun g hg=>(s1.lt g hg).1,s2⟩⟩
  ·obtain ⟨w',hr,s1,s2⟩:=run_append_own_spare (P:=P) w base t ty e i z ht hi hsize g n cap xs hown a m c news hl hnews h1 (by omega)
   exact ⟨_,w',hr,s1,.inl ⟨g,cap,rfl,rfl,s2⟩⟩
theorem infoVT:(Tryz.prog.info? 59).map (fun i=>(i.zero,i.size,i.bytes))=some (some (.agg #[.int .i64 0,.bool false,.string ⟨#[]⟩,.string ⟨#[]⟩,.slice none 0 0,.slice none 0 0]),6,96):=by kernel_rfl
theorem infoST:(Tryz.prog.info? 9).map (fun i=>(i.zero,i.size,i.bytes))=some (some (.string ⟨#[]⟩),1,16):=by kernel_rfl
theorem info_partsV {t:TypeId} {z:Value} {n m:Nat} (h:(Tryz.prog.info? t).map (fun i=>(i.zero,i.size,i.bytes))=some (some z,n,m)):∃ i,Tryz.prog.info? t=some i∧i.zero=some z∧i.size=n∧i.bytes=m:=by
 cases hi:Tryz.prog.info? t with
 | none=>rw [hi] at h;cases h
 | some i=>rw [hi] at h;simp at h;exact ⟨i,rfl,h.1,h.2.1,h.2.2⟩
def flatC (X:Nat→Array Value):Nat→List Value
 | 0=>[]
 | n+1=>flatC X n++(X n).toList
theorem flatC_len {X:Nat→Array Value}:∀ {n:Nat},(∀ i,i<n→(X i).size=6)→(flatC X n).length=n*6
 | 0,_=>rfl
 | n+1,h=>by
  rw [flatC,List.length_append,flatC_len (fun i hi=>h i (by omega))]
  have:=h n (by omega)
  simp only [Array.length_toList,this]
  omega
theorem flatC_get {X:Nat→Array Value}:∀ {n i j:Nat},(∀ i,i<n→(X i).size=6)→i<n→j<6→(flatC X n)[i*6+j]? = (X i)[j]?
 | 0,i,j,_,h,_=>by omega
 | n+1,i,j,h,hi,hj=>by
  have hl:=flatC_len (X:=X) (n:=n) (fun i hi=>h i (by omega))
  rw [flatC]
  by_cases e:i=n
  ·subst e
   rw [List.getElem?_append_right (by omega),hl,show i*6+j-i*6=j by omega]
   simp
  ·rw [List.getElem?_append_left (by omega)]
   exact flatC_get (fun i hi=>h i (by omega)) (by omega) hj
theorem flatC_congr {X Y:Nat→Array Value}:∀ {n:Nat},(∀ i,i<n→X i=Y i)→flatC X n=flatC Y n
 | 0,_=>rfl
 | n+1,h=>by rw [flatC,flatC,flatC_congr (fun i hi=>h i (by omega)),h n (by omega)]
def KidsG (B:Nat) (k:Option Nat) (w:World) (v:Value) (vs:List Vt):Prop :=
 ∃ X:Nat→Array Value,w.ownsRow B 59 6 v vs.length (flatC X vs.length)∧(∀ i,i<vs.length→(X i).size=6)∧∀ (i:Nat) (u:Vt),vs[i]? = some u→ValOn (fun c=>B≤c∧v.ownBlock≠some c∧k≠some c) w u (.agg (X i))
def KeysG (B:Nat) (w:World) (v:Value) (ks:List ByteArray):Prop :=
 w.ownsRow B 9 1 v ks.length (ks.map Value.string)∧∀ (i:Nat) (s:ByteArray),ks[i]? = some s→s.size≤capT
section
variable {B:Nat} {k:Option Nat} {W W':World} {v v':Value} {vs:List Vt} {ks:List ByteArray}
theorem own_on {e:TypeId} {z n:Nat} {xs:List Value} (h:W.ownsRow B e z v n xs) (hs:∀ g,v.ownBlock=some g→B≤g→g<W.heap.size→W'.heap[g]? = W.heap[g]?):W'.ownsRow B e z v n xs:=by
 have hlt:=h.lt
 refine ⟨h.1,?_⟩
 rcases h.2 with h2 | ⟨g,cap,cur,rfl,hb,hg,h3⟩
 ·exact .inl h2
 ·exact .inr ⟨g,cap,cur,rfl,hb,(hs g rfl hb (hlt g rfl).2).trans hg,h3⟩
theorem KidsG.nil (B:Nat) (k:Option Nat) (W:World):KidsG B k W (.slice none 0 0) []:=⟨fun _=>#[],by simpa [flatC] using World.ownsRow_nil W B 59 6,fun i h=>by simp at h,fun i u h=>by simp at h⟩
theorem KeysG.nil (B:Nat) (W:World):KeysG B W (.slice none 0 0) []:=⟨by simpa using World.ownsRow_nil W B 9 1,fun i s h=>by simp at h⟩
theorem KidsG.kept (h:KidsG B k W v vs) (hs:SameOn (fun c=>B≤c) W W'):KidsG B k W' v vs:=by
 obtain ⟨X,h1,h2,h3⟩:=h
 exact ⟨X,own_on h1 (fun g _ hg hl=>hs.2 g hg hl),h2,fun i u hi=>(h3 i u hi).kept (fun _ _ h=>h) ⟨hs.1,fun c hc hl=>hs.2 c hc.1 hl⟩⟩
theorem KeysG.kept (h:KeysG B W v ks) (hs:SameOn (fun c=>B≤c) W W'):KeysG B W' v ks:=⟨own_on h.1 (fun g _ hg hl=>hs.2 g hg hl),h.2⟩
theorem KidsG.blk (h:KidsG B k W v vs) {g:Nat} (hg:v.ownBlock=some g):B≤g∧g<W.heap.size:=by
 obtain ⟨X,h1,-⟩:=h
 exact h1.lt g hg
theorem KeysG.blk (h:KeysG B W v ks) {g:Nat} (hg:v.ownBlock=some g):B≤g∧g<W.heap.size:=h.1.lt g hg
theorem own_shape {e:TypeId} {z n:Nat} {xs:List Value} (h:W.ownsRow B e z v n xs):∃ so cap,v = .slice so n cap:=by
 rcases h.2 with ⟨rfl,rfl⟩ | ⟨g,cap,cur,rfl,-⟩
 ·exact ⟨_,_,rfl⟩
 ·exact ⟨_,_,rfl⟩
theorem KidsG.shape (h:KidsG B k W v vs):∃ so cap,v = .slice so vs.length cap:=by
 obtain ⟨X,h1,-⟩:=h
 exact own_shape h1
theorem KeysG.shape (h:KeysG B W v ks):∃ so cap,v = .slice so ks.length cap:=own_shape h.1
theorem KidsG.row {vo:Option Addr} {n vc:Nat} (h:KidsG B k W (.slice vo n vc) vs):∃ X:Nat→Array Value,n=vs.length∧RowOn (fun c=>B≤c) W vo vs.length X∧∀ (i:Nat) (u:Vt),vs[i]? = some u→ValOn (fun c=>B≤c) W u (.agg (X i)):=by
 obtain ⟨X,h1,h2,h3⟩:=h
 obtain ⟨so,cap,e⟩:=own_shape h1
 cases e
 refine ⟨X,rfl,fun i hi=>⟨h2 i hi,?_⟩,fun i u hi=>(h3 i u hi).mono (fun _ _ h=>h.1)⟩
 rcases h1.2 with ⟨e,h0⟩ | ⟨g,cap,cur,e,hb,hg,-⟩
 ·omega
 ·cases e
  refine ⟨g,0,rfl,hb,(h1.lt g rfl).2,fun j hj=>?_⟩
  rw [show 0+i*6+j=i*6+j by omega,h1.cellAt (i*6+j) (by omega),flatC_get h2 hi hj]
theorem KeysG.row {vo:Option Addr} {n vc:Nat} (h:KeysG B W (.slice vo n vc) ks):n=ks.length∧KeysOn (fun c=>B≤c) W vo ks:=by
 obtain ⟨h1,h2⟩:=h
 obtain ⟨so,cap,e⟩:=own_shape h1
 cases e
 refine ⟨rfl,fun i s hi=>⟨h2 i s hi,?_⟩⟩
 have hl:=(List.getElem?_eq_some_iff.1 hi).1
 rcases h1.2 with ⟨e,h0⟩ | ⟨g,cap,cur,e,hb,hg,-⟩
 ·omega
 ·cases e
  refine ⟨g,0,rfl,hb,(h1.lt g rfl).2,?_⟩
  rw [show 0+i=i by omega,h1.cellAt i (by omega)]
  simp [hi]
theorem grown_weaken {row:Option Nat} (h:W.grownBy W' none):W.grownBy W' row:=⟨h.os,h.tape,h.output,h.size,fun c hc _=>h.block c hc (by simp)⟩
theorem KidsG.app {u:Vt} {C:Array Value} {ty:TypeId} (h:KidsG B k W v vs) (hu:ValOn (fun c=>B≤c∧v.ownBlock≠some c∧k≠some c) W u (.agg C)) (ad:Addr) (c:Nat) (hC:∀ (j:Nat) (y:Value),C[j]? = some y→W.cell? (ad.add j)=some y) (hn:vs.length<1099511627776) (hB:B≤W.heap.size) :
  ∃ v' W',(Builtin.append_ #[57,57] ty #[v,.slice (some ad) 1 c]).run Tryz.prog W = .ok v' W'∧KidsG B k W' v' (vs++[u])∧W.grownBy W' v.ownBlock∧(v'.ownBlock=v.ownBlock∨∃ g,v'.ownBlock=some g∧W.heap.size≤g):=by
 obtain ⟨X,h1,h2,h3⟩:=h
 obtain ⟨ko,kc,vo,vc,e⟩:=hu.six
 have hsz:C.size=6:=by cases e;rfl
 have ho:∀ y ∈ C.toList,y.oneCell'=true:=by
  cases e
  intro y hy
  simp at hy
  rcases hy with rfl | rfl | rfl | rfl | rfl | rfl <;> rfl
 obtain ⟨i0,hi,hz0,hz1,hz2⟩:=info_partsV infoVT
 obtain ⟨v',W',hr,r1,r2⟩:=appendV (P:=Tryz.prog) (ty:=ty) Tryz.underlying57 hi hz0 hz1 hz2 rfl (by decide) h1 ad 1 c C.toList (by simp [hsz]) (fun j y hj=>hC j y (by simpa using hj)) ho (by unfold maxLen;omega) (by omega) hB
 have hg:W.grownBy W' v.ownBlock:=by
  rcases r2 with ⟨g,cap,rfl,rfl,hg⟩ | ⟨-,hg⟩
  ·exact hg
  ·exact grown_weaken hg
 have hb:v'.ownBlock=v.ownBlock∨∃ g,v'.ownBlock=some g∧W.heap.size≤g:=by
  rcases r2 with ⟨g,cap,rfl,rfl,-⟩ | ⟨hf,-⟩
  ·exact .inl rfl
  ·rcases r1.2 with ⟨-,h0⟩ | ⟨g,cap,cur,rfl,-⟩
   ·omega
   ·exact .inr ⟨g,rfl,hf g rfl⟩
 have hS:∀ b,b<W.heap.size→(B≤b∧v.ownBlock≠some b∧k≠some b)→(B≤b∧v'.ownBlock≠some b∧k≠some b):=fun b hl hc=>by
  refine ⟨hc.1,?_,hc.2.2⟩
  rcases hb with e | ⟨g,e,hgl⟩
  ·rw [e];exact hc.2.1
  ·rw [e];intro hx;injection hx with hx;omega
 have hO:SameOn (fun c=>B≤c∧v.ownBlock≠some c∧k≠some c) W W':=⟨hg.size,fun b hc hl=>hg.block b hl (fun e=>hc.2.1 e.symm)⟩
 refine ⟨v',W',hr,⟨fun i=>if i=vs.length then C else X i,?_,?_,?_⟩,hg,hb⟩
 ·have e1:flatC (fun i=>if i=vs.length then C else X i) (vs++[u]).length=flatC X vs.length++C.toList:=by
   rw [List.length_append,List.length_singleton,flatC]
   simp only [if_true]
   rw [flatC_congr (Y:=X) (fun i hi=>if_neg (by omega))]
  rw [e1,List.length_append,List.length_singleton]
  exact r1
 ·intro i hi
  rw [List.length_append,List.length_singleton] at hi
  by_cases e:i=vs.length
  ·simp only [if_pos e];exact hsz
  ·simp only [if_neg e];exact h2 i (by omega)
 ·intro i y hy
  by_cases e:i=vs.length
  ·subst e
   rw [List.getElem?_append_right (Nat.le_refl _)] at hy
   simp at hy
   subst hy
   simp only [if_true]
   exact hu.kept hS hO
  ·have hl:=(List.getElem?_eq_some_iff.1 hy).1
   rw [List.length_append,List.length_singleton] at hl
   rw [List.getElem?_append_left (by omega)] at hy
   simp only [if_neg e]
   exact (h3 i y hy).kept hS hO
theorem KeysG.app {u:ByteArray} {ty:TypeId} (h:KeysG B W v ks) (hu:u.size≤capT) (ad:Addr) (c:Nat) (hC:W.cell? (ad.add 0)=some (.string u)) (hn:ks.length<1099511627776) (hB:B≤W.heap.size) :
  ∃ v' W',(Builtin.append_ #[56,56] ty #[v,.slice (some ad) 1 c]).run Tryz.prog W = .ok v' W'∧KeysG B W' v' (ks++[u])∧W.grownBy W' v.ownBlock∧(v'.ownBlock=v.ownBlock∨∃ g,v'.ownBlock=some g∧W.heap.size≤g):=by
 obtain ⟨h1,h2⟩:=h
 obtain ⟨i0,hi,hz0,hz1,hz2⟩:=info_partsV infoST
 obtain ⟨v',W',hr,r1,r2⟩:=appendV (P:=Tryz.prog) (ty:=ty) Tryz.underlying56 hi hz0 hz1 hz2 rfl (by decide) h1 ad 1 c [.string u] (by simp) (fun j y hj=>by
  match j,hj with
  | 0,hj=>simp at hj;subst hj;exact hC) (by simp;rfl) (by unfold maxLen;omega) (by omega) hB
 refine ⟨v',W',hr,⟨?_,?_⟩,?_,?_⟩
 ·rw [List.length_append,List.length_singleton,List.map_append,List.map_cons,List.map_nil]
  exact r1
 ·intro i s hs
  by_cases e:i=ks.length
  ·subst e
   rw [List.getElem?_append_right (Nat.le_refl _)] at hs
   simp at hs
   subst hs
   exact hu
  ·have hl:=(List.getElem?_eq_some_iff.1 hs).1
   rw [List.length_append,List.length_singleton] at hl
   rw [List.getElem?_append_left (by omega)] at hs
   exact h2 i s hs
 ·rcases r2 with ⟨g,cap,rfl,rfl,hg⟩ | ⟨-,hg⟩
  ·exact hg
  ·exact grown_weaken hg
 ·rcases r2 with ⟨g,cap,rfl,rfl,-⟩ | ⟨hf,-⟩
  ·exact .inl rfl
  ·rcases r1.2 with ⟨-,h0⟩ | ⟨g,cap,cur,rfl,-⟩
   ·omega
   ·exact .inr ⟨g,rfl,hf g rfl⟩
end
def ObjG (B:Nat) (w:World) (kv vv:Value) (ks:List ByteArray) (vs:List Vt):Prop:=KeysG B w kv ks∧KidsG B kv.ownBlock w vv vs∧∀ g,kv.ownBlock=some g→vv.ownBlock≠some g
section
variable {B:Nat} {W W':World} {kv vv kv' vv':Value} {vs vs':List Vt} {ks ks':List ByteArray}
theorem ObjG.nil (B:Nat) (W:World):ObjG B W (.slice none 0 0) (.slice none 0 0) [] []:=⟨KeysG.nil B W,KidsG.nil B _ W,fun g h=>by cases h⟩
theorem ObjG.kept (h:ObjG B W kv vv ks vs) (hs:SameOn (fun c=>B≤c) W W'):ObjG B W' kv vv ks vs:=⟨h.1.kept hs,h.2.1.kept hs,h.2.2⟩
theorem ObjG.key (h:ObjG B W kv vv ks vs) (hk:KeysG B W' kv' ks') (hg:W.grownBy W' kv.ownBlock) (ha:kv'.ownBlock=kv.ownBlock∨∃ g,kv'.ownBlock=some g∧W.heap.size≤g):ObjG B W' kv' vv ks' vs:=by
 obtain ⟨X,h1,h2,h3⟩:=h.2.1
 refine ⟨hk,⟨X,own_on h1 (fun g hv hb hl=>hg.block g hl (fun e=>h.2.2 g e.symm hv)),h2,fun i u hi=>(h3 i u hi).kept (fun b hl hc=>⟨hc.1,hc.2.1,?_⟩) ⟨hg.size,fun c hc hl=>hg.block c hl (fun e=>hc.2.2 e.symm)⟩⟩,?_⟩
 ·rcases ha with e | ⟨g,e,hgl⟩
  ·rw [e];exact hc.2.2
  ·rw [e];intro hx;injection hx with hx;omega
 ·intro g hg' hv
  rcases ha with e | ⟨g2,e,hgl⟩
  ·exact h.2.2 g (e ▸ hg') hv
  ·rw [hg'] at e;injection e with e;have:=(h1.lt g hv).2;omega
theorem ObjG.kid (h:ObjG B W kv vv ks vs) (hk:KidsG B kv.ownBlock W' vv' vs') (hg:W.grownBy W' vv.ownBlock) (ha:vv'.ownBlock=vv.ownBlock∨∃ g,vv'.ownBlock=some g∧W.heap.size≤g):ObjG B W' kv vv' ks vs':=by
 refine ⟨⟨own_on h.1.1 (fun g hv hb hl=>hg.block g hl (fun e=>h.2.2 g hv e.symm)),h.1.2⟩,hk,?_⟩
 intro g hk2 hv
 rcases ha with e | ⟨g2,e,hgl⟩
 ·exact h.2.2 g hk2 (e ▸ hv)
 ·rw [hv] at e;injection e with e;have:=(h.1.blk hk2).2;omega
end
def lenP (b k:Nat) (w:World):Nat:=match w.cell? ⟨b,k,none⟩ with
 | some (.slice _ n _)=>n
 | _=>0
end Go.Proofs.YtjcpamjeekfblaaGreatDoor

namespace Go.Proofs.YtjcpamjeekfblaaGreatDoor
open Go.RowKit Go.Shelf
theorem bytsV_lt (s:ByteArray):∀ x ∈ byts s,x<256:=by
  intro x hx
  obtain ⟨y,-,rfl⟩:=List.mem_map.1 hx
  exact UInt8.toNat_lt y
theorem cellV_lt {w:World} {a:Addr} {v:Value} (h:w.cell? a=some v):a.block<w.heap.size:=World.block_lt_of_cell? w a h
theorem unescF_len:∀ (n:Nat) (l o:List Nat),(∀ x ∈ l,x<256)→unescF n l=some o→o.length≤l.length:=by
  intro n
  induction n with
  | zero =>
    intro l o h e
    cases l with
    | nil=>simp [unescF] at e;subst e;simp
    | cons x r=>simp [unescF] at e
  | succ n ih =>
    intro l o h e
    cases l with
    | nil=>simp [unescF] at e;subst e;simp
    | cons x r =>
      simp only [unescF] at e
      cases hs:stepL (x :: r) with
      | none=>rw [hs] at e;simp at e
      | some p =>
        obtain ⟨k,o1⟩:=p
        rw [hs] at e
        simp only [Option.map_eq_some_iff] at e
        obtain ⟨o2,e1,rfl⟩:=e
        have h1:=stepL_some (by simp) h hs
        have h2:=ih _ _ (fun y hy=>h y (List.mem_of_mem_drop hy)) e1
        rw [List.length_drop] at h2
        rw [List.length_append]
        omega
theorem unS_size (s:ByteArray):(unS s).1.size≤s.size:=by
  unfold unS
  split
  · exact Nat.zero_le _
  · cases e:unescL (byts s) with
    | none=>exact Nat.zero_le _
    | some o =>
      show (mkS o).size≤_
      rw [mkS_size]
      have:=unescF_len _ _ _ (bytsV_lt s) e
      rwa [byts_length] at this
theorem Txt.len {s:ByteArray} {i j:Nat} {T:ByteArray} (h:Txt s i j T):T.size≤s.size:=by
  obtain ⟨-,e,h2,-,rfl⟩:=h
  refine Nat.le_trans (unS_size _) ?_
  rw [ByteArray.size_extract]
  omega
set_option maxRecDepth 10000 in
set_option maxHeartbeats 4000000 in
theorem textP_calls (b g : Nat) (s : ByteArray) (hs : s.size ≤ 1048576) (i j : Nat) (X : ByteArray) (hX : Hid (Txt s i j X)) (w : World) (hP : Hid (PaI b g s i w)) :
    Calls Tryz.prog 141 #[.pointer (some ⟨b,0,none⟩)] w fun e w'=>ParP b g s j (.mk 4 false ⟨#[]⟩ X [] []) w e w':=by
  have hqu:=hid (fun u h=>quoted_calls b g s hs i j X hX u h)
  have hXs:X.size≤capT:=by have:=hX.out.len;unfold capT;omega
  have hlb:=hP.out.at_.lt
  have hlg:=hP.out.tk.lt
  have A0:=hid (At.new w #[.int .i64 0,.bool false,.string ⟨#[]⟩,.string ⟨#[]⟩,.slice none 0 0,.slice none 0 0] 59)
  have q0:Below w.heap.size w (w.alloc (.cells #[.int .i64 0,.bool false,.string ⟨#[]⟩,.string ⟨#[]⟩,.slice none 0 0,.slice none 0 0] 59)):=(Below.refl _ w).alloc (Nat.le_refl _) _
  have P0:=hid (hP.out.kept q0)
  have F0:=hid (PFr.of_below (b:=b) q0)
  have hsz:=hid (show (w.alloc (.cells #[.int .i64 0,.bool false,.string ⟨#[]⟩,.string ⟨#[]⟩,.slice none 0 0,.slice none 0 0] 59)).heap.size=w.heap.size+1 from World.size_alloc _ _)
  obtain ⟨p,hp⟩:∃ p,Hid (w.heap.size=p):=⟨_,rfl⟩
  have hpb:Hid (b≠p):=by show b≠p;have:=hp.out;omega
  have hpg:Hid (g≠p):=by show g≠p;have:=hp.out;omega
  rw [hp.out] at A0 hsz
  clear q0 hlb hlg
  go_enter Tryz.func141,Tryz.ntmps141
  go_upto_region 1 with fail
  rw [hp.out]
  generalize w.alloc (.cells #[.int .i64 0,.bool false,.string ⟨#[]⟩,.string ⟨#[]⟩,.slice none 0 0,.slice none 0 0] 59)=W1 at A0 P0 F0 hsz ⊢
  go_wp2_with fail
  refine Calls.mono (hqu.out W1 P0) ?_
  rintro e W2 ⟨rfl,hP2,hF2⟩
  have A2:=hid (hF2.at_ A0.out (Ne.symm hpb.out))
  have P2:=hid hP2
  have F2:=hid (F0.out.trans hF2)
  clear hqu hP2 hF2 A0 P0 F0
  have d0:=A2.out.cell 0
  have d1:=A2.out.cell 1
  have d2:=A2.out.cell 2
  have d3:=A2.out.cell 3
  have d4:=A2.out.cell 4
  have d5:=A2.out.cell 5
  simp only [List.getElem?_toArray,List.getElem?_cons_zero,List.getElem?_cons_succ] at d0 d1 d2 d3 d4 d5
  have f0:=A2.out.frozen 0
  have f1:=A2.out.frozen 1
  have f2:=A2.out.frozen 2
  have f3:=A2.out.frozen 3
  have f4:=A2.out.frozen 4
  have f5:=A2.out.frozen 5
  go_wp2
  refine ret_val1 (p:=2) rfl rfl (A2.out.six) rfl ?_
  exact ⟨_,rfl,leafOn _ _ _ _ _ _ (by decide) (by first | decide | assumption) (by first | decide | assumption),P2.out.same same_six hpb.out hpg.out,F2.out.six (Nat.le_of_eq hp.out) _ _ _ _ _ _⟩
set_option maxRecDepth 10000 in
set_option maxHeartbeats 4000000 in
theorem numberP_calls (b g : Nat) (s : ByteArray) (hs : s.size ≤ 8388608) (i en : Nat) (hi : i < s.size) (hj : Hid ((readS s i).2.1 = en)) (hie : i < en) (hes : en ≤ s.size) (w : World) (hP : Hid (PaI b g s i w)) :
    Calls Tryz.prog 140 #[.pointer (some ⟨b,0,none⟩)] w fun e w'=>ParP b g s en (.mk 3 false (s.extract i en) ⟨#[]⟩ [] []) w e w':=by
  have hrd:=hid (fun u=>readD_calls s i (by omega) (Nat.le_of_lt hi) u)
  obtain ⟨⟨D,en',er⟩,hD⟩:∃ x,readS s i=x:=⟨_,rfl⟩
  obtain rfl:en=en':=by have:=hj.out;rw [hD] at this;exact this.symm
  simp only [readV,hD] at hrd
  obtain ⟨DN,DD,DX⟩:=D
  dsimp only [decV] at hrd
  generalize (⟨DD.toArray⟩:ByteArray)=TD at hrd
  have hel:(en:Int)≤(s.size:Int):=by omega
  have hii:(i:Int)≤(en:Int):=by omega
  have hsi:(s.size:Int)≤8388608:=by omega
  have hcl:=hid (fun u=>cloneT_calls (s.extract i en) (by rw [ByteArray.size_extract];omega) u)
  have hXs:(s.extract i en).size≤capT:=by rw [ByteArray.size_extract];unfold capT;omega
  clear hD hj
  have hlb:=hP.out.at_.lt
  have hlg:=hP.out.tk.lt
  have A0:=hid (At.new w #[.int .i64 0,.bool false,.string ⟨#[]⟩,.string ⟨#[]⟩,.slice none 0 0,.slice none 0 0] 59)
  have q0:Below w.heap.size w (w.alloc (.cells #[.int .i64 0,.bool false,.string ⟨#[]⟩,.string ⟨#[]⟩,.slice none 0 0,.slice none 0 0] 59)):=(Below.refl _ w).alloc (Nat.le_refl _) _
  have P0:=hid (hP.out.kept q0)
  have F0:=hid (PFr.of_below (b:=b) q0)
  have hsz:=hid (show (w.alloc (.cells #[.int .i64 0,.bool false,.string ⟨#[]⟩,.string ⟨#[]⟩,.slice none 0 0,.slice none 0 0] 59)).heap.size=w.heap.size+1 from World.size_alloc _ _)
  obtain ⟨p,hp⟩:∃ p,Hid (w.heap.size=p):=⟨_,rfl⟩
  have hpb:Hid (b≠p):=by show b≠p;have:=hp.out;omega
  have hpg:Hid (g≠p):=by show g≠p;have:=hp.out;omega
  rw [hp.out] at A0 hsz
  clear q0 hlb hlg
  go_enter Tryz.func140,Tryz.ntmps140
  go_upto_region 1 with fail
  rw [hp.out]
  generalize w.alloc (.cells #[.int .i64 0,.bool false,.string ⟨#[]⟩,.string ⟨#[]⟩,.slice none 0 0,.slice none 0 0] 59)=W1 at A0 P0 F0 hsz ⊢
  have hcell:Hid (∀ {u:World},Below W1.heap.size W1 u→u.cell? ⟨b,0,none⟩=some (.string s)∧u.cell? ⟨b,1,none⟩=some (.int .i64 (i:Int))):=fun h=>⟨(P0.out.kept h).at_.cell 0,(P0.out.kept h).at_.cell 1⟩
  have q0:=hid (show Below W1.heap.size W1 W1.drew from (Below.refl _ _).drew)
  have hx0:=hcell.out q0.out
  go_wp2
  refine wp_region_held_drew (S:=fun w'=>w'.cell? ⟨b,0,none⟩=some (.string s)∧w'.cell? ⟨b,1,none⟩=some (.int .i64 (i:Int))) (by kernel_rfl) hx0 (fun hHeld=>?_)
  clear hHeld
  obtain ⟨v0,ev0⟩:∃ v,W1.drew=v:=⟨_,rfl⟩
  rw [ev0] at q0 hx0 ⊢
  clear ev0
  (refine' wpAnyH_take (i:=0) rfl (by kernel_rfl) (by kernel_rfl) (by kernel_rfl) (fun _ _ _ h=>h) (Or.inl ⟨by rfl,?_⟩) (by assumption) ?_;rotate_left;(· (intro wq hq;(try dsimp only at hq);go_simp;first | done | with_reducible rfl));simp only [psA])
  (refine' wpAnyH_take (i:=1) rfl (by kernel_rfl) (by kernel_rfl) (by kernel_rfl) (fun _ _ _ h=>h) (Or.inl ⟨by rfl,?_⟩) (by assumption) ?_;rotate_left;(· (intro wq hq;(try dsimp only at hq);go_simp;first | done | with_reducible rfl));simp only [psA])
  (refine' wpAnyH_take (i:=2) rfl (by kernel_rfl) (by kernel_rfl) (by kernel_rfl) (fun _ _ _ h=>h) (Or.inl ⟨by rfl,?_⟩) (by assumption) ?_;rotate_left;(· (intro wq hq;(try dsimp only at hq);go_simp;first | done | with_reducible rfl));simp only [psA])
  (refine' wpAnyH_take (i:=3) rfl (by kernel_rfl) (by kernel_rfl) (by kernel_rfl) (fun _ _ _ h=>h) (Or.inl ⟨by rfl,?_⟩) (by assumption) ?_;rotate_left;(· (intro wq hq;(try dsimp only at hq);go_simp;first | done | with_reducible rfl));simp only [psA])
  (refine' wpAnyH_take (i:=4) rfl (by kernel_rfl) (by kernel_rfl) (by kernel_rfl) (fun _ _ _ h=>h) (Or.inl ⟨by rfl,?_⟩) (by assumption) ?_;rotate_left;(· (intro wq hq;(try dsimp only at hq);go_simp;first | done | with_reducible rfl));simp only [psA])
  (refine' wpAnyH_take (i:=5) rfl (by kernel_rfl) (by kernel_rfl) (by kernel_rfl) (fun _ _ _ h=>h) (Or.inl ⟨by rfl,?_⟩) (by assumption) ?_;rotate_left;(· (intro wq hq;(try dsimp only at hq);go_simp;first | done | with_reducible rfl));simp only [psA])
  (refine' wpAnyH_take (i:=6) rfl (by kernel_rfl) (by kernel_rfl) (by kernel_rfl) (fun _ _ _ h=>h) (Or.inl ⟨by rfl,?_⟩) (by assumption) ?_;rotate_left;(· (intro wq hq;(try dsimp only at hq);go_simp;first | done | with_reducible rfl));simp only [psA])
  (refine' wpAnyH_take (i:=7) rfl (by kernel_rfl) (by kernel_rfl) (by kernel_rfl) (fun _ _ _ h=>h) (Or.inl ⟨by rfl,?_⟩) (by assumption) ?_;rotate_left;(· (intro wq hq;(try dsimp only at hq);go_simp;first | done | with_reducible rfl));simp only [psA])
  refine wpAnyH_ready (rs:=[8,13]) (by kernel_rfl) (by simp) ?_
  refine AllReadyH.cons rfl (fun K hK=>?_) ?_
  · rw [if_pos (by rfl)]
    go_simp
    refine Calls.mono (hrd.out _) ?_
    rintro e v1 ⟨rfl,q1⟩
    have b1:=hid (q0.out.trans (q1.mono q0.out.size))
    refine hK.out _ _ (hcell.out b1.out) (fun _=>?_)
    clear hK K hrd
    (refine' wpAnyH_take (i:=9) rfl (by kernel_rfl) (by kernel_rfl) (by kernel_rfl) (fun _ _ _ h=>h) (Or.inl ⟨by rfl,?_⟩) (by assumption) ?_;rotate_left;(· (intro wq hq;(try dsimp only at hq);go_simp;first | done | with_reducible rfl));simp only [psA])
    (refine' wpAnyH_take (i:=10) rfl (by kernel_rfl) (by kernel_rfl) (by kernel_rfl) (fun _ _ _ h=>h) (Or.inl ⟨by rfl,?_⟩) (by assumption) ?_;rotate_left;(· (intro wq hq;(try dsimp only at hq);go_simp;first | done | with_reducible rfl));simp only [psA])
    (refine' wpAnyH_take (i:=11) rfl (by kernel_rfl) (by kernel_rfl) (by kernel_rfl) (fun _ _ _ h=>h) (Or.inl ⟨by rfl,?_⟩) (by assumption) ?_;rotate_left;(· (intro wq hq;(try dsimp only at hq);go_simp;first | done | with_reducible rfl));simp only [psA])
    (refine' wpAnyH_take (i:=12) rfl (by kernel_rfl) (by kernel_rfl) (by kernel_rfl) (fun _ _ _ h=>h) (Or.inl ⟨by rfl,?_⟩) (by assumption) ?_;rotate_left;(· (intro wq hq;(try dsimp only at hq);go_simp;first | done | with_reducible rfl));simp only [psA])
    refine wpAnyH_ready (rs:=[13]) (by kernel_rfl) (by simp) ?_
    refine AllReadyH.cons rfl (fun K hK=>?_) ?_
    · go_simp
      obtain ⟨v2,e2⟩:∃ v,World.alloc v1 (.cells #[.bool false,.string ⟨#[]⟩,.int .i64 0] 170)=v:=⟨_,rfl⟩
      have q2:Below v1.heap.size v1 v2:=by rw [← e2];exact (Below.refl _ _).alloc (Nat.le_refl _) _
      have hp0:=hid (show At v2 v1.heap.size #[.bool false,.string ⟨#[]⟩,.int .i64 0] 170 by rw [← e2];exact At.new v1 _ _)
      have hnb:=hid (show W1.heap.size≤v1.heap.size from b1.out.size)
      rw [e2]
      clear e2
      have b2:=hid (b1.out.trans (q2.mono b1.out.size))
      refine hK.out _ _ (hcell.out b2.out) (fun _=>?_)
      clear hK K b1 q2 q1
      have d0:v2.cell? ⟨v1.heap.size,0,none⟩=some (.bool false):=hp0.out.cell 0
      have d1:v2.cell? ⟨v1.heap.size,1,none⟩=some (.string ⟨#[]⟩):=hp0.out.cell 1
      have d2:v2.cell? ⟨v1.heap.size,2,none⟩=some (.int .i64 0):=hp0.out.cell 2
      have f0:=hp0.out.frozen 0
      have f1:=hp0.out.frozen 1
      have f2:=hp0.out.frozen 2
      have b3:=hid (show Below W1.heap.size W1 (((v2.setCell ⟨v1.heap.size,0,none⟩ (.bool DN)).setCell ⟨v1.heap.size,1,none⟩ (.string TD)).setCell ⟨v1.heap.size,2,none⟩ (.int .i64 DX)) from ((b2.out.setCell (p:=⟨v1.heap.size,0,none⟩) hnb.out _).setCell (p:=⟨v1.heap.size,1,none⟩) hnb.out _).setCell (p:=⟨v1.heap.size,2,none⟩) hnb.out _)
      have hy3:=hid (hcell.out b3.out)
      refine wpAnyH_ready (rs:=[14]) (by kernel_rfl) (by simp) ?_
      refine AllReadyH.cons rfl (fun K hK=>?_) ?_
      · go_simp
        refine hK.out _ _ hy3.out (fun _=>?_)
        clear hK K d0 d1 d2 f0 f1 f2
        (refine' wpAnyH_take (i:=15) rfl (by kernel_rfl) (by kernel_rfl) (by kernel_rfl) (fun _ _ _ h=>h) (Or.inl ⟨by rfl,?_⟩) (by assumption) ?_;rotate_left;(· (intro wq hq;(try dsimp only at hq);go_simp;first | done | with_reducible rfl));simp only [psA])
        (refine' wpAnyH_take (i:=16) rfl (by kernel_rfl) (by kernel_rfl) (by kernel_rfl) (fun _ _ _ h=>h) (Or.inl ⟨by rfl,?_⟩) (by assumption) ?_;rotate_left;(· (intro wq hq;(try dsimp only at hq);go_simp;first | done | with_reducible rfl));simp only [psA])
        refine wpAnyH_done (by kernel_rfl) ?_ _
        have A1:=hid (A0.out.keptAll b3.out)
        have P1:=hid (P0.out.kept b3.out)
        have F1:=hid (F0.out.trans (PFr.of_below b3.out))
        clear hy3 b3 hp0 hnb b2
        generalize ((v2.setCell ⟨v1.heap.size,0,none⟩ (.bool DN)).setCell ⟨v1.heap.size,1,none⟩ (.string TD)).setCell ⟨v1.heap.size,2,none⟩ (.int .i64 DX)=W3 at *
        have c0:W3.cell? ⟨b,0,none⟩=some (.string s):=P1.out.at_.cell 0
        have c1:W3.cell? ⟨b,1,none⟩=some (.int .i64 (i:Int)):=P1.out.at_.cell 1
        go_wp2
        refine wp_region_quiet (C:=(fun w'=>w'.cell? ⟨b,0,none⟩=some (.string s)∧w'.cell? ⟨b,1,none⟩=some (.int .i64 (i:Int))∧Below W3.heap.size W3 w')) (by kernel_rfl) (by kernel_rfl) (⟨c0,c1,(Below.refl _ _).drew⟩) ?_
        dsimp only
        repeat (first
          | (refine wpQuiet_skip (by rfl) ?_;simp only [psA])
          | (refine' wpQuiet_take (by rfl) ?_ ?_
             rotate_left
             · (intro wq hq;(try dsimp only at hq);go_simp
                first
                  | done
                  | with_reducible rfl
                  | (go_at_call 61;have hzz:=hcl.out wq;with_reducible refine hzz.mono ?_;clear hzz;rintro e wz ⟨rfl,hb⟩;exact ⟨rfl,(hb.cell (p:=⟨b,0,none⟩) (cellV_lt hq.1)).trans hq.1,(hb.cell (p:=⟨b,1,none⟩) (cellV_lt hq.2.1)).trans hq.2.1,hq.2.2.trans (hb.mono hq.2.2.size)⟩)
               )
             simp only [psA]))
        refine wpQuiet_nil ?_
        intro W4 hw4
        have A3:=hid (A1.out.keptAll hw4.2.2)
        have P3:=hid (P1.out.kept hw4.2.2)
        have F3:=hid (F1.out.trans (PFr.of_below hw4.2.2))
        clear hw4 c0 c1 A1 P1 F1 hcl
        have c1:W4.cell? ⟨b,1,none⟩=some (.int .i64 (i:Int)):=P3.out.at_.cell 1
        have g1:=P3.out.at_.frozen 1
        have A2:=hid (A3.out.other (p:=⟨b,1,none⟩) (Ne.symm hpb.out) (.int .i64 (en:Int)))
        have P2:=hid (P3.out.go (en:Int) en rfl)
        have F2:=hid (F3.out.set 1 (.int .i64 (en:Int)))
        go_upto_region 4 with fail
        generalize W4.setCell ⟨b,1,none⟩ (.int .i64 (en:Int))=W5 at A2 P2 F2 ⊢
        clear c1 g1 A3 P3 F3
        have d0:=A2.out.cell 0
        have d1:=A2.out.cell 1
        have d2:=A2.out.cell 2
        have d3:=A2.out.cell 3
        have d4:=A2.out.cell 4
        have d5:=A2.out.cell 5
        simp only [List.getElem?_toArray,List.getElem?_cons_zero,List.getElem?_cons_succ] at d0 d1 d2 d3 d4 d5
        have f0:=A2.out.frozen 0
        have f1:=A2.out.frozen 1
        have f2:=A2.out.frozen 2
        have f3:=A2.out.frozen 3
        have f4:=A2.out.frozen 4
        have f5:=A2.out.frozen 5
        go_wp2
        refine ret_val1 (p:=2) rfl rfl (A2.out.six) rfl ?_
        exact ⟨_,rfl,leafOn _ _ _ _ _ _ (by decide) (by first | decide | assumption) (by first | decide | assumption),P2.out.same same_six hpb.out hpg.out,F2.out.six (Nat.le_of_eq hp.out) _ _ _ _ _ _⟩
      exact AllReadyH.nil
    exact AllReadyH.nil
  refine AllReadyH.cons rfl (fun K hK=>?_) ?_
  · go_simp
    obtain ⟨v1,e1⟩:∃ v,World.alloc v0 (.cells #[.bool false,.string ⟨#[]⟩,.int .i64 0] 170)=v:=⟨_,rfl⟩
    have q1:Below v0.heap.size v0 v1:=by rw [← e1];exact (Below.refl _ _).alloc (Nat.le_refl _) _
    have hpA:=hid (show At v1 v0.heap.size #[.bool false,.string ⟨#[]⟩,.int .i64 0] 170 by rw [← e1];exact At.new v0 _ _)
    have hnb:=hid (show W1.heap.size≤v0.heap.size from q0.out.size)
    rw [e1]
    clear e1
    have b1:=hid (q0.out.trans (q1.mono q0.out.size))
    refine hK.out _ _ (hcell.out b1.out) (fun _=>?_)
    clear hK K q1
    refine wpAnyH_ready (rs:=[8]) (by kernel_rfl) (by simp) ?_
    refine AllReadyH.cons rfl (fun K hK=>?_) ?_
    · rw [if_pos (by rfl)]
      go_simp
      refine Calls.mono (hrd.out _) ?_
      rintro e v2 ⟨rfl,q2⟩
      have hp0:=hid (hpA.out.keptAll q2)
      have b2:=hid (b1.out.trans (q2.mono b1.out.size))
      refine hK.out _ _ (hcell.out b2.out) (fun _=>?_)
      clear hK K hrd b1 q2 hpA
      (refine' wpAnyH_take (i:=9) rfl (by kernel_rfl) (by kernel_rfl) (by kernel_rfl) (fun _ _ _ h=>h) (Or.inl ⟨by rfl,?_⟩) (by assumption) ?_;rotate_left;(· (intro wq hq;(try dsimp only at hq);go_simp;first | done | with_reducible rfl));simp only [psA])
      (refine' wpAnyH_take (i:=10) rfl (by kernel_rfl) (by kernel_rfl) (by kernel_rfl) (fun _ _ _ h=>h) (Or.inl ⟨by rfl,?_⟩) (by assumption) ?_;rotate_left;(· (intro wq hq;(try dsimp only at hq);go_simp;first | done | with_reducible rfl));simp only [psA])
      (refine' wpAnyH_take (i:=11) rfl (by kernel_rfl) (by kernel_rfl) (by kernel_rfl) (fun _ _ _ h=>h) (Or.inl ⟨by rfl,?_⟩) (by assumption) ?_;rotate_left;(· (intro wq hq;(try dsimp only at hq);go_simp;first | done | with_reducible rfl));simp only [psA])
      (refine' wpAnyH_take (i:=12) rfl (by kernel_rfl) (by kernel_rfl) (by kernel_rfl) (fun _ _ _ h=>h) (Or.inl ⟨by rfl,?_⟩) (by assumption) ?_;rotate_left;(· (intro wq hq;(try dsimp only at hq);go_simp;first | done | with_reducible rfl));simp only [psA])
      have d0:v2.cell? ⟨v0.heap.size,0,none⟩=some (.bool false):=hp0.out.cell 0
      have d1:v2.cell? ⟨v0.heap.size,1,none⟩=some (.string ⟨#[]⟩):=hp0.out.cell 1
      have d2:v2.cell? ⟨v0.heap.size,2,none⟩=some (.int .i64 0):=hp0.out.cell 2
      have f0:=hp0.out.frozen 0
      have f1:=hp0.out.frozen 1
      have f2:=hp0.out.frozen 2
      have b3:=hid (show Below W1.heap.size W1 (((v2.setCell ⟨v0.heap.size,0,none⟩ (.bool DN)).setCell ⟨v0.heap.size,1,none⟩ (.string TD)).setCell ⟨v0.heap.size,2,none⟩ (.int .i64 DX)) from ((b2.out.setCell (p:=⟨v0.heap.size,0,none⟩) hnb.out _).setCell (p:=⟨v0.heap.size,1,none⟩) hnb.out _).setCell (p:=⟨v0.heap.size,2,none⟩) hnb.out _)
      have hy3:=hid (hcell.out b3.out)
      refine wpAnyH_ready (rs:=[14]) (by kernel_rfl) (by simp) ?_
      refine AllReadyH.cons rfl (fun K hK=>?_) ?_
      · go_simp
        refine hK.out _ _ hy3.out (fun _=>?_)
        clear hK K d0 d1 d2 f0 f1 f2
        (refine' wpAnyH_take (i:=15) rfl (by kernel_rfl) (by kernel_rfl) (by kernel_rfl) (fun _ _ _ h=>h) (Or.inl ⟨by rfl,?_⟩) (by assumption) ?_;rotate_left;(· (intro wq hq;(try dsimp only at hq);go_simp;first | done | with_reducible rfl));simp only [psA])
        (refine' wpAnyH_take (i:=16) rfl (by kernel_rfl) (by kernel_rfl) (by kernel_rfl) (fun _ _ _ h=>h) (Or.inl ⟨by rfl,?_⟩) (by assumption) ?_;rotate_left;(· (intro wq hq;(try dsimp only at hq);go_simp;first | done | with_reducible rfl));simp only [psA])
        refine wpAnyH_done (by kernel_rfl) ?_ _
        have A1:=hid (A0.out.keptAll b3.out)
        have P1:=hid (P0.out.kept b3.out)
        have F1:=hid (F0.out.trans (PFr.of_below b3.out))
        clear hy3 b3 hp0 hnb b2
        generalize ((v2.setCell ⟨v0.heap.size,0,none⟩ (.bool DN)).setCell ⟨v0.heap.size,1,none⟩ (.string TD)).setCell ⟨v0.heap.size,2,none⟩ (.int .i64 DX)=W3 at *
        have c0:W3.cell? ⟨b,0,none⟩=some (.string s):=P1.out.at_.cell 0
        have c1:W3.cell? ⟨b,1,none⟩=some (.int .i64 (i:Int)):=P1.out.at_.cell 1
        go_wp2
        refine wp_region_quiet (C:=(fun w'=>w'.cell? ⟨b,0,none⟩=some (.string s)∧w'.cell? ⟨b,1,none⟩=some (.int .i64 (i:Int))∧Below W3.heap.size W3 w')) (by kernel_rfl) (by kernel_rfl) (⟨c0,c1,(Below.refl _ _).drew⟩) ?_
        dsimp only
        repeat (first
          | (refine wpQuiet_skip (by rfl) ?_;simp only [psA])
          | (refine' wpQuiet_take (by rfl) ?_ ?_
             rotate_left
             · (intro wq hq;(try dsimp only at hq);go_simp
                first
                  | done
                  | with_reducible rfl
                  | (go_at_call 61;have hzz:=hcl.out wq;with_reducible refine hzz.mono ?_;clear hzz;rintro e wz ⟨rfl,hb⟩;exact ⟨rfl,(hb.cell (p:=⟨b,0,none⟩) (cellV_lt hq.1)).trans hq.1,(hb.cell (p:=⟨b,1,none⟩) (cellV_lt hq.2.1)).trans hq.2.1,hq.2.2.trans (hb.mono hq.2.2.size)⟩)
               )
             simp only [psA]))
        refine wpQuiet_nil ?_
        intro W4 hw4
        have A3:=hid (A1.out.keptAll hw4.2.2)
        have P3:=hid (P1.out.kept hw4.2.2)
        have F3:=hid (F1.out.trans (PFr.of_below hw4.2.2))
        clear hw4 c0 c1 A1 P1 F1 hcl
        have c1:W4.cell? ⟨b,1,none⟩=some (.int .i64 (i:Int)):=P3.out.at_.cell 1
        have g1:=P3.out.at_.frozen 1
        have A2:=hid (A3.out.other (p:=⟨b,1,none⟩) (Ne.symm hpb.out) (.int .i64 (en:Int)))
        have P2:=hid (P3.out.go (en:Int) en rfl)
        have F2:=hid (F3.out.set 1 (.int .i64 (en:Int)))
        go_upto_region 4 with fail
        generalize W4.setCell ⟨b,1,none⟩ (.int .i64 (en:Int))=W5 at A2 P2 F2 ⊢
        clear c1 g1 A3 P3 F3
        have d0:=A2.out.cell 0
        have d1:=A2.out.cell 1
        have d2:=A2.out.cell 2
        have d3:=A2.out.cell 3
        have d4:=A2.out.cell 4
        have d5:=A2.out.cell 5
        simp only [List.getElem?_toArray,List.getElem?_cons_zero,List.getElem?_cons_succ] at d0 d1 d2 d3 d4 d5
        have f0:=A2.out.frozen 0
        have f1:=A2.out.frozen 1
        have f2:=A2.out.frozen 2
        have f3:=A2.out.frozen 3
        have f4:=A2.out.frozen 4
        have f5:=A2.out.frozen 5
        go_wp2
        refine ret_val1 (p:=2) rfl rfl (A2.out.six) rfl ?_
        exact ⟨_,rfl,leafOn _ _ _ _ _ _ (by decide) (by first | decide | assumption) (by first | decide | assumption),P2.out.same same_six hpb.out hpg.out,F2.out.six (Nat.le_of_eq hp.out) _ _ _ _ _ _⟩
      exact AllReadyH.nil
    exact AllReadyH.nil
  exact AllReadyH.nil
set_option maxRecDepth 10000 in
set_option maxHeartbeats 4000000 in
theorem valueP_g (b g : Nat) (s : ByteArray) (hs : s.size ≤ 281474976710656) (i k j : Nat) (t : Vt) (hk : Hid (IsSkip s i k)) (hks : k < s.size) (n F : Nat) (hn : n < 7) (hc : Hid (kindC (byteAt s k) = (n : Int))) (htk : (takesC b)[n]? = some (.func (.func F) #[.pointer (some ⟨b, 0, none⟩)] #[])) (he : ∀ (args : Array Value) (u : World), (callFunc F args).run Tryz.prog u = .ok (.enter F args) u)
    (hcall:Hid (∀ u,Hid (PaI b g s k u)→Calls Tryz.prog F #[.pointer (some ⟨b,0,none⟩)] u fun e w'=>ParP b g s j t u e w')) (w:World) (hP:Hid (PaI b g s i w)) :
    Calls Tryz.prog 126 #[.pointer (some ⟨b,0,none⟩)] w fun e w'=>ParP b g s j t w e w':=by
  have hbl:=hid (fun u h=>blanksP_calls b g s hs i k hk hks u h)
  have hkd:=hid (fun u=>kind17_calls (byteAt s k) u)
  rw [hc.out] at hkd
  obtain ⟨y,hY⟩:∃ y,Hid (byteAt s k=y):=⟨_,rfl⟩
  have hy:=byteAt_eq s k hks
  rw [hY.out] at hy hkd
  have hki:(k:Int)<(s.size:Int):=by omega
  have hni:(n:Int)<7:=by omega
  have htk':=hid htk
  clear htk
  have hlb:=hP.out.at_.lt
  have hlg:=hP.out.tk.lt
  have A0:=hid (At.new w #[.int .i64 0,.bool false,.string ⟨#[]⟩,.string ⟨#[]⟩,.slice none 0 0,.slice none 0 0] 59)
  have q0:Below w.heap.size w (w.alloc (.cells #[.int .i64 0,.bool false,.string ⟨#[]⟩,.string ⟨#[]⟩,.slice none 0 0,.slice none 0 0] 59)):=(Below.refl _ w).alloc (Nat.le_refl _) _
  have P0:=hid (hP.out.kept q0)
  have F0:=hid (PFr.of_below (b:=b) q0)
  have hsz:=hid (show (w.alloc (.cells #[.int .i64 0,.bool false,.string ⟨#[]⟩,.string ⟨#[]⟩,.slice none 0 0,.slice none 0 0] 59)).heap.size=w.heap.size+1 from World.size_alloc _ _)
  obtain ⟨p,hp⟩:∃ p,Hid (w.heap.size=p):=⟨_,rfl⟩
  have hpb:Hid (b≠p):=by show b≠p;have:=hp.out;omega
  have hpg:Hid (g≠p):=by show g≠p;have:=hp.out;omega
  rw [hp.out] at A0 hsz
  clear q0 hlb hlg
  go_enter Tryz.func126,Tryz.ntmps126
  go_upto_region 1 with fail
  rw [hp.out]
  generalize w.alloc (.cells #[.int .i64 0,.bool false,.string ⟨#[]⟩,.string ⟨#[]⟩,.slice none 0 0,.slice none 0 0] 59)=W1 at A0 P0 F0 hsz ⊢
  go_wp2_with fail
  refine Calls.mono (hbl.out W1 P0) ?_
  rintro e W2 ⟨rfl,hP2,hF2⟩
  have A1:=hid (hF2.at_ A0.out (Ne.symm hpb.out))
  have P1:=hid hP2
  have hF2':=hid hF2
  have F1:=hid (F0.out.trans hF2)
  have hsz2:Hid (p<W2.heap.size):=by have h1:=hF2.size;have h2:=hsz.out;show _<_;omega
  clear hbl hP2 hF2 hF2' A0 P0 F0 hsz hP
  go_upto_region 2 with fail
  have hx0:W2.drew.cell? ⟨b,0,none⟩=some (.string s)∧W2.drew.cell? ⟨b,2,none⟩=some (.slice (some ⟨g,0,none⟩) 7 7)∧W2.drew.cell? ⟨g,n,none⟩=some (.func (.func F) #[.pointer (some ⟨b,0,none⟩)] #[]):=⟨P1.out.at_.cell 0,P1.out.at_.cell 2,(P1.out.tk.cell n).trans htk'.out⟩
  have q0:=hid (show Below W2.heap.size W2 W2.drew from (Below.refl _ _).drew)
  have P2:=hid (P1.out.kept q0.out)
  have A2:=hid (A1.out.keptAll q0.out)
  have F2:=hid (F1.out.trans (PFr.of_below q0.out))
  have hsz3:Hid (p<W2.drew.heap.size):=hsz2.out
  refine wp_region_held_drew (S:=fun w'=>w'.cell? ⟨b,0,none⟩=some (.string s)∧w'.cell? ⟨b,2,none⟩=some (.slice (some ⟨g,0,none⟩) 7 7)∧w'.cell? ⟨g,n,none⟩=some (.func (.func F) #[.pointer (some ⟨b,0,none⟩)] #[])) (by kernel_rfl) hx0 (fun hHeld=>?_)
  clear hHeld q0 P1 A1 F1 hsz2
  generalize W2.drew=v0 at *
  (refine' wpAnyH_take (i:=0) rfl (by kernel_rfl) (by kernel_rfl) (by kernel_rfl) (fun _ _ _ h=>h) (Or.inl ⟨by rfl,?_⟩) (by assumption) ?_;rotate_left;(· (intro wq hq;(try dsimp only at hq);go_simp;first | done | with_reducible rfl));simp only [psA])
  (refine' wpAnyH_take (i:=1) rfl (by kernel_rfl) (by kernel_rfl) (by kernel_rfl) (fun _ _ _ h=>h) (Or.inl ⟨by rfl,?_⟩) (by assumption) ?_;rotate_left;(· (intro wq hq;(try dsimp only at hq);go_simp;first | done | with_reducible rfl));simp only [psA])
  (refine' wpAnyH_take (i:=2) rfl (by kernel_rfl) (by kernel_rfl) (by kernel_rfl) (fun _ _ _ h=>h) (Or.inl ⟨by rfl,?_⟩) (by assumption) ?_;rotate_left;(· (intro wq hq;(try dsimp only at hq);go_simp;first | done | with_reducible rfl));simp only [psA])
  (refine' wpAnyH_take (i:=3) rfl (by kernel_rfl) (by kernel_rfl) (by kernel_rfl) (fun _ _ _ h=>h) (Or.inl ⟨by rfl,?_⟩) (by assumption) ?_;rotate_left;(· (intro wq hq;(try dsimp only at hq);go_simp;first | done | with_reducible rfl));simp only [psA])
  (refine' wpAnyH_take (i:=4) rfl (by kernel_rfl) (by kernel_rfl) (by kernel_rfl) (fun _ _ _ h=>h) (Or.inl ⟨by rfl,?_⟩) (by assumption) ?_;rotate_left;(· (intro wq hq;(try dsimp only at hq);go_simp;first | done | with_reducible rfl));simp only [psA])
  (refine' wpAnyH_take (i:=5) rfl (by kernel_rfl) (by kernel_rfl) (by kernel_rfl) (fun _ _ _ h=>h) (Or.inl ⟨by rfl,?_⟩) (by assumption) ?_;rotate_left;(· (intro wq hq;(try dsimp only at hq);go_simp;first | done | with_reducible rfl));simp only [psA])
  (refine' wpAnyH_take (i:=6) rfl (by kernel_rfl) (by kernel_rfl) (by kernel_rfl) (fun _ _ _ h=>h) (Or.inl ⟨by rfl,?_⟩) (by assumption) ?_;rotate_left;(· (intro wq hq;(try dsimp only at hq);go_simp;first | done | with_reducible rfl));simp only [psA])
  (refine' wpAnyH_take (i:=7) rfl (by kernel_rfl) (by kernel_rfl) (by kernel_rfl) (fun _ _ _ h=>h) (Or.inl ⟨by rfl,?_⟩) (by assumption) ?_;rotate_left;(· (intro wq hq;(try dsimp only at hq);go_simp;first | done | with_reducible rfl));simp only [psA])
  (refine' wpAnyH_take (i:=8) rfl (by kernel_rfl) (by kernel_rfl) (by kernel_rfl) (fun _ _ _ h=>h) (Or.inl ⟨by rfl,?_⟩) (by assumption) ?_;rotate_left;(· (intro wq hq;(try dsimp only at hq);go_simp;first | done | with_reducible rfl));simp only [psA])
  (refine' wpAnyH_take (i:=9) rfl (by kernel_rfl) (by kernel_rfl) (by kernel_rfl) (fun _ _ _ h=>h) (Or.inl ⟨by rfl,?_⟩) (by assumption) ?_;rotate_left;(· (intro wq hq;(try dsimp only at hq);go_simp;first | done | with_reducible rfl));simp only [psA])
  (refine' wpAnyH_take (i:=10) rfl (by kernel_rfl) (by kernel_rfl) (by kernel_rfl) (fun _ _ _ h=>h) (Or.inl ⟨by rfl,?_⟩) (by assumption) ?_;rotate_left;(· (intro wq hq;(try dsimp only at hq);go_simp;first | done | with_reducible rfl));simp only [psA])
  refine wpAnyH_ready (rs:=[11]) (by kernel_rfl) (by simp) ?_
  refine AllReadyH.cons rfl (fun K hK=>?_) ?_
  · have c1:v0.cell? ⟨b,1,none⟩=some (.int .i64 (k:Int)):=P2.out.at_.cell 1
    go_simp
    refine hK.out _ _ hx0 (fun _=>?_)
    clear hK K c1
    (refine' wpAnyH_take (i:=12) rfl (by kernel_rfl) (by kernel_rfl) (by kernel_rfl) (fun _ _ _ h=>h) (Or.inl ⟨by rfl,?_⟩) (by assumption) ?_;rotate_left;(· (intro wq hq;(try dsimp only at hq);go_simp;first | done | with_reducible rfl));simp only [psA])
    refine wpAnyH_ready (rs:=[13]) (by kernel_rfl) (by simp) ?_
    refine AllReadyH.cons rfl (fun K hK=>?_) ?_
    · rw [if_pos (by rfl)]
      go_simp
      refine Calls.mono (hkd.out _) ?_
      rintro e v1 ⟨rfl,hv1⟩
      rw [hv1]
      refine hK.out _ _ hx0 (fun _=>?_)
      clear hK K hv1 hkd
      (refine' wpAnyH_take (i:=14) rfl (by kernel_rfl) (by kernel_rfl) (by kernel_rfl) (fun _ _ _ h=>h) (Or.inl ⟨by rfl,?_⟩) (by assumption) ?_;rotate_left;(· (intro wq hq;(try dsimp only at hq);go_simp;first | done | with_reducible rfl));simp only [psA])
      (refine' wpAnyH_take (i:=15) rfl (by kernel_rfl) (by kernel_rfl) (by kernel_rfl) (fun _ _ _ h=>h) (Or.inl ⟨by rfl,?_⟩) (by assumption) ?_;rotate_left;(· (intro wq hq;(try dsimp only at hq);go_simp;first | done | with_reducible rfl));simp only [psA])
      refine wpAnyH_ready (rs:=[16]) (by kernel_rfl) (by simp) ?_
      refine AllReadyH.cons rfl (fun K hK=>?_) ?_
      · rw [if_pos (by rfl)]
        go_simp
        refine Calls.mono (hcall.out v0 P2) ?_
        rintro e v2 ⟨x,rfl,hV,hP3,hF3⟩
        obtain ⟨ko,kc,vo,vc,rfl⟩:=hV.six
        have A3:=hid (hF3.at_ A2.out (Ne.symm hpb.out))
        have P3:=hid hP3
        have F3:=hid (F2.out.trans hF3)
        have V3:=hid hV
        have hp3:Hid (p<v2.heap.size):=by have:=hF3.size;have:=hsz3.out;show _<_;omega
        refine hK.out _ _ ⟨hP3.at_.cell 0,hP3.at_.cell 2,(hP3.tk.cell n).trans htk'.out⟩ (fun _=>?_)
        clear hK K hcall hV hP3 hF3 hx0 A2 P2 F2
        have d0:=A3.out.cell 0
        have d1:=A3.out.cell 1
        have d2:=A3.out.cell 2
        have d3:=A3.out.cell 3
        have d4:=A3.out.cell 4
        have d5:=A3.out.cell 5
        simp only [List.getElem?_toArray,List.getElem?_cons_zero,List.getElem?_cons_succ] at d0 d1 d2 d3 d4 d5
        have f0:=A3.out.frozen 0
        have f1:=A3.out.frozen 1
        have f2:=A3.out.frozen 2
        have f3:=A3.out.frozen 3
        have f4:=A3.out.frozen 4
        have f5:=A3.out.frozen 5
        refine wpAnyH_ready (rs:=[17]) (by kernel_rfl) (by simp) ?_
        refine AllReadyH.cons rfl (fun K hK=>?_) ?_
        · go_simp
          have P4:=hid (P3.out.same (same_six (y0:=.int .i64 t.kind) (y1:=.bool t.b) (y2:=.string t.raw) (y3:=.string t.text) (y4:=.slice ko t.keys.length kc) (y5:=.slice vo t.kids.length vc)) hpb.out hpg.out)
          refine hK.out _ _ ⟨P4.out.at_.cell 0,P4.out.at_.cell 2,(P4.out.tk.cell n).trans htk'.out⟩ (fun _=>?_)
          clear hK K d0 d1 d2 d3 d4 d5 f0 f1 f2 f3 f4 f5
          refine wpAnyH_done (by kernel_rfl) ?_ _
          go_wp2
          refine ret_val1 (p:=2) rfl rfl (A3.out.six) rfl ?_
          have hv0:=hsz3.out
          have hp0:=hp.out
          refine ⟨_,rfl,V3.out.kept (fun c _ hc=>?_) ⟨same_six.1,fun c hc hl=>same_six.2 c ?_ hl⟩,P4.out,F3.out.six (Nat.le_of_eq hp.out) _ _ _ _ _ _⟩
          · omega
          · show c≠p
            omega
        exact AllReadyH.nil
      exact AllReadyH.nil
    exact AllReadyH.nil
  exact AllReadyH.nil
theorem valueP_k1 (b g : Nat) (s : ByteArray) (hs : s.size ≤ 281474976710656) (i k j : Nat) (t : Vt) (hk : Hid (IsSkip s i k)) (hks : k < s.size) (hc : Hid (kindC (byteAt s k) = 1))
    (hcall:Hid (∀ u,Hid (PaI b g s k u)→Calls Tryz.prog 138 #[.pointer (some ⟨b,0,none⟩)] u fun e w'=>ParP b g s j t u e w')) (w:World) (hP:Hid (PaI b g s i w)) :
    Calls Tryz.prog 126 #[.pointer (some ⟨b,0,none⟩)] w fun e w'=>ParP b g s j t w e w':=valueP_g b g s hs i k j t hk hks 1 138 (by decide) hc rfl (fun _ _=>by kernel_rfl) hcall w hP
theorem valueP_k2 (b g : Nat) (s : ByteArray) (hs : s.size ≤ 281474976710656) (i k j : Nat) (t : Vt) (hk : Hid (IsSkip s i k)) (hks : k < s.size) (hc : Hid (kindC (byteAt s k) = 2))
    (hcall:Hid (∀ u,Hid (PaI b g s k u)→Calls Tryz.prog 139 #[.pointer (some ⟨b,0,none⟩)] u fun e w'=>ParP b g s j t u e w')) (w:World) (hP:Hid (PaI b g s i w)) :
    Calls Tryz.prog 126 #[.pointer (some ⟨b,0,none⟩)] w fun e w'=>ParP b g s j t w e w':=valueP_g b g s hs i k j t hk hks 2 139 (by decide) hc rfl (fun _ _=>by kernel_rfl) hcall w hP
theorem valueP_k3 (b g : Nat) (s : ByteArray) (hs : s.size ≤ 281474976710656) (i k j : Nat) (t : Vt) (hk : Hid (IsSkip s i k)) (hks : k < s.size) (hc : Hid (kindC (byteAt s k) = 3))
    (hcall:Hid (∀ u,Hid (PaI b g s k u)→Calls Tryz.prog 140 #[.pointer (some ⟨b,0,none⟩)] u fun e w'=>ParP b g s j t u e w')) (w:World) (hP:Hid (PaI b g s i w)) :
    Calls Tryz.prog 126 #[.pointer (some ⟨b,0,none⟩)] w fun e w'=>ParP b g s j t w e w':=valueP_g b g s hs i k j t hk hks 3 140 (by decide) hc rfl (fun _ _=>by kernel_rfl) hcall w hP
theorem valueP_k4 (b g : Nat) (s : ByteArray) (hs : s.size ≤ 281474976710656) (i k j : Nat) (t : Vt) (hk : Hid (IsSkip s i k)) (hks : k < s.size) (hc : Hid (kindC (byteAt s k) = 4))
    (hcall:Hid (∀ u,Hid (PaI b g s k u)→Calls Tryz.prog 141 #[.pointer (some ⟨b,0,none⟩)] u fun e w'=>ParP b g s j t u e w')) (w:World) (hP:Hid (PaI b g s i w)) :
    Calls Tryz.prog 126 #[.pointer (some ⟨b,0,none⟩)] w fun e w'=>ParP b g s j t w e w':=valueP_g b g s hs i k j t hk hks 4 141 (by decide) hc rfl (fun _ _=>by kernel_rfl) hcall w hP
theorem valueP_k5 (b g : Nat) (s : ByteArray) (hs : s.size ≤ 281474976710656) (i k j : Nat) (t : Vt) (hk : Hid (IsSkip s i k)) (hks : k < s.size) (hc : Hid (kindC (byteAt s k) = 5))
    (hcall:Hid (∀ u,Hid (PaI b g s k u)→Calls Tryz.prog 142 #[.pointer (some ⟨b,0,none⟩)] u fun e w'=>ParP b g s j t u e w')) (w:World) (hP:Hid (PaI b g s i w)) :
    Calls Tryz.prog 126 #[.pointer (some ⟨b,0,none⟩)] w fun e w'=>ParP b g s j t w e w':=valueP_g b g s hs i k j t hk hks 5 142 (by decide) hc rfl (fun _ _=>by kernel_rfl) hcall w hP
theorem valueP_k6 (b g : Nat) (s : ByteArray) (hs : s.size ≤ 281474976710656) (i k j : Nat) (t : Vt) (hk : Hid (IsSkip s i k)) (hks : k < s.size) (hc : Hid (kindC (byteAt s k) = 6))
    (hcall:Hid (∀ u,Hid (PaI b g s k u)→Calls Tryz.prog 143 #[.pointer (some ⟨b,0,none⟩)] u fun e w'=>ParP b g s j t u e w')) (w:World) (hP:Hid (PaI b g s i w)) :
    Calls Tryz.prog 126 #[.pointer (some ⟨b,0,none⟩)] w fun e w'=>ParP b g s j t w e w':=valueP_g b g s hs i k j t hk hks 6 143 (by decide) hc rfl (fun _ _=>by kernel_rfl) hcall w hP
end Go.Proofs.YtjcpamjeekfblaaGreatDoor

namespace Go.Proofs.YtjcpamjeekfblaaGreatDoor
open Go.RowKit Go.Shelf
structure CoS (b g:Nat) (s:ByteArray) (p:Nat) (w:World) (kd:Int) (pos:Nat) (kv vv:Value) (ks:List ByteArray) (vs:List Vt) (wr:World):Prop where
 pa:PaI b g s pos wr
 fr:PFr b w wr
 res:At wr p #[.int .i64 0,.bool false,.string ⟨#[]⟩,.string ⟨#[]⟩,.slice none 0 0,.slice none 0 0] 59
 box:At wr (p+1) #[.int .i64 kd,.bool false,.string ⟨#[]⟩,.string ⟨#[]⟩,kv,vv] 59
 obj:ObjG (p+2) wr kv vv ks vs
 sz:p+2≤wr.heap.size
 hw:w.heap.size=p
 lb:b<p
 lg:g<p
section
variable {b g p pos pos':Nat} {s:ByteArray} {w x x' y:World} {kd:Int} {kv vv kv' vv':Value} {ks ks':List ByteArray} {vs vs':List Vt}
theorem PaI.sameB (h:PaI b g s pos x) (h1:x'.heap[b]? = x.heap[b]?) (h2:x'.heap[g]? = x.heap[g]?):PaI b g s pos x':=⟨h1.trans h.at_,h2.trans h.tk,h.ne⟩
theorem CoS.call (h:CoS b g s p w kd pos kv vv ks vs x) (hP:PaI b g s pos' x') (hF:PFr b x x'):CoS b g s p w kd pos' kv vv ks vs x' where
 pa:=hP
 fr:=h.fr.trans hF
 res:=hF.at_ h.res (by have:=h.lb;omega)
 box:=hF.at_ h.box (by have:=h.lb;omega)
 obj:=h.obj.kept ⟨hF.size,fun c hc hl=>hF.block c hl (by have:=h.lb;omega)⟩
 sz:=Nat.le_trans h.sz hF.size
 hw:=h.hw
 lb:=h.lb
 lg:=h.lg
theorem CoS.kept (h:CoS b g s p w kd pos kv vv ks vs x) (hb:Below x.heap.size x x'):CoS b g s p w kd pos kv vv ks vs x':=h.call (h.pa.kept hb) (PFr.of_below hb)
theorem CoS.grow (h:CoS b g s p w kd pos kv vv ks vs x) {row:Option Nat} (hg:x.grownBy y row) (hr:∀ r,row=some r→p+2≤r) (ho:ObjG (p+2) y kv' vv' ks' vs') (i:Nat) (v:Value) (hv:(#[.int .i64 kd,.bool false,.string ⟨#[]⟩,.string ⟨#[]⟩,kv,vv]:Array Value).setIfInBounds i v = #[.int .i64 kd,.bool false,.string ⟨#[]⟩,.string ⟨#[]⟩,kv',vv']) :
  CoS b g s p w kd pos kv' vv' ks' vs' (y.setCell ⟨p+1,i,none⟩ v):=by
 have hlow:∀ c,c<p+2→y.heap[c]? = x.heap[c]?:=fun c hc=>hg.block c (Nat.lt_of_lt_of_le hc h.sz) (fun e=>by have:=hr c e.symm;omega)
 have hset:∀ c,c≠p+1→(y.setCell ⟨p+1,i,none⟩ v).heap[c]? = y.heap[c]?:=fun c hc=>Below.heap_setCell y ⟨p+1,i,none⟩ v c hc
 have hb:=h.lb
 have hgl:=h.lg
 have hbox:At y (p+1) #[.int .i64 kd,.bool false,.string ⟨#[]⟩,.string ⟨#[]⟩,kv,vv] 59:=(hlow (p+1) (by omega)).trans h.box
 have hs1:=hbox.set i v
 refine ⟨h.pa.sameB ((hset b (by omega)).trans (hlow b (by omega))) ((hset g (by omega)).trans (hlow g (by omega))),?_,(hset p (by omega)).trans ((hlow p (by omega)).trans h.res),?_,?_,?_,h.hw,h.lb,h.lg⟩
 ·refine ⟨hg.os.trans h.fr.os,hg.tape.trans h.fr.tape,hg.output.trans h.fr.output,by have:=h.fr.size;have:=hg.size;simp;omega,fun c hc hcb=>?_⟩
  have:=h.hw
  exact ((hset c (by omega)).trans (hlow c (by omega))).trans (h.fr.block c hc hcb)
 ·rw [← hv]
  exact hs1
 ·exact ho.kept ⟨by simp,fun c hc _=>hset c (by omega)⟩
 ·have:=h.sz;have:=hg.size;simp;omega
theorem CoS.kid (h:CoS b g s p w kd pos kv vv ks vs x) (hk:KidsG (p+2) kv.ownBlock y vv' vs') (hg:x.grownBy y vv.ownBlock) (ha:vv'.ownBlock=vv.ownBlock∨∃ g,vv'.ownBlock=some g∧x.heap.size≤g):CoS b g s p w kd pos kv vv' ks vs' (y.setCell ⟨p+1,5,none⟩ vv') :=
 h.grow hg (fun r hr=>(h.obj.2.1.blk hr).1) (h.obj.kid hk hg ha) 5 vv' (by simp)
theorem CoS.key (h:CoS b g s p w kd pos kv vv ks vs x) (hk:KeysG (p+2) y kv' ks') (hg:x.grownBy y kv.ownBlock) (ha:kv'.ownBlock=kv.ownBlock∨∃ g,kv'.ownBlock=some g∧x.heap.size≤g):CoS b g s p w kd pos kv' vv ks' vs (y.setCell ⟨p+1,4,none⟩ kv') :=
 h.grow hg (fun r hr=>(h.obj.1.blk hr).1) (h.obj.key hk hg ha) 4 kv' (by simp)
theorem CoS.done {ko vo:Option Addr} {n m kc vc:Nat} (h:CoS b g s p w kd pos (.slice ko n kc) (.slice vo m vc) ks vs x) (hwf:(Lit.int .i64 kd).wf=true) (hk:ks.length≤capT) (hv:vs.length≤capT) :
  n=ks.length∧m=vs.length∧ValOn (fun c=>p+2≤c) x (.mk kd false ⟨#[]⟩ ⟨#[]⟩ ks vs) (.agg #[.int .i64 kd,.bool false,.string ⟨#[]⟩,.string ⟨#[]⟩,.slice ko n kc,.slice vo m vc]):=by
 obtain ⟨h1,h2,-⟩:=h.obj
 obtain ⟨X,rfl,hr,hx⟩:=h2.row
 obtain ⟨rfl,hkk⟩:=h1.row
 exact ⟨rfl,rfl,.mk kd false _ _ ks vs ko kc vo vc X hwf ⟨by decide,by decide,hk,hv⟩ hkk hr hx⟩
end
theorem CoS.len {b g p pos n vc:Nat} {s:ByteArray} {w x:World} {kd:Int} {kv:Value} {vo:Option Addr} {ks:List ByteArray} {vs:List Vt} (h:CoS b g s p w kd pos kv (.slice vo n vc) ks vs x):lenP (p+1) 5 x=n:=by
 unfold lenP
 rw [show x.cell? ⟨p+1,5,none⟩=some (.slice vo n vc) from h.box.cell 5]
def posA (i:Nat) (c:Nat→Nat):Nat→Nat
 | 0=>i+1
 | q+1=>c q
theorem take_snocV {α:Type} {l:List α} {q:Nat} {u:α} (h:l[q]? = some u):l.take (q+1)=l.take q++[u]:=by
 rw [List.take_add_one,h];rfl
theorem wp_append_rowV {o:Oper} {a:Act} {w w':World} {K:Act→World→Prop} {Q:Exit→Act→World→Prop} {x y:Operand} {v v' u:Value} {ty:TypeId} (ho:o.op = .call { callee:=.builtin .append,args:=#[x,y],argTypes:=#[ty,ty] }) (hx:a.eval x=v) (hy:a.eval y=u)
  (hr:(Builtin.append_ #[ty,ty] o.type #[v,u]).run Tryz.prog w = .ok v' w') (h:K (a.put o.dst v') w'):o.wp Tryz.prog a w K Q:=by
 unfold Oper.wp execOp
 simp only [ho,resolve,invoke,builtin,Sem.run_bind,Sem.run_pure,Result.andThen_ok,List.map_toArray,List.map_cons,List.map_nil,hx,hy,hr]
 exact h
set_option maxRecDepth 10000 in
set_option maxHeartbeats 4000000 in
theorem arrayP_of (b g:Nat) (s:ByteArray) (hs:s.size≤1048576) (i:Nat) (hi:i<s.size) (vs:List Vt) (a bb cc:Nat→Nat) (h0:Hid (IsSkip s (i+1) (a 0)))
  (hq:Hid (∀ q,q<vs.length→byteAt s (a q)≠93∧a q<s.size∧IsSkip s (if byteAt s (a q)=44 then a q+1 else a q) (bb q)∧bb q<s.size))
  (hv:Hid (∀ (q:Nat) (u:Vt),vs[q]? = some u→∀ (z:Nat) (x:World),IsSkip s z (bb q)→Hid (PaI b g s z x)→Calls Tryz.prog 126 #[.pointer (some ⟨b,0,none⟩)] x fun e w'=>ParP b g s (cc q) u x e w'))
  (hss:Hid (∀ q,q<vs.length→IsSkip s (cc q) (a (q+1)))) (he:Hid (byteAt s (a vs.length)=93)) (hn:Hid (a vs.length<s.size)) (hlen:vs.length≤1048576) (w:World) (hP:Hid (PaI b g s i w)) :
  Calls Tryz.prog 142 #[.pointer (some ⟨b,0,none⟩)] w fun e w'=>ParP b g s (a vs.length+1) (.mk 5 false ⟨#[]⟩ ⟨#[]⟩ [] vs) w e w':=by
 obtain ⟨p,hp⟩:∃ p,Hid (w.heap.size=p):=⟨_,rfl⟩
 have s0:Hid (CoS b g s p w 5 i (.slice none 0 0) (.slice none 0 0) [] [] ((w.alloc (.cells #[.int .i64 0,.bool false,.string ⟨#[]⟩,.string ⟨#[]⟩,.slice none 0 0,.slice none 0 0] 59)).alloc (.cells #[.int .i64 5,.bool false,.string ⟨#[]⟩,.string ⟨#[]⟩,.slice none 0 0,.slice none 0 0] 59))):=by
  have q1:Below w.heap.size w (w.alloc (.cells #[.int .i64 0,.bool false,.string ⟨#[]⟩,.string ⟨#[]⟩,.slice none 0 0,.slice none 0 0] 59)):=(Below.refl _ w).alloc (Nat.le_refl _) _
  have q2:Below (w.alloc (.cells #[.int .i64 0,.bool false,.string ⟨#[]⟩,.string ⟨#[]⟩,.slice none 0 0,.slice none 0 0] 59)).heap.size (w.alloc (.cells #[.int .i64 0,.bool false,.string ⟨#[]⟩,.string ⟨#[]⟩,.slice none 0 0,.slice none 0 0] 59)) ((w.alloc (.cells #[.int .i64 0,.bool false,.string ⟨#[]⟩,.string ⟨#[]⟩,.slice none 0 0,.slice none 0 0] 59)).alloc (.cells #[.int .i64 5,.bool false,.string ⟨#[]⟩,.string ⟨#[]⟩,.slice none 0 0,.slice none 0 0] 59)):=(Below.refl _ _).alloc (Nat.le_refl _) _
  have q3:=q1.trans (q2.mono q1.size)
  have A0:=(At.new w #[.int .i64 0,.bool false,.string ⟨#[]⟩,.string ⟨#[]⟩,.slice none 0 0,.slice none 0 0] 59).keptAll q2
  have B0:=At.new (w.alloc (.cells #[.int .i64 0,.bool false,.string ⟨#[]⟩,.string ⟨#[]⟩,.slice none 0 0,.slice none 0 0] 59)) #[.int .i64 5,.bool false,.string ⟨#[]⟩,.string ⟨#[]⟩,.slice none 0 0,.slice none 0 0] 59
  have e1:(w.alloc (.cells #[.int .i64 0,.bool false,.string ⟨#[]⟩,.string ⟨#[]⟩,.slice none 0 0,.slice none 0 0] 59)).heap.size=p+1:=by rw [World.size_alloc,hp.out]
  rw [hp.out] at A0
  rw [e1] at B0
  have hlb:=hP.out.at_.lt
  have hlg:=hP.out.tk.lt
  rw [hp.out] at hlb hlg
  exact ⟨hP.out.kept q3,PFr.of_below q3,A0,B0,ObjG.nil _ _,by rw [World.size_alloc,e1];exact Nat.le_refl _,hp.out,hlb,hlg⟩
 have hsi:(i:Int)+1≤1048576:=by omega
 go_enter Tryz.func142,Tryz.ntmps142
 go_upto_region 2 with fail
 rw [hp.out]
 generalize (w.alloc (.cells #[.int .i64 0,.bool false,.string ⟨#[]⟩,.string ⟨#[]⟩,.slice none 0 0,.slice none 0 0] 59)).alloc (.cells #[.int .i64 5,.bool false,.string ⟨#[]⟩,.string ⟨#[]⟩,.slice none 0 0,.slice none 0 0] 59)=W0 at s0 ⊢
 have c1:W0.cell? ⟨b,1,none⟩=some (.int .i64 (i:Int)):=s0.out.pa.at_.cell 1
 have g1:=s0.out.pa.at_.frozen 1
 have s1:Hid (CoS b g s p w 5 (posA i cc 0) (.slice none 0 0) (.slice none 0 0) [] [] (W0.setCell ⟨b,1,none⟩ (.int .i64 ((i:Int)+1)))):=s0.out.call (s0.out.pa.go ((i:Int)+1) (i+1) (by omega)) ((PFr.refl b W0).set 1 _)
 go_upto_region 3 with fail
 clear c1 g1 s0 hP
 generalize W0.setCell ⟨b,1,none⟩ (.int .i64 ((i:Int)+1))=W1 at s1 ⊢
 go_loopw [] (fun wr=>∃ (q cp:Nat) (so:Option Addr),q≤vs.length∧Hid (CoS b g s p w 5 (posA i cc q) (.slice none 0 0) (.slice so q cp) [] (vs.take q) wr)) (fun wr=>vs.length-lenP (p+1) 5 wr)
 case atStart=>exact ⟨0,0,none,Nat.zero_le _,s1⟩
 case round =>
  obtain ⟨q,cp,so,hql,hS⟩:=hrel
  clear s1
  have hsk:IsSkip s (posA i cc q) (a q):=by
   cases q with
   | zero=>exact h0.out
   | succ q=>exact hss.out q (by omega)
  have haq:a q<s.size:=by
   by_cases e:q=vs.length
   ·rw [e];exact hn.out
   ·exact (hq.out q (by omega)).2.1
  have hgo:=hid (goesOnP_calls b g s (by omega) (posA i cc q) (a q) (hid hsk) haq 93 wr (hid hS.out.pa))
  by_cases hqe:q=vs.length
  ·have hlen0:=hid hqe
   have e93:=hid (show byteAt s (a q)=93 by rw [hqe];exact he.out)
   have htk:=hid (show vs.take q=vs by rw [hqe];exact List.take_length)
   have hpos:=hid (show a q+1=a vs.length+1 by rw [hqe])
   clear hqe
   go_wp2_with fail
   refine Calls.mono hgo.out ?_
   rintro e w1 (⟨-,rfl,hP1,hF1⟩ | ⟨hne,-⟩)
   ·have s2:=hid (hS.out.call hP1 hF1)
    rw [htk.out,hpos.out] at s2
    clear hgo hP1 hF1 hS htk hpos e93
    obtain ⟨z1,z2,hV⟩:=s2.out.done (by decide) (by decide) (by unfold capT;omega)
    have hV':=hid hV
    clear z1 z2 hV
    have e0:=s2.out.box.cell 0
    have e1:=s2.out.box.cell 1
    have e2:=s2.out.box.cell 2
    have e3:=s2.out.box.cell 3
    have e4:=s2.out.box.cell 4
    have e5:=s2.out.box.cell 5
    simp only [List.getElem?_toArray,List.getElem?_cons_zero,List.getElem?_cons_succ] at e0 e1 e2 e3 e4 e5
    have d0:=s2.out.res.cell 0
    have d1:=s2.out.res.cell 1
    have d2:=s2.out.res.cell 2
    have d3:=s2.out.res.cell 3
    have d4:=s2.out.res.cell 4
    have d5:=s2.out.res.cell 5
    simp only [List.getElem?_toArray,List.getElem?_cons_zero,List.getElem?_cons_succ] at d0 d1 d2 d3 d4 d5
    have f0:=s2.out.res.frozen 0
    have f1:=s2.out.res.frozen 1
    have f2:=s2.out.res.frozen 2
    have f3:=s2.out.res.frozen 3
    have f4:=s2.out.res.frozen 4
    have f5:=s2.out.res.frozen 5
    go_wp2
    refine ret_val1 (p:=2) rfl rfl (s2.out.res.six) rfl ?_
    have hpw:=hp.out
    refine ⟨_,rfl,?_,s2.out.pa.same same_six (Nat.ne_of_lt s2.out.lb) (Nat.ne_of_lt s2.out.lg),s2.out.fr.six (Nat.le_of_eq hp.out) _ _ _ _ _ _⟩
    refine hV'.out.kept (fun c _ hc=>?_) ⟨same_six.1,fun c hc hl=>same_six.2 c ?_ hl⟩
    ·show w.heap.size≤c
     have:p+2≤c:=hc
     omega
    ·show c≠p
     have:p+2≤c:=hc
     omega
   ·exact absurd e93.out hne
  ·have hlt:q<vs.length:=by omega
   obtain ⟨u,hu⟩:∃ u,vs[q]? = some u:=⟨_,List.getElem?_eq_getElem hlt⟩
   obtain ⟨n93,-,hsk2,-⟩:=hq.out q hlt
   have hval:=hid (fun x h=>hv.out q u hu _ x hsk2 h)
   have hts:=hid (take_snocV hu)
   have hlt':=hid hlt
   have hwo:∃ wo,wo=wr:=⟨_,rfl⟩
   clear hqe hsk haq
   go_wp2_with fail
   refine Calls.mono hgo.out ?_
   rintro e w1 (⟨h93,-⟩ | ⟨-,rfl,hP1,hF1⟩)
   ·exact absurd h93 n93
   have s2:=hid (hS.out.call hP1 hF1)
   have hm:=hid (hS.out.len)
   clear hgo hP1 hF1 hS hwo n93 hsk2 hu
   go_upto_region 4 with fail
   refine wp_region_held_drew (S:=fun _=>True) (by kernel_rfl) trivial (fun hHeld=>?_)
   have s0:=hid (s2.out.kept (Below.refl _ _).drew)
   obtain ⟨x0,ex0⟩:∃ x,World.drew w1=x:=⟨_,rfl⟩
   rw [ex0] at s0 ⊢
   clear ex0 s2
   (refine' wpAnyH_take (i:=0) rfl (by kernel_rfl) (by kernel_rfl) (by kernel_rfl) (fun _ _ _ h=>h) (Or.inl ⟨by rfl,?_⟩) (by assumption) ?_;rotate_left;(· (intro wq hq;(try dsimp only at hq);go_simp;first | done | with_reducible rfl));simp only [psA])
   (refine' wpAnyH_take (i:=2) rfl (by kernel_rfl) (by kernel_rfl) (by kernel_rfl) (fun _ _ _ h=>h) (Or.inl ⟨by rfl,?_⟩) (by assumption) ?_;rotate_left;(· (intro wq hq;(try dsimp only at hq);go_simp;first | done | with_reducible rfl));simp only [psA])
   refine wpAnyH_ready (rs:=[1,3]) (by kernel_rfl) (by simp) ?_
   refine AllReadyH.cons rfl (fun K hK=>?_) ?_
   ·have t5:x0.cell? ⟨p+1,5,none⟩=some (.slice so q cp):=s0.out.box.cell 5
    go_simp
    clear t5
    refine hK.out _ _ trivial (fun _=>?_)
    clear hK K
    refine wpAnyH_ready (rs:=[3]) (by kernel_rfl) (by simp) ?_
    refine AllReadyH.cons rfl (fun K hK=>?_) ?_
    ·rw [if_pos (by rfl)]
     go_simp
     refine Calls.mono (hval.out _ (hid s0.out.pa)) ?_
     rintro e x1 ⟨xv,rfl,hV,hP1,hF1⟩
     obtain ⟨ko,kc,vo,vc,rfl⟩:=hV.six
     have hz0:=s0.out.sz
     have V1:=hid (hV.mono (S':=fun c=>p+2≤c∧(Value.slice so q cp).ownBlock≠some c∧(Value.slice none 0 0).ownBlock≠some c) (fun c _ hc=>⟨Nat.le_trans hz0 hc,fun e=>absurd (s0.out.obj.2.1.blk e).2 (Nat.not_lt.2 hc),fun e=>absurd (s0.out.obj.1.blk e).2 (Nat.not_lt.2 hc)⟩))
     have s1:=hid (s0.out.call hP1 hF1)
     clear hV hP1 hF1 hz0 s0
     refine hK.out _ _ trivial (fun _=>?_)
     clear hK K
     refine wpAnyH_ready (rs:=[4]) (by kernel_rfl) (by simp) ?_
     refine AllReadyH.cons rfl (fun K hK=>?_) ?_
     ·go_simp
      obtain ⟨x2,ex⟩:∃ x,World.alloc x1 (.cells #[.int .i64 u.kind,.bool u.b,.string u.raw,.string u.text,.slice ko u.keys.length kc,.slice vo u.kids.length vc] 59)=x:=⟨_,rfl⟩
      have qz:Below x1.heap.size x1 x2:=by rw [← ex];exact (Below.refl _ _).alloc (Nat.le_refl _) _
      have hpz:=hid (show At x2 x1.heap.size #[.int .i64 u.kind,.bool u.b,.string u.raw,.string u.text,.slice ko u.keys.length kc,.slice vo u.kids.length vc] 59 by rw [← ex];exact At.new x1 _ _)
      rw [ex]
      obtain ⟨pz,ep⟩:∃ z,x1.heap.size=z:=⟨_,rfl⟩
      have s2:=hid (s1.out.kept qz)
      have V2:=hid (V1.out.keptB qz)
      rw [ep] at hpz ⊢
      clear ex ep qz
      refine hK.out _ _ trivial (fun _=>?_)
      clear hK K
      obtain ⟨nv,y,hrun,hk1,hgr,hap⟩:=(s2.out.obj.2.1).app V2.out ⟨pz,0,none⟩ 1 (fun j y hj=>by rw [show (⟨pz,0,none⟩:Addr).add j=⟨pz,j,none⟩ by by_cases h:j=0 <;> simp [Addr.add,h]];rw [hpz.out.cell j];exact hj) (by rw [List.length_take];omega) s2.out.sz
      obtain ⟨no,nc,rfl⟩:=hk1.shape
      have hrun':=hid hrun
      have fin:=hid (s2.out.kid hk1 hgr hap)
      obtain ⟨nn,hnn⟩:∃ n,(List.take q vs++[u]).length=n:=⟨_,rfl⟩
      rw [hnn] at hrun' fin
      have hbx:=(show At y (p+1) #[.int .i64 5,.bool false,.string ⟨#[]⟩,.string ⟨#[]⟩,.slice none 0 0,.slice so q cp] 59 from (hgr.block (p+1) (by have:=s2.out.sz;omega) (fun e=>by have:=(s2.out.obj.2.1.blk e.symm).1;omega)).trans s2.out.box)
      have t5:y.cell? ⟨p+1,5,none⟩=some (.slice so q cp):=hbx.cell 5
      have f5:=hbx.frozen 5
      clear hrun hk1 hgr hap hbx
      refine wpAnyH_ready (rs:=[5]) (by kernel_rfl) (by simp) ?_
      refine AllReadyH.cons rfl (fun K hK=>?_) ?_
      ·rw [if_pos (by rfl)]
       refine wp_append_rowV rfl rfl rfl hrun'.out ?_
       refine hK.out _ _ trivial (fun _=>?_)
       clear hK K
       (refine' wpAnyH_take (i:=6) rfl (by kernel_rfl) (by kernel_rfl) (by kernel_rfl) (fun _ _ _ h=>h) (Or.inl ⟨by rfl,?_⟩) (by assumption) ?_;rotate_left;(· (intro wq hq;(try dsimp only at hq);go_simp;first | done | with_reducible rfl));simp only [psA])
       refine wpAnyH_ready (rs:=[7]) (by kernel_rfl) (by simp) ?_
       refine AllReadyH.cons rfl (fun K hK=>?_) ?_
       ·go_simp
        refine hK.out _ _ trivial (fun _=>?_)
        clear hK K
        refine wpAnyH_done (by kernel_rfl) ?_ _
        obtain ⟨z,ez⟩:∃ z,World.setCell y ⟨p+1,5,none⟩ (.slice no nn nc)=z:=⟨_,rfl⟩
        rw [ez] at fin ⊢
        clear ez hrun' t5 f5 s2 hpz hHeld V2
        have hnn':nn=q+1:=by rw [← hnn,List.length_append,List.length_take,List.length_singleton];omega
        rw [← hts.out] at fin
        subst hnn'
        have hm2:=hid (fin.out.len)
        clear hnn hval
        refine ⟨⟨_,_,_,_,_,_,_,_,_,⟨q+1,nc,no,hlt'.out,fin⟩,rfl⟩,?_⟩
        rw [hm2.out,hm.out]
        have:=hlt'.out
        omega
       exact AllReadyH.nil
      exact AllReadyH.nil
     exact AllReadyH.nil
    exact AllReadyH.nil
   refine AllReadyH.cons rfl (fun K hK=>?_) ?_
   ·rw [if_pos (by rfl)]
    go_simp
    refine Calls.mono (hval.out _ (hid s0.out.pa)) ?_
    rintro e x1 ⟨xv,rfl,hV,hP1,hF1⟩
    obtain ⟨ko,kc,vo,vc,rfl⟩:=hV.six
    have hz0:=s0.out.sz
    have V1:=hid (hV.mono (S':=fun c=>p+2≤c∧(Value.slice so q cp).ownBlock≠some c∧(Value.slice none 0 0).ownBlock≠some c) (fun c _ hc=>⟨Nat.le_trans hz0 hc,fun e=>absurd (s0.out.obj.2.1.blk e).2 (Nat.not_lt.2 hc),fun e=>absurd (s0.out.obj.1.blk e).2 (Nat.not_lt.2 hc)⟩))
    have s1:=hid (s0.out.call hP1 hF1)
    clear hV hP1 hF1 hz0 s0
    refine hK.out _ _ trivial (fun _=>?_)
    clear hK K
    refine wpAnyH_ready (rs:=[1,4]) (by kernel_rfl) (by simp) ?_
    refine AllReadyH.cons rfl (fun K hK=>?_) ?_
    ·have t5:x1.cell? ⟨p+1,5,none⟩=some (.slice so q cp):=s1.out.box.cell 5
     go_simp
     clear t5
     refine hK.out _ _ trivial (fun _=>?_)
     clear hK K
     refine wpAnyH_ready (rs:=[4]) (by kernel_rfl) (by simp) ?_
     refine AllReadyH.cons rfl (fun K hK=>?_) ?_
     ·go_simp
      obtain ⟨x2,ex⟩:∃ x,World.alloc x1 (.cells #[.int .i64 u.kind,.bool u.b,.string u.raw,.string u.text,.slice ko u.keys.length kc,.slice vo u.kids.length vc] 59)=x:=⟨_,rfl⟩
      have qz:Below x1.heap.size x1 x2:=by rw [← ex];exact (Below.refl _ _).alloc (Nat.le_refl _) _
      have hpz:=hid (show At x2 x1.heap.size #[.int .i64 u.kind,.bool u.b,.string u.raw,.string u.text,.slice ko u.keys.length kc,.slice vo u.kids.length vc] 59 by rw [← ex];exact At.new x1 _ _)
      rw [ex]
      obtain ⟨pz,ep⟩:∃ z,x1.heap.size=z:=⟨_,rfl⟩
      have s2:=hid (s1.out.kept qz)
      have V2:=hid (V1.out.keptB qz)
      rw [ep] at hpz ⊢
      clear ex ep qz
      refine hK.out _ _ trivial (fun _=>?_)
      clear hK K
      obtain ⟨nv,y,hrun,hk1,hgr,hap⟩:=(s2.out.obj.2.1).app V2.out ⟨pz,0,none⟩ 1 (fun j y hj=>by rw [show (⟨pz,0,none⟩:Addr).add j=⟨pz,j,none⟩ by by_cases h:j=0 <;> simp [Addr.add,h]];rw [hpz.out.cell j];exact hj) (by rw [List.length_take];omega) s2.out.sz
      obtain ⟨no,nc,rfl⟩:=hk1.shape
      have hrun':=hid hrun
      have fin:=hid (s2.out.kid hk1 hgr hap)
      obtain ⟨nn,hnn⟩:∃ n,(List.take q vs++[u]).length=n:=⟨_,rfl⟩
      rw [hnn] at hrun' fin
      have hbx:=(show At y (p+1) #[.int .i64 5,.bool false,.string ⟨#[]⟩,.string ⟨#[]⟩,.slice none 0 0,.slice so q cp] 59 from (hgr.block (p+1) (by have:=s2.out.sz;omega) (fun e=>by have:=(s2.out.obj.2.1.blk e.symm).1;omega)).trans s2.out.box)
      have t5:y.cell? ⟨p+1,5,none⟩=some (.slice so q cp):=hbx.cell 5
      have f5:=hbx.frozen 5
      clear hrun hk1 hgr hap hbx
      refine wpAnyH_ready (rs:=[5]) (by kernel_rfl) (by simp) ?_
      refine AllReadyH.cons rfl (fun K hK=>?_) ?_
      ·rw [if_pos (by rfl)]
       refine wp_append_rowV rfl rfl rfl hrun'.out ?_
       refine hK.out _ _ trivial (fun _=>?_)
       clear hK K
       (refine' wpAnyH_take (i:=6) rfl (by kernel_rfl) (by kernel_rfl) (by kernel_rfl) (fun _ _ _ h=>h) (Or.inl ⟨by rfl,?_⟩) (by assumption) ?_;rotate_left;(· (intro wq hq;(try dsimp only at hq);go_simp;first | done | with_reducible rfl));simp only [psA])
       refine wpAnyH_ready (rs:=[7]) (by kernel_rfl) (by simp) ?_
       refine AllReadyH.cons rfl (fun K hK=>?_) ?_
       ·go_simp
        refine hK.out _ _ trivial (fun _=>?_)
        clear hK K
        refine wpAnyH_done (by kernel_rfl) ?_ _
        obtain ⟨z,ez⟩:∃ z,World.setCell y ⟨p+1,5,none⟩ (.slice no nn nc)=z:=⟨_,rfl⟩
        rw [ez] at fin ⊢
        clear ez hrun' t5 f5 s2 hpz hHeld V2
        have hnn':nn=q+1:=by rw [← hnn,List.length_append,List.length_take,List.length_singleton];omega
        rw [← hts.out] at fin
        subst hnn'
        have hm2:=hid (fin.out.len)
        clear hnn hval
        refine ⟨⟨_,_,_,_,_,_,_,_,_,⟨q+1,nc,no,hlt'.out,fin⟩,rfl⟩,?_⟩
        rw [hm2.out,hm.out]
        have:=hlt'.out
        omega
       exact AllReadyH.nil
      exact AllReadyH.nil
     exact AllReadyH.nil
    refine AllReadyH.cons rfl (fun K hK=>?_) ?_
    ·go_simp
     obtain ⟨x2,ex⟩:∃ x,World.alloc x1 (.cells #[.int .i64 u.kind,.bool u.b,.string u.raw,.string u.text,.slice ko u.keys.length kc,.slice vo u.kids.length vc] 59)=x:=⟨_,rfl⟩
     have qz:Below x1.heap.size x1 x2:=by rw [← ex];exact (Below.refl _ _).alloc (Nat.le_refl _) _
     have hpz:=hid (show At x2 x1.heap.size #[.int .i64 u.kind,.bool u.b,.string u.raw,.string u.text,.slice ko u.keys.length kc,.slice vo u.kids.length vc] 59 by rw [← ex];exact At.new x1 _ _)
     rw [ex]
     obtain ⟨pz,ep⟩:∃ z,x1.heap.size=z:=⟨_,rfl⟩
     have s2:=hid (s1.out.kept qz)
     have V2:=hid (V1.out.keptB qz)
     rw [ep] at hpz ⊢
     clear ex ep qz
     refine hK.out _ _ trivial (fun _=>?_)
     clear hK K
     refine wpAnyH_ready (rs:=[1]) (by kernel_rfl) (by simp) ?_
     refine AllReadyH.cons rfl (fun K hK=>?_) ?_
     ·have t5:x2.cell? ⟨p+1,5,none⟩=some (.slice so q cp):=s2.out.box.cell 5
      go_simp
      clear t5
      refine hK.out _ _ trivial (fun _=>?_)
      clear hK K
      obtain ⟨nv,y,hrun,hk1,hgr,hap⟩:=(s2.out.obj.2.1).app V2.out ⟨pz,0,none⟩ 1 (fun j y hj=>by rw [show (⟨pz,0,none⟩:Addr).add j=⟨pz,j,none⟩ by by_cases h:j=0 <;> simp [Addr.add,h]];rw [hpz.out.cell j];exact hj) (by rw [List.length_take];omega) s2.out.sz
      obtain ⟨no,nc,rfl⟩:=hk1.shape
      have hrun':=hid hrun
      have fin:=hid (s2.out.kid hk1 hgr hap)
      obtain ⟨nn,hnn⟩:∃ n,(List.take q vs++[u]).length=n:=⟨_,rfl⟩
      rw [hnn] at hrun' fin
      have hbx:=(show At y (p+1) #[.int .i64 5,.bool false,.string ⟨#[]⟩,.string ⟨#[]⟩,.slice none 0 0,.slice so q cp] 59 from (hgr.block (p+1) (by have:=s2.out.sz;omega) (fun e=>by have:=(s2.out.obj.2.1.blk e.symm).1;omega)).trans s2.out.box)
      have t5:y.cell? ⟨p+1,5,none⟩=some (.slice so q cp):=hbx.cell 5
      have f5:=hbx.frozen 5
      clear hrun hk1 hgr hap hbx
      refine wpAnyH_ready (rs:=[5]) (by kernel_rfl) (by simp) ?_
      refine AllReadyH.cons rfl (fun K hK=>?_) ?_
      ·rw [if_pos (by rfl)]
       refine wp_append_rowV rfl rfl rfl hrun'.out ?_
       refine hK.out _ _ trivial (fun _=>?_)
       clear hK K
       (refine' wpAnyH_take (i:=6) rfl (by kernel_rfl) (by kernel_rfl) (by kernel_rfl) (fun _ _ _ h=>h) (Or.inl ⟨by rfl,?_⟩) (by assumption) ?_;rotate_left;(· (intro wq hq;(try dsimp only at hq);go_simp;first | done | with_reducible rfl));simp only [psA])
       refine wpAnyH_ready (rs:=[7]) (by kernel_rfl) (by simp) ?_
       refine AllReadyH.cons rfl (fun K hK=>?_) ?_
       ·go_simp
        refine hK.out _ _ trivial (fun _=>?_)
        clear hK K
        refine wpAnyH_done (by kernel_rfl) ?_ _
        obtain ⟨z,ez⟩:∃ z,World.setCell y ⟨p+1,5,none⟩ (.slice no nn nc)=z:=⟨_,rfl⟩
        rw [ez] at fin ⊢
        clear ez hrun' t5 f5 s2 hpz hHeld V2
        have hnn':nn=q+1:=by rw [← hnn,List.length_append,List.length_take,List.length_singleton];omega
        rw [← hts.out] at fin
        subst hnn'
        have hm2:=hid (fin.out.len)
        clear hnn hval
        refine ⟨⟨_,_,_,_,_,_,_,_,_,⟨q+1,nc,no,hlt'.out,fin⟩,rfl⟩,?_⟩
        rw [hm2.out,hm.out]
        have:=hlt'.out
        omega
       exact AllReadyH.nil
      exact AllReadyH.nil
     exact AllReadyH.nil
    exact AllReadyH.nil
   exact AllReadyH.nil
set_option maxRecDepth 10000 in
set_option maxHeartbeats 4000000 in
theorem objectP_of (b g:Nat) (s:ByteArray) (hs:s.size≤1048576) (i:Nat) (hi:i<s.size) (ks:List ByteArray) (vs:List Vt) (hkv:ks.length=vs.length) (a nn0 mm dd bb cc:Nat→Nat) (h0:Hid (IsSkip s (i+1) (a 0)))
  (hq:Hid (∀ q,q<vs.length→byteAt s (a q)≠125∧a q<s.size∧IsSkip s (if byteAt s (a q)=44 then a q+1 else a q) (nn0 q)∧nn0 q<s.size∧IsSkip s (mm q) (dd q)∧dd q<s.size∧IsSkip s (dd q+1) (bb q)∧bb q<s.size))
  (hk:Hid (∀ (q:Nat) (K:ByteArray),ks[q]? = some K→Txt s (nn0 q) (mm q) K))
  (hv:Hid (∀ (q:Nat) (u:Vt),vs[q]? = some u→∀ (z:Nat) (x:World),IsSkip s z (bb q)→Hid (PaI b g s z x)→Calls Tryz.prog 126 #[.pointer (some ⟨b,0,none⟩)] x fun e w'=>ParP b g s (cc q) u x e w'))
  (hss:Hid (∀ q,q<vs.length→IsSkip s (cc q) (a (q+1)))) (he:Hid (byteAt s (a vs.length)=125)) (hn:Hid (a vs.length<s.size)) (hlen:vs.length≤1048576) (w:World) (hP:Hid (PaI b g s i w)) :
  Calls Tryz.prog 143 #[.pointer (some ⟨b,0,none⟩)] w fun e w'=>ParP b g s (a vs.length+1) (.mk 6 false ⟨#[]⟩ ⟨#[]⟩ ks vs) w e w':=by
 have hkv':=hid hkv
 clear hkv
 obtain ⟨p,hp⟩:∃ p,Hid (w.heap.size=p):=⟨_,rfl⟩
 have s0:Hid (CoS b g s p w 6 i (.slice none 0 0) (.slice none 0 0) [] [] ((w.alloc (.cells #[.int .i64 0,.bool false,.string ⟨#[]⟩,.string ⟨#[]⟩,.slice none 0 0,.slice none 0 0] 59)).alloc (.cells #[.int .i64 6,.bool false,.string ⟨#[]⟩,.string ⟨#[]⟩,.slice none 0 0,.slice none 0 0] 59))):=by
  have q1:Below w.heap.size w (w.alloc (.cells #[.int .i64 0,.bool false,.string ⟨#[]⟩,.string ⟨#[]⟩,.slice none 0 0,.slice none 0 0] 59)):=(Below.refl _ w).alloc (Nat.le_refl _) _
  have q2:Below (w.alloc (.cells #[.int .i64 0,.bool false,.string ⟨#[]⟩,.string ⟨#[]⟩,.slice none 0 0,.slice none 0 0] 59)).heap.size (w.alloc (.cells #[.int .i64 0,.bool false,.string ⟨#[]⟩,.string ⟨#[]⟩,.slice none 0 0,.slice none 0 0] 59)) ((w.alloc (.cells #[.int .i64 0,.bool false,.string ⟨#[]⟩,.string ⟨#[]⟩,.slice none 0 0,.slice none 0 0] 59)).alloc (.cells #[.int .i64 6,.bool false,.string ⟨#[]⟩,.string ⟨#[]⟩,.slice none 0 0,.slice none 0 0] 59)):=(Below.refl _ _).alloc (Nat.le_refl _) _
  have q3:=q1.trans (q2.mono q1.size)
  have A0:=(At.new w #[.int .i64 0,.bool false,.string ⟨#[]⟩,.string ⟨#[]⟩,.slice none 0 0,.slice none 0 0] 59).keptAll q2
  have B0:=At.new (w.alloc (.cells #[.int .i64 0,.bool false,.string ⟨#[]⟩,.string ⟨#[]⟩,.slice none 0 0,.slice none 0 0] 59)) #[.int .i64 6,.bool false,.string ⟨#[]⟩,.string ⟨#[]⟩,.slice none 0 0,.slice none 0 0] 59
  have e1:(w.alloc (.cells #[.int .i64 0,.bool false,.string ⟨#[]⟩,.string ⟨#[]⟩,.slice none 0 0,.slice none 0 0] 59)).heap.size=p+1:=by rw [World.size_alloc,hp.out]
  rw [hp.out] at A0
  rw [e1] at B0
  have hlb:=hP.out.at_.lt
  have hlg:=hP.out.tk.lt
  rw [hp.out] at hlb hlg
  exact ⟨hP.out.kept q3,PFr.of_below q3,A0,B0,ObjG.nil _ _,by rw [World.size_alloc,e1];exact Nat.le_refl _,hp.out,hlb,hlg⟩
 have hsi:(i:Int)+1≤1048576:=by omega
 go_enter Tryz.func143,Tryz.ntmps143
 go_upto_region 2 with fail
 rw [hp.out]
 generalize (w.alloc (.cells #[.int .i64 0,.bool false,.string ⟨#[]⟩,.string ⟨#[]⟩,.slice none 0 0,.slice none 0 0] 59)).alloc (.cells #[.int .i64 6,.bool false,.string ⟨#[]⟩,.string ⟨#[]⟩,.slice none 0 0,.slice none 0 0] 59)=W0 at s0 ⊢
 have c1:W0.cell? ⟨b,1,none⟩=some (.int .i64 (i:Int)):=s0.out.pa.at_.cell 1
 have g1:=s0.out.pa.at_.frozen 1
 have s1:Hid (CoS b g s p w 6 (posA i cc 0) (.slice none 0 0) (.slice none 0 0) [] [] (W0.setCell ⟨b,1,none⟩ (.int .i64 ((i:Int)+1)))):=s0.out.call (s0.out.pa.go ((i:Int)+1) (i+1) (by omega)) ((PFr.refl b W0).set 1 _)
 go_upto_region 3 with fail
 clear c1 g1 s0 hP
 generalize W0.setCell ⟨b,1,none⟩ (.int .i64 ((i:Int)+1))=W1 at s1 ⊢
 go_loopw [] (fun wr=>∃ (q ck cp:Nat) (sk so:Option Addr),q≤vs.length∧Hid (CoS b g s p w 6 (posA i cc q) (.slice sk q ck) (.slice so q cp) (ks.take q) (vs.take q) wr)) (fun wr=>vs.length-lenP (p+1) 5 wr)
 case atStart=>exact ⟨0,0,0,none,none,Nat.zero_le _,s1⟩
 case round =>
  obtain ⟨q,ck,cp,sk,so,hql,hS⟩:=hrel
  clear s1
  have hsk:IsSkip s (posA i cc q) (a q):=by
   cases q with
   | zero=>exact h0.out
   | succ q=>exact hss.out q (by omega)
  have haq:a q<s.size:=by
   by_cases e:q=vs.length
   ·rw [e];exact hn.out
   ·exact (hq.out q (by omega)).2.1
  have hgo:=hid (goesOnP_calls b g s (by omega) (posA i cc q) (a q) (hid hsk) haq 125 wr (hid hS.out.pa))
  by_cases hqe:q=vs.length
  ·have hlen0:=hid hqe
   have e93:=hid (show byteAt s (a q)=125 by rw [hqe];exact he.out)
   have htk:=hid (show vs.take q=vs by rw [hqe];exact List.take_length)
   have htk2:=hid (show ks.take q=ks by rw [hqe,← hkv'.out];exact List.take_length)
   have hpos:=hid (show a q+1=a vs.length+1 by rw [hqe])
   clear hqe
   go_wp2_with fail
   refine Calls.mono hgo.out ?_
   rintro e w1 (⟨-,rfl,hP1,hF1⟩ | ⟨hne,-⟩)
   ·have s2:=hid (hS.out.call hP1 hF1)
    rw [htk.out,htk2.out,hpos.out] at s2
    clear hgo hP1 hF1 hS htk htk2 hpos e93
    obtain ⟨z1,z2,hV⟩:=s2.out.done (by decide) (by rw [hkv'.out];unfold capT;omega) (by unfold capT;omega)
    have hV':=hid hV
    clear z1 z2 hV
    have e0:=s2.out.box.cell 0
    have e1:=s2.out.box.cell 1
    have e2:=s2.out.box.cell 2
    have e3:=s2.out.box.cell 3
    have e4:=s2.out.box.cell 4
    have e5:=s2.out.box.cell 5
    simp only [List.getElem?_toArray,List.getElem?_cons_zero,List.getElem?_cons_succ] at e0 e1 e2 e3 e4 e5
    have d0:=s2.out.res.cell 0
    have d1:=s2.out.res.cell 1
    have d2:=s2.out.res.cell 2
    have d3:=s2.out.res.cell 3
    have d4:=s2.out.res.cell 4
    have d5:=s2.out.res.cell 5
    simp only [List.getElem?_toArray,List.getElem?_cons_zero,List.getElem?_cons_succ] at d0 d1 d2 d3 d4 d5
    have f0:=s2.out.res.frozen 0
    have f1:=s2.out.res.frozen 1
    have f2:=s2.out.res.frozen 2
    have f3:=s2.out.res.frozen 3
    have f4:=s2.out.res.frozen 4
    have f5:=s2.out.res.frozen 5
    go_wp2
    refine ret_val1 (p:=2) rfl rfl (s2.out.res.six) rfl ?_
    have hpw:=hp.out
    refine ⟨_,rfl,?_,s2.out.pa.same same_six (Nat.ne_of_lt s2.out.lb) (Nat.ne_of_lt s2.out.lg),s2.out.fr.six (Nat.le_of_eq hp.out) _ _ _ _ _ _⟩
    refine hV'.out.kept (fun c _ hc=>?_) ⟨same_six.1,fun c hc hl=>same_six.2 c ?_ hl⟩
    ·show w.heap.size≤c
     have:p+2≤c:=hc
     omega
    ·show c≠p
     have:p+2≤c:=hc
     omega
   ·exact absurd e93.out hne
  ·have hlt:q<vs.length:=by omega
   obtain ⟨u,hu⟩:∃ u,vs[q]? = some u:=⟨_,List.getElem?_eq_getElem hlt⟩
   obtain ⟨KN,hKq⟩:∃ K,ks[q]? = some K:=⟨_,List.getElem?_eq_getElem (by rw [hkv'.out];exact hlt)⟩
   obtain ⟨n93,-,hsk2,hnn0,hsk3,hdd,hsk4,-⟩:=hq.out q hlt
   have hval:=hid (fun x h=>hv.out q u hu _ x hsk4 h)
   have hquo:=hid (fun x h=>quoted_calls b g s hs (nn0 q) (mm q) KN (hid (hk.out q KN hKq)) x h)
   have hKs:Hid (KN.size≤capT):=by have:=(hk.out q KN hKq).len;show _≤_;unfold capT;omega
   have hb1:=hid (fun x h=>blanksP_calls b g s (by omega) _ (nn0 q) (hid hsk2) hnn0 x h)
   have hb2:=hid (fun x h=>blanksP_calls b g s (by omega) (mm q) (dd q) (hid hsk3) hdd x h)
   have hts:=hid (take_snocV hu)
   have htk:=hid (take_snocV hKq)
   have hlt':=hid hlt
   have hddi:(dd q:Int)+1≤1048576:=by omega
   have hm:=hid (hS.out.len)
   clear hqe hsk haq
   go_wp2_with fail
   refine Calls.mono hgo.out ?_
   rintro e w1 (⟨h93,-⟩ | ⟨-,rfl,hP1,hF1⟩)
   ·exact absurd h93 n93
   have s2:=hid (hS.out.call hP1 hF1)
   clear hgo hP1 hF1 hS n93 hsk2 hsk3 hsk4 hdd hnn0 hu hKq
   go_wp2_with fail
   refine Calls.mono (hb1.out w1 (hid s2.out.pa)) ?_
   rintro e w2 ⟨rfl,hP1,hF1⟩
   have s3:=hid (s2.out.call hP1 hF1)
   clear hb1 hP1 hF1 s2
   go_upto_region 5 with fail
   go_cut [22] from 16 to 21 (fun _ wx=>∃ (sk2:Option Addr) (ck2:Nat),Hid (CoS b g s p w 6 (mm q) (.slice sk2 (q+1) ck2) (.slice so q cp) (ks.take (q+1)) (vs.take q) wx))
   case first =>
    rename_i Kr hKr
    refine wp_region_held_drew (S:=fun _=>True) (by kernel_rfl) trivial (fun hHeld=>?_)
    have s0:=hid (s3.out.kept (Below.refl _ _).drew)
    obtain ⟨x0,ex0⟩:∃ x,World.drew w2=x:=⟨_,rfl⟩
    rw [ex0] at s0 ⊢
    clear ex0 s3
    (refine' wpAnyH_take (i:=0) rfl (by kernel_rfl) (by kernel_rfl) (by kernel_rfl) (fun _ _ _ h=>h) (Or.inl ⟨by rfl,?_⟩) (by assumption) ?_;rotate_left;(· (intro wq hq;(try dsimp only at hq);go_simp;first | done | with_reducible rfl));simp only [psA])
    (refine' wpAnyH_take (i:=2) rfl (by kernel_rfl) (by kernel_rfl) (by kernel_rfl) (fun _ _ _ h=>h) (Or.inl ⟨by rfl,?_⟩) (by assumption) ?_;rotate_left;(· (intro wq hq;(try dsimp only at hq);go_simp;first | done | with_reducible rfl));simp only [psA])
    refine wpAnyH_ready (rs:=[1,3]) (by kernel_rfl) (by simp) ?_
    refine AllReadyH.cons rfl (fun K hK=>?_) ?_
    ·have t5:x0.cell? ⟨p+1,4,none⟩=some (.slice sk q ck):=s0.out.box.cell 4
     go_simp
     clear t5
     refine hK.out _ _ trivial (fun _=>?_)
     clear hK K
     refine wpAnyH_ready (rs:=[3]) (by kernel_rfl) (by simp) ?_
     refine AllReadyH.cons rfl (fun K hK=>?_) ?_
     ·rw [if_pos (by rfl)]
      go_simp
      refine Calls.mono (hquo.out _ (hid s0.out.pa)) ?_
      rintro e x1 ⟨rfl,hP1,hF1⟩
      have s1:=hid (s0.out.call hP1 hF1)
      clear hP1 hF1 s0
      refine hK.out _ _ trivial (fun _=>?_)
      clear hK K
      refine wpAnyH_ready (rs:=[4]) (by kernel_rfl) (by simp) ?_
      refine AllReadyH.cons rfl (fun K hK=>?_) ?_
      ·go_simp
       obtain ⟨x2,ex⟩:∃ x,World.alloc x1 (.cells #[.string KN] 9)=x:=⟨_,rfl⟩
       have qz:Below x1.heap.size x1 x2:=by rw [← ex];exact (Below.refl _ _).alloc (Nat.le_refl _) _
       have hpz:=hid (show At x2 x1.heap.size #[.string KN] 9 by rw [← ex];exact At.new x1 _ _)
       rw [ex]
       obtain ⟨pz,ep⟩:∃ z,x1.heap.size=z:=⟨_,rfl⟩
       have s2:=hid (s1.out.kept qz)
       rw [ep] at hpz ⊢
       clear ex ep qz
       refine hK.out _ _ trivial (fun _=>?_)
       clear hK K
       obtain ⟨nv,y,hrun,hk1,hgr,hap⟩:=(s2.out.obj.1).app hKs.out ⟨pz,0,none⟩ 1 (by simpa [Addr.add] using hpz.out.cell 0) (by rw [List.length_take];omega) s2.out.sz
       obtain ⟨no,nc,rfl⟩:=hk1.shape
       have hrun':=hid hrun
       have fin:=hid (s2.out.key hk1 hgr hap)
       obtain ⟨nn,hnn⟩:∃ n,(List.take q ks++[KN]).length=n:=⟨_,rfl⟩
       rw [hnn] at hrun' fin
       have hbx:=(show At y (p+1) #[.int .i64 6,.bool false,.string ⟨#[]⟩,.string ⟨#[]⟩,.slice sk q ck,.slice so q cp] 59 from (hgr.block (p+1) (by have:=s2.out.sz;omega) (fun e=>by have:=(s2.out.obj.1.blk e.symm).1;omega)).trans s2.out.box)
       have t5:y.cell? ⟨p+1,4,none⟩=some (.slice sk q ck):=hbx.cell 4
       have f5:=hbx.frozen 4
       clear hrun hk1 hgr hap hbx
       refine wpAnyH_ready (rs:=[5]) (by kernel_rfl) (by simp) ?_
       refine AllReadyH.cons rfl (fun K hK=>?_) ?_
       ·rw [if_pos (by rfl)]
        refine wp_append_rowV rfl rfl rfl hrun'.out ?_
        refine hK.out _ _ trivial (fun _=>?_)
        clear hK K
        (refine' wpAnyH_take (i:=6) rfl (by kernel_rfl) (by kernel_rfl) (by kernel_rfl) (fun _ _ _ h=>h) (Or.inl ⟨by rfl,?_⟩) (by assumption) ?_;rotate_left;(· (intro wq hq;(try dsimp only at hq);go_simp;first | done | with_reducible rfl));simp only [psA])
        refine wpAnyH_ready (rs:=[7]) (by kernel_rfl) (by simp) ?_
        refine AllReadyH.cons rfl (fun K hK=>?_) ?_
        ·go_simp
         refine hK.out _ _ trivial (fun _=>?_)
         clear hK K
         refine wpAnyH_done (by kernel_rfl) ?_ _
         refine hKr _ _ ?_
         obtain ⟨z,ez⟩:∃ z,World.setCell y ⟨p+1,4,none⟩ (.slice no nn nc)=z:=⟨_,rfl⟩
         rw [ez] at fin ⊢
         clear ez hrun' t5 f5 s2 hpz hHeld
         have hnn':nn=q+1:=by rw [← hnn,List.length_append,List.length_take,List.length_singleton];have:=hkv'.out;omega
         rw [← htk.out] at fin
         subst hnn'
         clear hnn hquo
         go_wp2
         go_meet
         case rel=>exact ⟨no,nc,fin⟩
        exact AllReadyH.nil
       exact AllReadyH.nil
      exact AllReadyH.nil
     exact AllReadyH.nil
    refine AllReadyH.cons rfl (fun K hK=>?_) ?_
    ·rw [if_pos (by rfl)]
     go_simp
     refine Calls.mono (hquo.out _ (hid s0.out.pa)) ?_
     rintro e x1 ⟨rfl,hP1,hF1⟩
     have s1:=hid (s0.out.call hP1 hF1)
     clear hP1 hF1 s0
     refine hK.out _ _ trivial (fun _=>?_)
     clear hK K
     refine wpAnyH_ready (rs:=[1,4]) (by kernel_rfl) (by simp) ?_
     refine AllReadyH.cons rfl (fun K hK=>?_) ?_
     ·have t5:x1.cell? ⟨p+1,4,none⟩=some (.slice sk q ck):=s1.out.box.cell 4
      go_simp
      clear t5
      refine hK.out _ _ trivial (fun _=>?_)
      clear hK K
      refine wpAnyH_ready (rs:=[4]) (by kernel_rfl) (by simp) ?_
      refine AllReadyH.cons rfl (fun K hK=>?_) ?_
      ·go_simp
       obtain ⟨x2,ex⟩:∃ x,World.alloc x1 (.cells #[.string KN] 9)=x:=⟨_,rfl⟩
       have qz:Below x1.heap.size x1 x2:=by rw [← ex];exact (Below.refl _ _).alloc (Nat.le_refl _) _
       have hpz:=hid (show At x2 x1.heap.size #[.string KN] 9 by rw [← ex];exact At.new x1 _ _)
       rw [ex]
       obtain ⟨pz,ep⟩:∃ z,x1.heap.size=z:=⟨_,rfl⟩
       have s2:=hid (s1.out.kept qz)
       rw [ep] at hpz ⊢
       clear ex ep qz
       refine hK.out _ _ trivial (fun _=>?_)
       clear hK K
       obtain ⟨nv,y,hrun,hk1,hgr,hap⟩:=(s2.out.obj.1).app hKs.out ⟨pz,0,none⟩ 1 (by simpa [Addr.add] using hpz.out.cell 0) (by rw [List.length_take];omega) s2.out.sz
       obtain ⟨no,nc,rfl⟩:=hk1.shape
       have hrun':=hid hrun
       have fin:=hid (s2.out.key hk1 hgr hap)
       obtain ⟨nn,hnn⟩:∃ n,(List.take q ks++[KN]).length=n:=⟨_,rfl⟩
       rw [hnn] at hrun' fin
       have hbx:=(show At y (p+1) #[.int .i64 6,.bool false,.string ⟨#[]⟩,.string ⟨#[]⟩,.slice sk q ck,.slice so q cp] 59 from (hgr.block (p+1) (by have:=s2.out.sz;omega) (fun e=>by have:=(s2.out.obj.1.blk e.symm).1;omega)).trans s2.out.box)
       have t5:y.cell? ⟨p+1,4,none⟩=some (.slice sk q ck):=hbx.cell 4
       have f5:=hbx.frozen 4
       clear hrun hk1 hgr hap hbx
       refine wpAnyH_ready (rs:=[5]) (by kernel_rfl) (by simp) ?_
       refine AllReadyH.cons rfl (fun K hK=>?_) ?_
       ·rw [if_pos (by rfl)]
        refine wp_append_rowV rfl rfl rfl hrun'.out ?_
        refine hK.out _ _ trivial (fun _=>?_)
        clear hK K
        (refine' wpAnyH_take (i:=6) rfl (by kernel_rfl) (by kernel_rfl) (by kernel_rfl) (fun _ _ _ h=>h) (Or.inl ⟨by rfl,?_⟩) (by assumption) ?_;rotate_left;(· (intro wq hq;(try dsimp only at hq);go_simp;first | done | with_reducible rfl));simp only [psA])
        refine wpAnyH_ready (rs:=[7]) (by kernel_rfl) (by simp) ?_
        refine AllReadyH.cons rfl (fun K hK=>?_) ?_
        ·go_simp
         refine hK.out _ _ trivial (fun _=>?_)
         clear hK K
         refine wpAnyH_done (by kernel_rfl) ?_ _
         refine hKr _ _ ?_
         obtain ⟨z,ez⟩:∃ z,World.setCell y ⟨p+1,4,none⟩ (.slice no nn nc)=z:=⟨_,rfl⟩
         rw [ez] at fin ⊢
         clear ez hrun' t5 f5 s2 hpz hHeld
         have hnn':nn=q+1:=by rw [← hnn,List.length_append,List.length_take,List.length_singleton];have:=hkv'.out;omega
         rw [← htk.out] at fin
         subst hnn'
         clear hnn hquo
         go_wp2
         go_meet
         case rel=>exact ⟨no,nc,fin⟩
        exact AllReadyH.nil
       exact AllReadyH.nil
      exact AllReadyH.nil
     refine AllReadyH.cons rfl (fun K hK=>?_) ?_
     ·go_simp
      obtain ⟨x2,ex⟩:∃ x,World.alloc x1 (.cells #[.string KN] 9)=x:=⟨_,rfl⟩
      have qz:Below x1.heap.size x1 x2:=by rw [← ex];exact (Below.refl _ _).alloc (Nat.le_refl _) _
      have hpz:=hid (show At x2 x1.heap.size #[.string KN] 9 by rw [← ex];exact At.new x1 _ _)
      rw [ex]
      obtain ⟨pz,ep⟩:∃ z,x1.heap.size=z:=⟨_,rfl⟩
      have s2:=hid (s1.out.kept qz)
      rw [ep] at hpz ⊢
      clear ex ep qz
      refine hK.out _ _ trivial (fun _=>?_)
      clear hK K
      refine wpAnyH_ready (rs:=[1]) (by kernel_rfl) (by simp) ?_
      refine AllReadyH.cons rfl (fun K hK=>?_) ?_
      ·have t5:x2.cell? ⟨p+1,4,none⟩=some (.slice sk q ck):=s2.out.box.cell 4
       go_simp
       clear t5
       refine hK.out _ _ trivial (fun _=>?_)
       clear hK K
       obtain ⟨nv,y,hrun,hk1,hgr,hap⟩:=(s2.out.obj.1).app hKs.out ⟨pz,0,none⟩ 1 (by simpa [Addr.add] using hpz.out.cell 0) (by rw [List.length_take];omega) s2.out.sz
       obtain ⟨no,nc,rfl⟩:=hk1.shape
       have hrun':=hid hrun
       have fin:=hid (s2.out.key hk1 hgr hap)
       obtain ⟨nn,hnn⟩:∃ n,(List.take q ks++[KN]).length=n:=⟨_,rfl⟩
       rw [hnn] at hrun' fin
       have hbx:=(show At y (p+1) #[.int .i64 6,.bool false,.string ⟨#[]⟩,.string ⟨#[]⟩,.slice sk q ck,.slice so q cp] 59 from (hgr.block (p+1) (by have:=s2.out.sz;omega) (fun e=>by have:=(s2.out.obj.1.blk e.symm).1;omega)).trans s2.out.box)
       have t5:y.cell? ⟨p+1,4,none⟩=some (.slice sk q ck):=hbx.cell 4
       have f5:=hbx.frozen 4
       clear hrun hk1 hgr hap hbx
       refine wpAnyH_ready (rs:=[5]) (by kernel_rfl) (by simp) ?_
       refine AllReadyH.cons rfl (fun K hK=>?_) ?_
       ·rw [if_pos (by rfl)]
        refine wp_append_rowV rfl rfl rfl hrun'.out ?_
        refine hK.out _ _ trivial (fun _=>?_)
        clear hK K
        (refine' wpAnyH_take (i:=6) rfl (by kernel_rfl) (by kernel_rfl) (by kernel_rfl) (fun _ _ _ h=>h) (Or.inl ⟨by rfl,?_⟩) (by assumption) ?_;rotate_left;(· (intro wq hq;(try dsimp only at hq);go_simp;first | done | with_reducible rfl));simp only [psA])
        refine wpAnyH_ready (rs:=[7]) (by kernel_rfl) (by simp) ?_
        refine AllReadyH.cons rfl (fun K hK=>?_) ?_
        ·go_simp
         refine hK.out _ _ trivial (fun _=>?_)
         clear hK K
         refine wpAnyH_done (by kernel_rfl) ?_ _
         refine hKr _ _ ?_
         obtain ⟨z,ez⟩:∃ z,World.setCell y ⟨p+1,4,none⟩ (.slice no nn nc)=z:=⟨_,rfl⟩
         rw [ez] at fin ⊢
         clear ez hrun' t5 f5 s2 hpz hHeld
         have hnn':nn=q+1:=by rw [← hnn,List.length_append,List.length_take,List.length_singleton];have:=hkv'.out;omega
         rw [← htk.out] at fin
         subst hnn'
         clear hnn hquo
         go_wp2
         go_meet
         case rel=>exact ⟨no,nc,fin⟩
        exact AllReadyH.nil
       exact AllReadyH.nil
      exact AllReadyH.nil
     exact AllReadyH.nil
    exact AllReadyH.nil
   case rest =>
    obtain ⟨sk2,ck2,s4⟩:=hcut
    clear s3 hquo hKs
    go_wp2_with fail
    refine Calls.mono (hb2.out _ (hid s4.out.pa)) ?_
    rintro e w3 ⟨rfl,hP1,hF1⟩
    have s5:=hid (s4.out.call hP1 hF1)
    clear hb2 hP1 hF1 s4
    have c1:w3.cell? ⟨b,1,none⟩=some (.int .i64 (dd q:Int)):=s5.out.pa.at_.cell 1
    have g1:=s5.out.pa.at_.frozen 1
    have s6:Hid (CoS b g s p w 6 (dd q+1) (.slice sk2 (q+1) ck2) (.slice so q cp) (ks.take (q+1)) (vs.take q) (w3.setCell ⟨b,1,none⟩ (.int .i64 ((dd q:Int)+1)))):=s5.out.call (s5.out.pa.go ((dd q:Int)+1) (dd q+1) (by omega)) ((PFr.refl b w3).set 1 _)
    go_upto_region 8 with fail
    clear c1 g1 s5
    generalize w3.setCell ⟨b,1,none⟩ (.int .i64 ((dd q:Int)+1))=w4 at s6 ⊢
    refine wp_region_held_drew (S:=fun _=>True) (by kernel_rfl) trivial (fun hHeld=>?_)
    have s0:=hid (s6.out.kept (Below.refl _ _).drew)
    obtain ⟨x0,ex0⟩:∃ x,World.drew w4=x:=⟨_,rfl⟩
    rw [ex0] at s0 ⊢
    clear ex0 s6
    (refine' wpAnyH_take (i:=0) rfl (by kernel_rfl) (by kernel_rfl) (by kernel_rfl) (fun _ _ _ h=>h) (Or.inl ⟨by rfl,?_⟩) (by assumption) ?_;rotate_left;(· (intro wq hq;(try dsimp only at hq);go_simp;first | done | with_reducible rfl));simp only [psA])
    (refine' wpAnyH_take (i:=2) rfl (by kernel_rfl) (by kernel_rfl) (by kernel_rfl) (fun _ _ _ h=>h) (Or.inl ⟨by rfl,?_⟩) (by assumption) ?_;rotate_left;(· (intro wq hq;(try dsimp only at hq);go_simp;first | done | with_reducible rfl));simp only [psA])
    refine wpAnyH_ready (rs:=[1,3]) (by kernel_rfl) (by simp) ?_
    refine AllReadyH.cons rfl (fun K hK=>?_) ?_
    ·have t5:x0.cell? ⟨p+1,5,none⟩=some (.slice so q cp):=s0.out.box.cell 5
     go_simp
     clear t5
     refine hK.out _ _ trivial (fun _=>?_)
     clear hK K
     refine wpAnyH_ready (rs:=[3]) (by kernel_rfl) (by simp) ?_
     refine AllReadyH.cons rfl (fun K hK=>?_) ?_
     ·rw [if_pos (by rfl)]
      go_simp
      refine Calls.mono (hval.out _ (hid s0.out.pa)) ?_
      rintro e x1 ⟨xv,rfl,hV,hP1,hF1⟩
      obtain ⟨ko,kc,vo,vc,rfl⟩:=hV.six
      have hz0:=s0.out.sz
      have V1:=hid (hV.mono (S':=fun c=>p+2≤c∧(Value.slice so q cp).ownBlock≠some c∧(Value.slice sk2 (q+1) ck2).ownBlock≠some c) (fun c _ hc=>⟨Nat.le_trans hz0 hc,fun e=>absurd (s0.out.obj.2.1.blk e).2 (Nat.not_lt.2 hc),fun e=>absurd (s0.out.obj.1.blk e).2 (Nat.not_lt.2 hc)⟩))
      have s1:=hid (s0.out.call hP1 hF1)
      clear hV hP1 hF1 hz0 s0
      refine hK.out _ _ trivial (fun _=>?_)
      clear hK K
      refine wpAnyH_ready (rs:=[4]) (by kernel_rfl) (by simp) ?_
      refine AllReadyH.cons rfl (fun K hK=>?_) ?_
      ·go_simp
       obtain ⟨x2,ex⟩:∃ x,World.alloc x1 (.cells #[.int .i64 u.kind,.bool u.b,.string u.raw,.string u.text,.slice ko u.keys.length kc,.slice vo u.kids.length vc] 59)=x:=⟨_,rfl⟩
       have qz:Below x1.heap.size x1 x2:=by rw [← ex];exact (Below.refl _ _).alloc (Nat.le_refl _) _
       have hpz:=hid (show At x2 x1.heap.size #[.int .i64 u.kind,.bool u.b,.string u.raw,.string u.text,.slice ko u.keys.length kc,.slice vo u.kids.length vc] 59 by rw [← ex];exact At.new x1 _ _)
       rw [ex]
       obtain ⟨pz,ep⟩:∃ z,x1.heap.size=z:=⟨_,rfl⟩
       have s2:=hid (s1.out.kept qz)
       have V2:=hid (V1.out.keptB qz)
       rw [ep] at hpz ⊢
       clear ex ep qz
       refine hK.out _ _ trivial (fun _=>?_)
       clear hK K
       obtain ⟨nv,y,hrun,hk1,hgr,hap⟩:=(s2.out.obj.2.1).app V2.out ⟨pz,0,none⟩ 1 (fun j y hj=>by rw [show (⟨pz,0,none⟩:Addr).add j=⟨pz,j,none⟩ by by_cases h:j=0 <;> simp [Addr.add,h]];rw [hpz.out.cell j];exact hj) (by rw [List.length_take];omega) s2.out.sz
       obtain ⟨no,nc,rfl⟩:=hk1.shape
       have hrun':=hid hrun
       have fin:=hid (s2.out.kid hk1 hgr hap)
       obtain ⟨nn,hnn⟩:∃ n,(List.take q vs++[u]).length=n:=⟨_,rfl⟩
       rw [hnn] at hrun' fin
       have hbx:=(show At y (p+1) #[.int .i64 6,.bool false,.string ⟨#[]⟩,.string ⟨#[]⟩,.slice sk2 (q+1) ck2,.slice so q cp] 59 from (hgr.block (p+1) (by have:=s2.out.sz;omega) (fun e=>by have:=(s2.out.obj.2.1.blk e.symm).1;omega)).trans s2.out.box)
       have t5:y.cell? ⟨p+1,5,none⟩=some (.slice so q cp):=hbx.cell 5
       have f5:=hbx.frozen 5
       clear hrun hk1 hgr hap hbx
       refine wpAnyH_ready (rs:=[5]) (by kernel_rfl) (by simp) ?_
       refine AllReadyH.cons rfl (fun K hK=>?_) ?_
       ·rw [if_pos (by rfl)]
        refine wp_append_rowV rfl rfl rfl hrun'.out ?_
        refine hK.out _ _ trivial (fun _=>?_)
        clear hK K
        (refine' wpAnyH_take (i:=6) rfl (by kernel_rfl) (by kernel_rfl) (by kernel_rfl) (fun _ _ _ h=>h) (Or.inl ⟨by rfl,?_⟩) (by assumption) ?_;rotate_left;(· (intro wq hq;(try dsimp only at hq);go_simp;first | done | with_reducible rfl));simp only [psA])
        refine wpAnyH_ready (rs:=[7]) (by kernel_rfl) (by simp) ?_
        refine AllReadyH.cons rfl (fun K hK=>?_) ?_
        ·go_simp
         refine hK.out _ _ trivial (fun _=>?_)
         clear hK K
         refine wpAnyH_done (by kernel_rfl) ?_ _
         obtain ⟨z,ez⟩:∃ z,World.setCell y ⟨p+1,5,none⟩ (.slice no nn nc)=z:=⟨_,rfl⟩
         rw [ez] at fin ⊢
         clear ez hrun' t5 f5 s2 hpz hHeld V2
         have hnn':nn=q+1:=by rw [← hnn,List.length_append,List.length_take,List.length_singleton];omega
         rw [← hts.out] at fin
         subst hnn'
         have hm2:=hid (fin.out.len)
         clear hnn hval
         refine ⟨⟨_,_,_,_,_,_,_,_,_,_,_,_,_,_,_,_,_,_,_,_,_,_,_,_,_,_,_,⟨q+1,ck2,nc,sk2,no,hlt'.out,fin⟩,rfl⟩,?_⟩
         rw [hm2.out,hm.out]
         have:=hlt'.out
         omega
        exact AllReadyH.nil
       exact AllReadyH.nil
      exact AllReadyH.nil
     exact AllReadyH.nil
    refine AllReadyH.cons rfl (fun K hK=>?_) ?_
    ·rw [if_pos (by rfl)]
     go_simp
     refine Calls.mono (hval.out _ (hid s0.out.pa)) ?_
     rintro e x1 ⟨xv,rfl,hV,hP1,hF1⟩
     obtain ⟨ko,kc,vo,vc,rfl⟩:=hV.six
     have hz0:=s0.out.sz
     have V1:=hid (hV.mono (S':=fun c=>p+2≤c∧(Value.slice so q cp).ownBlock≠some c∧(Value.slice sk2 (q+1) ck2).ownBlock≠some c) (fun c _ hc=>⟨Nat.le_trans hz0 hc,fun e=>absurd (s0.out.obj.2.1.blk e).2 (Nat.not_lt.2 hc),fun e=>absurd (s0.out.obj.1.blk e).2 (Nat.not_lt.2 hc)⟩))
     have s1:=hid (s0.out.call hP1 hF1)
     clear hV hP1 hF1 hz0 s0
     refine hK.out _ _ trivial (fun _=>?_)
     clear hK K
     refine wpAnyH_ready (rs:=[1,4]) (by kernel_rfl) (by simp) ?_
     refine AllReadyH.cons rfl (fun K hK=>?_) ?_
     ·have t5:x1.cell? ⟨p+1,5,none⟩=some (.slice so q cp):=s1.out.box.cell 5
      go_simp
      clear t5
      refine hK.out _ _ trivial (fun _=>?_)
      clear hK K
      refine wpAnyH_ready (rs:=[4]) (by kernel_rfl) (by simp) ?_
      refine AllReadyH.cons rfl (fun K hK=>?_) ?_
      ·go_simp
       obtain ⟨x2,ex⟩:∃ x,World.alloc x1 (.cells #[.int .i64 u.kind,.bool u.b,.string u.raw,.string u.text,.slice ko u.keys.length kc,.slice vo u.kids.length vc] 59)=x:=⟨_,rfl⟩
       have qz:Below x1.heap.size x1 x2:=by rw [← ex];exact (Below.refl _ _).alloc (Nat.le_refl _) _
       have hpz:=hid (show At x2 x1.heap.size #[.int .i64 u.kind,.bool u.b,.string u.raw,.string u.text,.slice ko u.keys.length kc,.slice vo u.kids.length vc] 59 by rw [← ex];exact At.new x1 _ _)
       rw [ex]
       obtain ⟨pz,ep⟩:∃ z,x1.heap.size=z:=⟨_,rfl⟩
       have s2:=hid (s1.out.kept qz)
       have V2:=hid (V1.out.keptB qz)
       rw [ep] at hpz ⊢
       clear ex ep qz
       refine hK.out _ _ trivial (fun _=>?_)
       clear hK K
       obtain ⟨nv,y,hrun,hk1,hgr,hap⟩:=(s2.out.obj.2.1).app V2.out ⟨pz,0,none⟩ 1 (fun j y hj=>by rw [show (⟨pz,0,none⟩:Addr).add j=⟨pz,j,none⟩ by by_cases h:j=0 <;> simp [Addr.add,h]];rw [hpz.out.cell j];exact hj) (by rw [List.length_take];omega) s2.out.sz
       obtain ⟨no,nc,rfl⟩:=hk1.shape
       have hrun':=hid hrun
       have fin:=hid (s2.out.kid hk1 hgr hap)
       obtain ⟨nn,hnn⟩:∃ n,(List.take q vs++[u]).length=n:=⟨_,rfl⟩
       rw [hnn] at hrun' fin
       have hbx:=(show At y (p+1) #[.int .i64 6,.bool false,.string ⟨#[]⟩,.string ⟨#[]⟩,.slice sk2 (q+1) ck2,.slice so q cp] 59 from (hgr.block (p+1) (by have:=s2.out.sz;omega) (fun e=>by have:=(s2.out.obj.2.1.blk e.symm).1;omega)).trans s2.out.box)
       have t5:y.cell? ⟨p+1,5,none⟩=some (.slice so q cp):=hbx.cell 5
       have f5:=hbx.frozen 5
       clear hrun hk1 hgr hap hbx
       refine wpAnyH_ready (rs:=[5]) (by kernel_rfl) (by simp) ?_
       refine AllReadyH.cons rfl (fun K hK=>?_) ?_
       ·rw [if_pos (by rfl)]
        refine wp_append_rowV rfl rfl rfl hrun'.out ?_
        refine hK.out _ _ trivial (fun _=>?_)
        clear hK K
        (refine' wpAnyH_take (i:=6) rfl (by kernel_rfl) (by kernel_rfl) (by kernel_rfl) (fun _ _ _ h=>h) (Or.inl ⟨by rfl,?_⟩) (by assumption) ?_;rotate_left;(· (intro wq hq;(try dsimp only at hq);go_simp;first | done | with_reducible rfl));simp only [psA])
        refine wpAnyH_ready (rs:=[7]) (by kernel_rfl) (by simp) ?_
        refine AllReadyH.cons rfl (fun K hK=>?_) ?_
        ·go_simp
         refine hK.out _ _ trivial (fun _=>?_)
         clear hK K
         refine wpAnyH_done (by kernel_rfl) ?_ _
         obtain ⟨z,ez⟩:∃ z,World.setCell y ⟨p+1,5,none⟩ (.slice no nn nc)=z:=⟨_,rfl⟩
         rw [ez] at fin ⊢
         clear ez hrun' t5 f5 s2 hpz hHeld V2
         have hnn':nn=q+1:=by rw [← hnn,List.length_append,List.length_take,List.length_singleton];omega
         rw [← hts.out] at fin
         subst hnn'
         have hm2:=hid (fin.out.len)
         clear hnn hval
         refine ⟨⟨_,_,_,_,_,_,_,_,_,_,_,_,_,_,_,_,_,_,_,_,_,_,_,_,_,_,_,⟨q+1,ck2,nc,sk2,no,hlt'.out,fin⟩,rfl⟩,?_⟩
         rw [hm2.out,hm.out]
         have:=hlt'.out
         omega
        exact AllReadyH.nil
       exact AllReadyH.nil
      exact AllReadyH.nil
     refine AllReadyH.cons rfl (fun K hK=>?_) ?_
     ·go_simp
      obtain ⟨x2,ex⟩:∃ x,World.alloc x1 (.cells #[.int .i64 u.kind,.bool u.b,.string u.raw,.string u.text,.slice ko u.keys.length kc,.slice vo u.kids.length vc] 59)=x:=⟨_,rfl⟩
      have qz:Below x1.heap.size x1 x2:=by rw [← ex];exact (Below.refl _ _).alloc (Nat.le_refl _) _
      have hpz:=hid (show At x2 x1.heap.size #[.int .i64 u.kind,.bool u.b,.string u.raw,.string u.text,.slice ko u.keys.length kc,.slice vo u.kids.length vc] 59 by rw [← ex];exact At.new x1 _ _)
      rw [ex]
      obtain ⟨pz,ep⟩:∃ z,x1.heap.size=z:=⟨_,rfl⟩
      have s2:=hid (s1.out.kept qz)
      have V2:=hid (V1.out.keptB qz)
      rw [ep] at hpz ⊢
      clear ex ep qz
      refine hK.out _ _ trivial (fun _=>?_)
      clear hK K
      refine wpAnyH_ready (rs:=[1]) (by kernel_rfl) (by simp) ?_
      refine AllReadyH.cons rfl (fun K hK=>?_) ?_
      ·have t5:x2.cell? ⟨p+1,5,none⟩=some (.slice so q cp):=s2.out.box.cell 5
       go_simp
       clear t5
       refine hK.out _ _ trivial (fun _=>?_)
       clear hK K
       obtain ⟨nv,y,hrun,hk1,hgr,hap⟩:=(s2.out.obj.2.1).app V2.out ⟨pz,0,none⟩ 1 (fun j y hj=>by rw [show (⟨pz,0,none⟩:Addr).add j=⟨pz,j,none⟩ by by_cases h:j=0 <;> simp [Addr.add,h]];rw [hpz.out.cell j];exact hj) (by rw [List.length_take];omega) s2.out.sz
       obtain ⟨no,nc,rfl⟩:=hk1.shape
       have hrun':=hid hrun
       have fin:=hid (s2.out.kid hk1 hgr hap)
       obtain ⟨nn,hnn⟩:∃ n,(List.take q vs++[u]).length=n:=⟨_,rfl⟩
       rw [hnn] at hrun' fin
       have hbx:=(show At y (p+1) #[.int .i64 6,.bool false,.string ⟨#[]⟩,.string ⟨#[]⟩,.slice sk2 (q+1) ck2,.slice so q cp] 59 from (hgr.block (p+1) (by have:=s2.out.sz;omega) (fun e=>by have:=(s2.out.obj.2.1.blk e.symm).1;omega)).trans s2.out.box)
       have t5:y.cell? ⟨p+1,5,none⟩=some (.slice so q cp):=hbx.cell 5
       have f5:=hbx.frozen 5
       clear hrun hk1 hgr hap hbx
       refine wpAnyH_ready (rs:=[5]) (by kernel_rfl) (by simp) ?_
       refine AllReadyH.cons rfl (fun K hK=>?_) ?_
       ·rw [if_pos (by rfl)]
        refine wp_append_rowV rfl rfl rfl hrun'.out ?_
        refine hK.out _ _ trivial (fun _=>?_)
        clear hK K
        (refine' wpAnyH_take (i:=6) rfl (by kernel_rfl) (by kernel_rfl) (by kernel_rfl) (fun _ _ _ h=>h) (Or.inl ⟨by rfl,?_⟩) (by assumption) ?_;rotate_left;(· (intro wq hq;(try dsimp only at hq);go_simp;first | done | with_reducible rfl));simp only [psA])
        refine wpAnyH_ready (rs:=[7]) (by kernel_rfl) (by simp) ?_
        refine AllReadyH.cons rfl (fun K hK=>?_) ?_
        ·go_simp
         refine hK.out _ _ trivial (fun _=>?_)
         clear hK K
         refine wpAnyH_done (by kernel_rfl) ?_ _
         obtain ⟨z,ez⟩:∃ z,World.setCell y ⟨p+1,5,none⟩ (.slice no nn nc)=z:=⟨_,rfl⟩
         rw [ez] at fin ⊢
         clear ez hrun' t5 f5 s2 hpz hHeld V2
         have hnn':nn=q+1:=by rw [← hnn,List.length_append,List.length_take,List.length_singleton];omega
         rw [← hts.out] at fin
         subst hnn'
         have hm2:=hid (fin.out.len)
         clear hnn hval
         refine ⟨⟨_,_,_,_,_,_,_,_,_,_,_,_,_,_,_,_,_,_,_,_,_,_,_,_,_,_,_,⟨q+1,ck2,nc,sk2,no,hlt'.out,fin⟩,rfl⟩,?_⟩
         rw [hm2.out,hm.out]
         have:=hlt'.out
         omega
        exact AllReadyH.nil
       exact AllReadyH.nil
      exact AllReadyH.nil
     exact AllReadyH.nil
    exact AllReadyH.nil
end Go.Proofs.YtjcpamjeekfblaaGreatDoor

namespace Go.Proofs.YtjcpamjeekfblaaGreatDoor
def NoBad (s:ByteArray):Prop:=∀ k,¬ BadAt s k
theorem read_end_scan (s:ByteArray) (p:Nat):(readS s p).2.1=(scanS s p).2:=by
 unfold readS
 split
 ·rfl
 ·split <;> rfl
theorem step_in {s:ByteArray} (hb:NoBad s) {i:Nat} {m:Mc} (t:Tk s i m) (hw:wholeM m=false):∃ k,stepM m (byteAt s i)=some k:=by
 cases h:stepM m (byteAt s i) with
 | none=>exact absurd (t.fail hw h) (hb i)
 | some k=>exact ⟨k,rfl⟩
theorem qe_ex {s:ByteArray} (hb:NoBad s) {nm:Bool} {op:List Nat}:∀ (n p:Nat) (m:Mc),s.size-p≤n→Tk s p m→(m.st=6∨m.st=8)→m.nm=nm→m.op=op→∃ e k,QE s p e∧Tk s (e+1) k∧k.op=op∧k.st=if nm then 4 else 5:=by
 intro n
 induction n with
 | zero =>
  intro p m hn t hst hnm hop
  exfalso
  obtain ⟨k,hk⟩:=step_in hb t (whole_not (by omega) (by omega) (by omega) (by omega) (by omega))
  rw [byteAt_out s p (by omega)] at hk
  rcases hst with h | h
  ·rw [step_text h] at hk
   have hlo:=t.lo h
   unfold charM at hk
   repeat' split at hk
   all_goals first | (cases hk;done) | omega
  ·rw [step_esc (.inr h)] at hk
   unfold escM at hk
   rw [if_pos h,if_neg (by decide)] at hk
   cases hk
 | succ n ih =>
  intro p m hn t hst hnm hop
  obtain ⟨k,hk⟩:=step_in hb t (whole_not (by omega) (by omega) (by omega) (by omega) (by omega))
  have hlo:=t.lo
  have hp:p<s.size:=by
   rcases Nat.lt_or_ge p s.size with h | h
   ·exact h
   ·exfalso
    rw [byteAt_out s p h] at hk
    rcases hst with h | h
    ·rw [step_text h] at hk
     have hlo':=hlo h
     unfold charM at hk
     repeat' split at hk
     all_goals first | (cases hk;done) | omega
    ·rw [step_esc (.inr h)] at hk
     unfold escM at hk
     rw [if_pos h,if_neg (by decide)] at hk
     cases hk
  have tk:=t.next hp hk
  rcases hst with h | h
  ·by_cases h34:byteAt s p=34∧m.lf=0
   ·obtain ⟨k',t',o',s'⟩:=InT.done (nm:=nm) (op:=op) t ⟨h,h34.2,hnm,hop⟩ h34.1
    exact ⟨p,k',.stop p hp h34.1,t',o',s'⟩
   ·by_cases h92:byteAt s p=92∧m.lf=0
    ·obtain ⟨k',t',hE⟩:=InT.slash (nm:=nm) (op:=op) t ⟨h,h92.2,hnm,hop⟩ h92.1
     have hEst:=hE.st
     obtain ⟨k2,hk2⟩:=step_in hb t' (whole_not (by omega) (by omega) (by omega) (by omega) (by omega))
     have hk2':=hk2
     rw [step_esc (.inl hE.st)] at hk2
     unfold escM at hk2
     rw [if_neg (by omega)] at hk2
     have hp1:p+1<s.size:=by
      rcases Nat.lt_or_ge (p+1) s.size with x | x
      ·exact x
      ·exfalso
       rw [byteAt_out s _ x] at hk2
       simp at hk2
     have t2:=t'.next hp1 hk2'
     have hst2:(k2.st=6∨k2.st=8)∧k2.nm=nm∧k2.op=op:=by
      split at hk2
      ·injection hk2 with hk2;subst hk2;exact ⟨.inl rfl,hE.nm,hE.op⟩
      ·split at hk2
       ·injection hk2 with hk2;subst hk2;exact ⟨.inr rfl,hE.nm,hE.op⟩
       ·cases hk2
     obtain ⟨e,k3,q1,q2,q3,q4⟩:=ih (p+2) k2 (by omega) t2 hst2.1 hst2.2.1 hst2.2.2
     exact ⟨e,k3,.esc p e hp h92.1 q1,q2,q3,q4⟩
    ·have hks:k.st=6∧k.nm=nm∧k.op=op∧byteAt s p≠34∧byteAt s p≠92:=by
      rw [step_text h] at hk
      unfold charM at hk
      have hlo':=hlo h
      by_cases hlf:0<m.lf
      ·rw [if_pos hlf] at hk
       split at hk
       ·cases hk
       ·rename_i hr
        injection hk with hk
        subst hk
        have:=hlo' hlf
        exact ⟨h,hnm,hop,by omega,by omega⟩
      ·have n34:byteAt s p≠34:=fun e=>h34 ⟨e,by omega⟩
       have n92:byteAt s p≠92:=fun e=>h92 ⟨e,by omega⟩
       rw [if_neg hlf,if_neg (by omega),if_neg n34,if_neg n92] at hk
       refine ⟨?_,?_,?_,n34,n92⟩
       all_goals
        repeat' split at hk
        all_goals first
         | (cases hk;done)
         | (injection hk with hk;subst hk;first | exact h | exact hnm | exact hop)
     obtain ⟨e,k3,q1,q2,q3,q4⟩:=ih (p+1) k (by omega) tk (.inl hks.1) hks.2.1 hks.2.2.1
     exact ⟨e,k3,.step p e hp hks.2.2.2.1 hks.2.2.2.2 q1,q2,q3,q4⟩
  ·rw [step_esc (.inr h)] at hk
   unfold escM at hk
   rw [if_pos h] at hk
   split at hk
   ·rename_i hx
    injection hk with hk
    have hx':=of_decide_eq_true hx
    have hks:(k.st=6∨k.st=8)∧k.nm=nm∧k.op=op:=by
     subst hk
     refine ⟨?_,hnm,hop⟩
     show (if m.lf=1 then 6 else 8)=6∨(if m.lf=1 then 6 else 8)=8
     split
     ·exact .inl rfl
     ·exact .inr rfl
    obtain ⟨e,k3,q1,q2,q3,q4⟩:=ih (p+1) k (by omega) tk hks.1 hks.2.1 hks.2.2
    exact ⟨e,k3,.step p e hp (by omega) (by omega) q1,q2,q3,q4⟩
   ·cases hk
theorem txt_ex {s:ByteArray} (hb:NoBad s) {nm:Bool} {i:Nat} {m:Mc} (t:Tk s i m) (h:Qw s i nm m):∃ T j k,Txt s i j T∧Tk s j k∧k.op=m.op∧k.st=if nm then 4 else 5:=by
 have hc:byteAt s i=34:=by
  by_cases hc:byteAt s i=34
  ·exact hc
  ·exact absurd (h.off t hc) (hb i)
 obtain ⟨k,t',hI⟩:=h.go t hc
 obtain ⟨e,k',q1,q2,q3,q4⟩:=qe_ex hb (nm:=nm) (op:=m.op) _ (i+1) k (Nat.le_refl _) t' (.inl hI.st) hI.nm hI.op
 exact ⟨_,e+1,k',⟨hc,e,q1,rfl,rfl⟩,q2,q3,q4⟩
theorem word_ex {s:ByteArray} (hb:NoBad s) {i:Nat} {m:Mc} (t:Tk s i m) (hv:Vw s i m) {u:List Nat} (hu:IsWord u) (hc:byteAt s i=u.getD 0 0):∃ k,Tk s (i+u.length) k∧k.op=m.op∧k.st=5:=by
 have key:∀ j,j≤u.length→∃ k,Tk s (i+j) k∧InW u j m k:=by
  intro j
  induction j with
  | zero=>exact fun _=>⟨m,t,.inl ⟨rfl,rfl⟩⟩
  | succ j ih =>
   intro hj
   obtain ⟨k,t',h'⟩:=ih (by omega)
   by_cases hx:byteAt s (i+j)=u.getD j 0
   ·exact InW.go hu hv h' t' (by omega) hx
   ·exfalso
    by_cases hj0:j=0
    ·subst hj0;exact hx hc
    ·exact hb _ (InW.off (by omega) h' t' (by omega) hx)
 obtain ⟨k,t',h'⟩:=key u.length (Nat.le_refl _)
 obtain ⟨h1,h2⟩:=h'.done hu t'
 exact ⟨k,t',h1,h2⟩
end Go.Proofs.YtjcpamjeekfblaaGreatDoor

namespace Go.Proofs.YtjcpamjeekfblaaGreatDoor
def push0 (x:Nat) (f:Nat→Nat):Nat→Nat
 | 0=>x
 | q+1=>f q
theorem skip_self {s:ByteArray} {j:Nat} (h:j≤s.size) (hb:blankN (byteAt s j)=false):IsSkip s j j:=⟨Nat.le_refl _,h,fun q a b=>by omega,.inr hb⟩
def ValEx (s:ByteArray) (i:Nat):Prop:=∀ (j:Nat) (m:Mc),i<j→Tk s j m→Vw s j m→blankN (byteAt s j)=false→∃ t e k,PV s j t e∧Tk s e k∧Bhd s e k∧k.op=m.op∧j<e
theorem arr_ex {s:ByteArray} (hb:NoBad s) {i:Nat} (hi:ValEx s i) {op:List Nat}:∀ (n p:Nat) (m:Mc),s.size-p≤n→i<p→Tk s p m→(m.st=1∨Bhd s p m)→m.op=op++[91]→blankN (byteAt s p)=false →
  ∃ (vs:List Vt) (a b c:Nat→Nat) (k:Mc),a 0=p∧(∀ q,q<vs.length→byteAt s (a q)≠93∧a q<s.size∧IsSkip s (if byteAt s (a q)=44 then a q+1 else a q) (b q)∧b q<s.size) ∧
   (∀ (q:Nat) (u:Vt),vs[q]? = some u→PV s (b q) u (c q))∧(∀ q,q<vs.length→IsSkip s (c q) (a (q+1)))∧byteAt s (a vs.length)=93∧a vs.length<s.size∧Tk s (a vs.length+1) k∧k.op=op∧k.st=5∧p≤a vs.length:=by
 intro n
 induction n with
 | zero =>
  intro p m hn hp t hst ho hbl
  exfalso
  have hps:s.size≤p:=by omega
  have h0:byteAt s p=0:=byteAt_out s p hps
  rcases hst with h | h
  ·obtain ⟨k,hk⟩:=step_in hb t (whole_open (by rw [ho];simp))
   rw [step_value (.inr ⟨h,by omega,hbl⟩) hbl,h0] at hk
   unfold valueM at hk
   simp [digN] at hk
  ·exact hb p (comma_off t h ho hbl (by omega) (by omega))
 | succ n ih =>
  intro p m hn hp t hst ho hbl
  by_cases h93:byteAt s p=93
  ·obtain ⟨k,t',o',s'⟩:=Cw.shut t (hst.elim .inl (fun h=>.inr (.inr h))) ho h93
   exact ⟨[],fun _=>p,fun _=>p,fun _=>p,k,rfl,fun q h=>by simp at h,fun q u h=>by simp at h,fun q h=>by simp at h,h93,(show p<s.size from byteAt_in (by omega)),t',o',s',Nat.le_refl _⟩
  ·-- where the value begins
   have hbeg:∃ b k0,IsSkip s (if byteAt s p=44 then p+1 else p) b∧Tk s b k0∧Vw s b k0∧k0.op=m.op∧i<b∧blankN (byteAt s b)=false:=by
    rcases hst with h | h
    ·have n44:byteAt s p≠44:=fun e=>by
      obtain ⟨k,hk⟩:=step_in hb t (whole_open (by rw [ho];simp))
      rw [step_value (.inr ⟨h,h93,hbl⟩) hbl,e] at hk
      unfold valueM at hk
      simp [digN] at hk
     rw [if_neg n44]
     exact ⟨p,m,skip_self t.1 hbl,t,.inr ⟨h,h93,hbl⟩,rfl,hp,hbl⟩
    ·have e44:byteAt s p=44:=by
      by_cases e:byteAt s p=44
      ·exact e
      ·exact absurd (comma_off t h ho hbl (by omega) e) (hb p)
     rw [if_pos e44]
     obtain ⟨k,t',o',s'⟩:=comma_tk t h ho e44
     rw [if_pos rfl] at s'
     obtain ⟨b,hsk⟩:=skip_ex s _ (p+1) (Nat.le_refl _) t'.1
     obtain ⟨t2,-⟩:=t'.skip (by omega) hsk
     exact ⟨b,k,hsk,t2,.inl s',o',by have:=hsk.1;omega,skip_not hsk⟩
   obtain ⟨b0,k0,hsk,t0,v0,o0,hib,hbl0⟩:=hbeg
   obtain ⟨u0,e0,k1,hPV,t1,hB1,o1,hlt⟩:=hi b0 k0 hib t0 v0 hbl0
   obtain ⟨p',hsk'⟩:=skip_ex s _ e0 (Nat.le_refl _) t1.1
   obtain ⟨k2,t2,hB2,o2,-⟩:=t1.skipB hB1 hsk'
   have hle:=hPV.le
   have hb1:=hsk.1
   have hb2:=hsk'.1
   have hpb:p≤b0:=by split at hb1 <;> omega
   obtain ⟨vs,a,b,c,k,ha,hq,hv,hs,he,hne,tk,ok,sk,hpa⟩:=ih p' k2 (by omega) (by omega) t2 (.inr hB2) (by rw [o2,o1,o0,ho]) (skip_not hsk')
   refine ⟨u0 :: vs,push0 p a,push0 b0 b,push0 e0 c,k,rfl,fun q hqq=>?_,fun q u hu=>?_,fun q hqq=>?_,he,hne,tk,ok,sk,(show p≤a vs.length by omega)⟩
   ·cases q with
    | zero=>exact ⟨h93,by show p<s.size;omega,hsk,hle.1⟩
    | succ q=>exact hq q (by simpa using hqq)
   ·cases q with
    | zero=>simp at hu;subst hu;exact hPV
    | succ q=>exact hv q u (by simpa using hu)
   ·cases q with
    | zero =>
     show IsSkip s e0 (a 0)
     rw [ha]
     exact hsk'
    | succ q=>exact hs q (by simpa using hqq)
theorem obj_ex {s:ByteArray} (hb:NoBad s) {i:Nat} (hi:ValEx s i) {op:List Nat}:∀ (n p:Nat) (m:Mc),s.size-p≤n→i<p→Tk s p m→(m.st=2∨Bhd s p m)→m.op=op++[123]→blankN (byteAt s p)=false →
  ∃ (ks:List ByteArray) (vs:List Vt) (a nn mm d b c:Nat→Nat) (k:Mc),ks.length=vs.length∧a 0=p∧(∀ q,q<vs.length→byteAt s (a q)≠125∧a q<s.size∧IsSkip s (if byteAt s (a q)=44 then a q+1 else a q) (nn q)∧nn q<s.size∧IsSkip s (mm q) (d q)∧d q<s.size∧IsSkip s (d q+1) (b q)∧b q<s.size) ∧
   (∀ (q:Nat) (K:ByteArray),ks[q]? = some K→Txt s (nn q) (mm q) K) ∧
   (∀ (q:Nat) (u:Vt),vs[q]? = some u→PV s (b q) u (c q))∧(∀ q,q<vs.length→IsSkip s (c q) (a (q+1)))∧byteAt s (a vs.length)=125∧a vs.length<s.size∧Tk s (a vs.length+1) k∧k.op=op∧k.st=5∧p≤a vs.length:=by
 intro n
 induction n with
 | zero =>
  intro p m hn hp t hst ho hbl
  exfalso
  have hps:s.size≤p:=by omega
  have h0:byteAt s p=0:=byteAt_out s p hps
  rcases hst with h | h
  ·have hq:=qw_name t (.inr ⟨h,by omega⟩) hbl
   exact hb p (hq.off t (by omega))
  ·exact hb p (comma_off t h ho hbl (by omega) (by omega))
 | succ n ih =>
  intro p m hn hp t hst ho hbl
  by_cases h125:byteAt s p=125
  ·obtain ⟨k,t',o',s'⟩:=Cw.shut t (hst.elim (fun h=>.inr (.inl h)) (fun h=>.inr (.inr h))) ho h125
   exact ⟨[],[],fun _=>p,fun _=>p,fun _=>p,fun _=>p,fun _=>p,fun _=>p,k,rfl,rfl,fun q h=>by simp at h,fun q u h=>by simp at h,fun q u h=>by simp at h,fun q h=>by simp at h,h125,(show p<s.size from byteAt_in (by omega)),t',o',s',Nat.le_refl _⟩
  ·have hbeg:∃ b k0,IsSkip s (if byteAt s p=44 then p+1 else p) b∧Tk s b k0∧Qw s b true k0∧k0.op=m.op∧i<b:=by
    rcases hst with h | h
    ·have hq:=qw_name t (.inr ⟨h,h125⟩) hbl
     have n44:byteAt s p≠44:=fun e=>hb p (hq.off t (by omega))
     rw [if_neg n44]
     exact ⟨p,m,skip_self t.1 hbl,t,hq,rfl,hp⟩
    ·have e44:byteAt s p=44:=by
      by_cases e:byteAt s p=44
      ·exact e
      ·exact absurd (comma_off t h ho hbl (by omega) e) (hb p)
     rw [if_pos e44]
     obtain ⟨k,t',o',s'⟩:=comma_tk t h ho e44
     rw [if_neg (by decide)] at s'
     obtain ⟨b,hsk⟩:=skip_ex s _ (p+1) (Nat.le_refl _) t'.1
     obtain ⟨t2,-⟩:=t'.skip (by omega) hsk
     exact ⟨b,k,hsk,t2,qw_name t2 (.inl s') (skip_not hsk),o',by have:=hsk.1;omega⟩
   obtain ⟨n0,k0,hsk,t0,hq0,o0,hib⟩:=hbeg
   obtain ⟨K0,m0,k1,hT,t1,o1,s1⟩:=txt_ex hb t0 hq0
   have s1':k1.st=4:=by simpa using s1
   obtain ⟨d0,hskd⟩:=skip_ex s _ m0 (Nat.le_refl _) t1.1
   obtain ⟨t2,-⟩:=t1.skip (by omega) hskd
   have h58:byteAt s d0=58:=by
    by_cases e:byteAt s d0=58
    ·exact e
    ·exact absurd (colon_off t2 s1' (skip_not hskd) e) (hb d0)
   obtain ⟨k2,t3,o3,s3⟩:=colon_tk t2 s1' h58
   obtain ⟨b0,hskb⟩:=skip_ex s _ (d0+1) (Nat.le_refl _) t3.1
   obtain ⟨t4,-⟩:=t3.skip (by omega) hskb
   have hTl:=hT.le
   have hb1:=hsk.1
   have hb2:=hskd.1
   have hb3:=hskb.1
   obtain ⟨u0,e0,k3,hPV,t5,hB5,o5,hlt⟩:=hi b0 k2 (by omega) t4 (.inl s3) (skip_not hskb)
   obtain ⟨p',hsk'⟩:=skip_ex s _ e0 (Nat.le_refl _) t5.1
   obtain ⟨k6,t6,hB6,o6,-⟩:=t5.skipB hB5 hsk'
   have hle:=hPV.le
   have hb4:=hsk'.1
   have hpn:p≤n0:=by split at hb1 <;> omega
   obtain ⟨ks,vs,a,nn,mm,d,b,c,k,hkv,ha,hq,hk,hv,hs,he,hne,tk,ok,sk,hpa⟩:=ih p' k6 (by omega) (by omega) t6 (.inr hB6) (by rw [o6,o5,o3,o1,o0,ho]) (skip_not hsk')
   refine ⟨K0 :: ks,u0 :: vs,push0 p a,push0 n0 nn,push0 m0 mm,push0 d0 d,push0 b0 b,push0 e0 c,k,by simp [hkv],rfl,fun q hqq=>?_,fun q K hK=>?_,fun q u hu=>?_,fun q hqq=>?_,he,hne,tk,ok,sk,(show p≤a vs.length by omega)⟩
   ·cases q with
    | zero=>exact ⟨h125,by show p<s.size;omega,hsk,hTl.1,hskd,(show d0<s.size from byteAt_in (by omega)),hskb,hle.1⟩
    | succ q=>exact hq q (by simpa using hqq)
   ·cases q with
    | zero=>simp at hK;subst hK;exact hT
    | succ q=>exact hk q K (by simpa using hK)
   ·cases q with
    | zero=>simp at hu;subst hu;exact hPV
    | succ q=>exact hv q u (by simpa using hu)
   ·cases q with
    | zero =>
     show IsSkip s e0 (a 0)
     rw [ha]
     exact hsk'
    | succ q=>exact hs q (by simpa using hqq)
theorem pv_ex {s:ByteArray} (hb:NoBad s):∀ (n i:Nat) (m:Mc),s.size-i≤n→Tk s i m→Vw s i m→blankN (byteAt s i)=false→∃ t j k,PV s i t j∧Tk s j k∧Bhd s j k∧k.op=m.op∧i<j:=by
 intro n
 induction n with
 | zero =>
  intro i m hn t hv hbl
  exfalso
  obtain ⟨k,hk⟩:=step_in hb t hv.whole
  rw [step_value hv hbl,byteAt_out s i (by omega)] at hk
  unfold valueM at hk
  simp [digN] at hk
 | succ n ih =>
  intro i m hn t hv hbl
  have hi:ValEx s i:=fun j k h1 h2 h3 h4=>ih j k (by omega) h2 h3 h4
  by_cases c1:byteAt s i=110
  ·obtain ⟨k,t',o',s'⟩:=word_ex hb t hv (u:=[110,117,108,108]) (.inl rfl) c1
   exact ⟨_,_,k,.null i c1 t'.1,t',bhd_five s',o',by simp⟩
  by_cases c2:byteAt s i=116
  ·obtain ⟨k,t',o',s'⟩:=word_ex hb t hv (u:=[116,114,117,101]) (.inr (.inl rfl)) c2
   exact ⟨_,_,k,.yes i c2 t'.1,t',bhd_five s',o',by simp⟩
  by_cases c3:byteAt s i=102
  ·obtain ⟨k,t',o',s'⟩:=word_ex hb t hv (u:=[102,97,108,115,101]) (.inr (.inr rfl)) c3
   exact ⟨_,_,k,.no i c3 t'.1,t',bhd_five s',o',by simp⟩
  by_cases c4:byteAt s i=34
  ·obtain ⟨T,j,k,hT,t',o',s'⟩:=txt_ex hb t (qw_value t hv c4)
   have:=hT.le
   exact ⟨_,j,k,.text i j T hT,t',bhd_five (by simpa using s'),o',by omega⟩
  by_cases c5:byteAt s i=91
  ·obtain ⟨k,t',o',s'⟩:=open_tk t hv (.inl c5)
   rw [if_pos c5] at s'
   rw [c5] at o'
   obtain ⟨p,hsk⟩:=skip_ex s _ (i+1) (Nat.le_refl _) t'.1
   obtain ⟨t2,-⟩:=t'.skip (by omega) hsk
   have hp:=hsk.1
   obtain ⟨vs,a,b,c,k3,ha,hq,hvv,hs,he,hne,tk,ok,sk,hpa⟩:=arr_ex hb hi _ p k (Nat.le_refl _) (by omega) t2 (.inl s') o' (skip_not hsk)
   have hPV:=PV.arr i vs a b c c5 (by rw [ha];exact hsk) hq hvv hs he hne
   exact ⟨_,_,k3,hPV,tk,bhd_five sk,ok,by omega⟩
  by_cases c6:byteAt s i=123
  ·obtain ⟨k,t',o',s'⟩:=open_tk t hv (.inr c6)
   rw [if_neg (by omega)] at s'
   rw [c6] at o'
   obtain ⟨p,hsk⟩:=skip_ex s _ (i+1) (Nat.le_refl _) t'.1
   obtain ⟨t2,-⟩:=t'.skip (by omega) hsk
   have hp:=hsk.1
   obtain ⟨ks,vs,a,nn,mm,d,b,c,k3,hkv,ha,hq,hk,hvv,hs,he,hne,tk,ok,sk,hpa⟩:=obj_ex hb hi _ p k (Nat.le_refl _) (by omega) t2 (.inl s') o' (skip_not hsk)
   have hPV:=PV.obj i ks vs hkv a nn mm d b c c6 (by rw [ha];exact hsk) hq hk hvv hs he hne
   exact ⟨_,_,k3,hPV,tk,bhd_five sk,ok,by omega⟩
  ·rcases num_tk t hv hbl ⟨c5,c6,c4,c1,c2,c3⟩ with ⟨-,h⟩ | ⟨-,h1,-,k,h2,h3,h4⟩
   ·exact absurd h (hb _)
   ·have hre:=read_end_scan s i
    exact ⟨_,_,k,.num i _ (by have:=h2.1;omega) ⟨c5,c6,c4,c1,c2,c3⟩ hre (by omega) h2.1,h2,h4,h3,h1⟩
theorem doc_pv {s:ByteArray} (h:docM (byts s)):∃ i t j,IsSkip s 0 i∧PV s i t j:=by
 have hb:NoBad s:=fun k hk=>bad_doc hk h
 obtain ⟨i,hsk⟩:=skip_ex s _ 0 (Nat.le_refl _) (Nat.zero_le _)
 obtain ⟨t2,-⟩:=(tk0 s).skip (by decide) hsk
 obtain ⟨t,j,k,hPV,-⟩:=pv_ex hb _ i mc0 (Nat.le_refl _) t2 (.inl rfl) (skip_not hsk)
 exact ⟨i,t,j,hsk,hPV⟩
end Go.Proofs.YtjcpamjeekfblaaGreatDoor
