import Derived.Test.YtjcpamjeekfblaaGreatDoorPack1
import Derived.Test.YtjcpamjeekfblaaGreatDoorPack11
namespace Go.Proofs.YtjcpamjeekfblaaGreatDoor
open Go.RowKit Go.Shelf
set_option maxRecDepth 10000 in
set_option maxHeartbeats 16000000 in
theorem copied20_ex:∀ (n:Nat) (t:Vt),SizeOf.sizeOf t≤n→lnV t→∀ (va:Value) (w:World),ValAt w t va →
  Calls Tryz.prog 93 #[va] w fun e w'=>∃ x:Value,e = .returned x∧ValOn (fun b=>w.heap.size≤b) w' t x∧Below w.heap.size w w':=by
 intro n
 induction n with
 | zero =>
  intro t hs
  cases t
  simp at hs
 | succ n ih =>
  intro t hs hln va w ha
  cases ha with
  | mk k b r t ks vs ko kc vo vc X hw hz hk hr hv =>
  unfold lnV at hln
  have ih':=hid ih
  have hs':=hid hs
  have hk':=hid hk
  have hr':=hid hr
  have hv':=hid hv
  have hz':=hid hz
  have hw':=hid hw
  have hln':=hid hln
  have hks:Hid (∀ (i:Nat) (s:ByteArray),ks[i]? = some s→s.size≤capT):=fun i s h=>(hk i s h).1
  obtain ⟨N,hN⟩:∃ N,Hid (ks.length=N):=⟨_,rfl⟩
  obtain ⟨M,hM⟩:∃ M,Hid (vs.length=M):=⟨_,rfl⟩
  rw [hN.out,hM.out]
  have hNi:(N:Int)≤1099511627776:=by have:=hln.1;rw [hN.out] at this;omega
  have hMi:(M:Int)≤1099511627776:=by have:=hln.2.1;rw [hM.out] at this;omega
  have hNn:Hid (N≤1099511627776):=by show _≤_;omega
  have hMn:Hid (M≤1099511627776):=by show _≤_;omega
  have hcl1:=hid (fun u=>cloneT_calls r (by have:=hz.1;unfold capT at this;omega) u)
  have hcl2:=hid (fun u=>cloneT_calls t (by have:=hz.2.1;unfold capT at this;omega) u)
  clear ih hs hk hr hv hz hw hln
  obtain ⟨H,hH⟩:∃ H,w.heap.size=H:=⟨_,rfl⟩
  rw [hH]
  obtain ⟨W1,hW1⟩:∃ W,w.alloc (.cells #[.int .i64 k,.bool b,.string r,.string t,.slice ko N kc,.slice vo M vc] 59)=W:=⟨_,rfl⟩
  obtain ⟨W2,hW2⟩:∃ W,W1.alloc (.cells #[.int .i64 0,.bool false,.string ⟨#[]⟩,.string ⟨#[]⟩,.slice none 0 0,.slice none 0 0] 59)=W:=⟨_,rfl⟩
  have hsz1:W1.heap.size=H+1:=by rw [← hW1,World.size_alloc,hH]
  have A1:Hid (At W2 H #[.int .i64 k,.bool b,.string r,.string t,.slice ko N kc,.slice vo M vc] 59):=by
   rw [← hW2,← hW1,← hH]
   exact (At.new w _ _).alloc _
  have A2:Hid (At W2 (H+1) #[.int .i64 0,.bool false,.string ⟨#[]⟩,.string ⟨#[]⟩,.slice none 0 0,.slice none 0 0] 59):=by
   have h:=At.new W1 #[.int .i64 0,.bool false,.string ⟨#[]⟩,.string ⟨#[]⟩,.slice none 0 0,.slice none 0 0] 59
   rw [hW2,hsz1] at h
   exact h
  have B1:Hid (Below H w W2):=by
   rw [← hW2,← hW1,← hH]
   exact ((Below.refl _ w).alloc (Nat.le_refl _) _).alloc (by rw [World.size_alloc];omega) _
  have hbel:Hid (∀ {u u':World},Below H w u→Below u.heap.size u u'→Below H w u'):=fun h h'=>by
   rw [← hH] at h ⊢
   exact belowF h h'
  have hHw:=hid hH
  go_enter Tryz.func93,Tryz.ntmps93
  go_upto_region 1 with fail
  clear hW1 hW2 hsz1 hH
  -- the texts
  go_cut [7] from 7 to 14 (fun _ wx=>Hid (At wx H #[.int .i64 k,.bool b,.string r,.string t,.slice ko N kc,.slice vo M vc] 59)∧Hid (At wx (H+1) #[.int .i64 0,.bool false,.string ⟨#[]⟩,.string ⟨#[]⟩,.slice none 0 0,.slice none 0 0] 59)∧Hid (Below H w wx))
  case first =>
   have d2:W2.cell? ⟨H,2,none⟩=some (.string r):=A1.out.cell 2
   have d3:W2.cell? ⟨H,3,none⟩=some (.string t):=A1.out.cell 3
   have hx0:W2.drew.cell? ⟨H,2,none⟩=some (.string r)∧W2.drew.cell? ⟨H,3,none⟩=some (.string t):=⟨d2,d3⟩
   have q0:=hid (show Below W2.heap.size W2 W2.drew from (Below.refl _ _).drew)
   have C1:=hid (A1.out.keptAll q0.out)
   have C2:=hid (A2.out.keptAll q0.out)
   have Cb:=hid (hbel.out B1.out q0.out)
   go_wp2
   refine wp_region_held_drew (S:=fun w'=>w'.cell? ⟨H,2,none⟩=some (.string r)∧w'.cell? ⟨H,3,none⟩=some (.string t)) (by kernel_rfl) hx0 (fun hHeld=>?_)
   clear hHeld d2 d3 q0 A1 A2 B1
   generalize W2.drew=v0 at *
   (refine' wpAnyH_take (i:=0) rfl (by kernel_rfl) (by kernel_rfl) (by kernel_rfl) (fun _ _ _ h=>h) (Or.inl ⟨by rfl,?_⟩) (by assumption) ?_;rotate_left;(· (intro wq hq;(try dsimp only at hq);go_simp;first | done | with_reducible rfl));simp only [psA])
   (refine' wpAnyH_take (i:=1) rfl (by kernel_rfl) (by kernel_rfl) (by kernel_rfl) (fun _ _ _ h=>h) (Or.inl ⟨by rfl,?_⟩) (by assumption) ?_;rotate_left;(· (intro wq hq;(try dsimp only at hq);go_simp;first | done | with_reducible rfl));simp only [psA])
   (refine' wpAnyH_take (i:=3) rfl (by kernel_rfl) (by kernel_rfl) (by kernel_rfl) (fun _ _ _ h=>h) (Or.inl ⟨by rfl,?_⟩) (by assumption) ?_;rotate_left;(· (intro wq hq;(try dsimp only at hq);go_simp;first | done | with_reducible rfl));simp only [psA])
   (refine' wpAnyH_take (i:=4) rfl (by kernel_rfl) (by kernel_rfl) (by kernel_rfl) (fun _ _ _ h=>h) (Or.inl ⟨by rfl,?_⟩) (by assumption) ?_;rotate_left;(· (intro wq hq;(try dsimp only at hq);go_simp;first | done | with_reducible rfl));simp only [psA])
   refine wpAnyH_ready (rs:=[2]) (by kernel_rfl) (by simp) ?_
   refine AllReadyH.cons rfl (fun K hK=>?_) ?_
   ·rw [if_pos (by rfl)]
    go_simp
    refine Calls.mono (hcl1.out v0) ?_
    rintro e v1 ⟨rfl,hb1⟩
    have D1:=hid (C1.out.keptAll hb1)
    have D2:=hid (C2.out.keptAll hb1)
    have Db:=hid (hbel.out Cb.out hb1)
    refine hK.out _ _ ⟨D1.out.cell 2,D1.out.cell 3⟩ (fun _=>?_)
    clear hK K hb1 C1 C2 Cb hx0 hcl1
    refine wpAnyH_ready (rs:=[5,6]) (by kernel_rfl) (by simp) ?_
    refine AllReadyH.cons rfl (fun K hK=>?_) ?_
    ·rw [if_pos (by rfl)]
     go_simp
     refine Calls.mono (hcl2.out v1) ?_
     rintro e v2 ⟨rfl,hb2⟩
     have E1:=hid (D1.out.keptAll hb2)
     have E2:=hid (D2.out.keptAll hb2)
     have Eb:=hid (hbel.out Db.out hb2)
     refine hK.out _ _ ⟨E1.out.cell 2,E1.out.cell 3⟩ (fun _=>?_)
     clear hK K hb2 D1 D2 Db hcl2
     refine wpAnyH_ready (rs:=[6]) (by kernel_rfl) (by simp) ?_
     refine AllReadyH.cons rfl (fun K hK=>?_) ?_
     ·go_simp
      refine hK.out _ _ ⟨E1.out.cell 2,E1.out.cell 3⟩ (fun _=>?_)
      clear hK K
      have f2:=E1.out.frozen 2
      have f3:=E1.out.frozen 3
      have o2:v2.cell? ⟨H,2,none⟩=some (.string r):=E1.out.cell 2
      have o3:v2.cell? ⟨H,3,none⟩=some (.string t):=E1.out.cell 3
      refine wpAnyH_ready (rs:=[7]) (by kernel_rfl) (by simp) ?_
      refine AllReadyH.cons rfl (fun K hK=>?_) ?_
      ·go_simp
       have G1:=hid (show At (v2.setCell ⟨H,2,none⟩ (.string r)) H #[.int .i64 k,.bool b,.string r,.string t,.slice ko N kc,.slice vo M vc] 59 from E1.out.set 2 (.string r))
       refine hK.out _ _ ⟨G1.out.cell 2,G1.out.cell 3⟩ (fun _=>?_)
       clear hK K
       refine wpAnyH_ready (rs:=[8]) (by kernel_rfl) (by simp) ?_
       refine AllReadyH.cons rfl (fun K hK=>?_) ?_
       ·go_simp
        refine hK.out _ _ ⟨G1.out.cell 2,G1.out.cell 3⟩ (fun _=>?_)
        clear hK K
        refine wpAnyH_ready (rs:=[9]) (by kernel_rfl) (by simp) ?_
        refine AllReadyH.cons rfl (fun K hK=>?_) ?_
        ·go_simp
         have K1:=hid (show At ((v2.setCell ⟨H,2,none⟩ (.string r)).setCell ⟨H,3,none⟩ (.string t)) H #[.int .i64 k,.bool b,.string r,.string t,.slice ko N kc,.slice vo M vc] 59 from G1.out.set 3 (.string t))
         have K2:=hid (show At ((v2.setCell ⟨H,2,none⟩ (.string r)).setCell ⟨H,3,none⟩ (.string t)) (H+1) #[.int .i64 0,.bool false,.string ⟨#[]⟩,.string ⟨#[]⟩,.slice none 0 0,.slice none 0 0] 59 from (E2.out.other (p:=⟨H,2,none⟩) (Nat.succ_ne_self H) _).other (p:=⟨H,3,none⟩) (Nat.succ_ne_self H) _)
         have Kb:=hid (show Below H w ((v2.setCell ⟨H,2,none⟩ (.string r)).setCell ⟨H,3,none⟩ (.string t)) from (Eb.out.setCell (Nat.le_refl _) _).setCell (Nat.le_refl _) _)
         refine hK.out _ _ ⟨K1.out.cell 2,K1.out.cell 3⟩ (fun _=>?_)
         clear hK K E1 E2 Eb f2 f3 o2 o3 G1
         refine wpAnyH_done (by kernel_rfl) ?_ _
         go_wp2_with fail
         go_meet
         case rel=>exact ⟨K1,K2,Kb⟩
        exact AllReadyH.nil
       exact AllReadyH.nil
      exact AllReadyH.nil
     exact AllReadyH.nil
    refine AllReadyH.cons rfl (fun K hK=>?_) ?_
    ·go_simp
     refine hK.out _ _ ⟨D1.out.cell 2,D1.out.cell 3⟩ (fun _=>?_)
     clear hK K
     refine wpAnyH_ready (rs:=[5]) (by kernel_rfl) (by simp) ?_
     refine AllReadyH.cons rfl (fun K hK=>?_) ?_
     ·rw [if_pos (by rfl)]
      go_simp
      refine Calls.mono (hcl2.out v1) ?_
      rintro e v2 ⟨rfl,hb2⟩
      have E1:=hid (D1.out.keptAll hb2)
      have E2:=hid (D2.out.keptAll hb2)
      have Eb:=hid (hbel.out Db.out hb2)
      refine hK.out _ _ ⟨E1.out.cell 2,E1.out.cell 3⟩ (fun _=>?_)
      clear hK K hb2 D1 D2 Db hcl2
      have f2:=E1.out.frozen 2
      have f3:=E1.out.frozen 3
      have o2:v2.cell? ⟨H,2,none⟩=some (.string r):=E1.out.cell 2
      have o3:v2.cell? ⟨H,3,none⟩=some (.string t):=E1.out.cell 3
      refine wpAnyH_ready (rs:=[7]) (by kernel_rfl) (by simp) ?_
      refine AllReadyH.cons rfl (fun K hK=>?_) ?_
      ·go_simp
       have G1:=hid (show At (v2.setCell ⟨H,2,none⟩ (.string r)) H #[.int .i64 k,.bool b,.string r,.string t,.slice ko N kc,.slice vo M vc] 59 from E1.out.set 2 (.string r))
       refine hK.out _ _ ⟨G1.out.cell 2,G1.out.cell 3⟩ (fun _=>?_)
       clear hK K
       refine wpAnyH_ready (rs:=[8]) (by kernel_rfl) (by simp) ?_
       refine AllReadyH.cons rfl (fun K hK=>?_) ?_
       ·go_simp
        refine hK.out _ _ ⟨G1.out.cell 2,G1.out.cell 3⟩ (fun _=>?_)
        clear hK K
        refine wpAnyH_ready (rs:=[9]) (by kernel_rfl) (by simp) ?_
        refine AllReadyH.cons rfl (fun K hK=>?_) ?_
        ·go_simp
         have K1:=hid (show At ((v2.setCell ⟨H,2,none⟩ (.string r)).setCell ⟨H,3,none⟩ (.string t)) H #[.int .i64 k,.bool b,.string r,.string t,.slice ko N kc,.slice vo M vc] 59 from G1.out.set 3 (.string t))
         have K2:=hid (show At ((v2.setCell ⟨H,2,none⟩ (.string r)).setCell ⟨H,3,none⟩ (.string t)) (H+1) #[.int .i64 0,.bool false,.string ⟨#[]⟩,.string ⟨#[]⟩,.slice none 0 0,.slice none 0 0] 59 from (E2.out.other (p:=⟨H,2,none⟩) (Nat.succ_ne_self H) _).other (p:=⟨H,3,none⟩) (Nat.succ_ne_self H) _)
         have Kb:=hid (show Below H w ((v2.setCell ⟨H,2,none⟩ (.string r)).setCell ⟨H,3,none⟩ (.string t)) from (Eb.out.setCell (Nat.le_refl _) _).setCell (Nat.le_refl _) _)
         refine hK.out _ _ ⟨K1.out.cell 2,K1.out.cell 3⟩ (fun _=>?_)
         clear hK K E1 E2 Eb f2 f3 o2 o3 G1
         refine wpAnyH_done (by kernel_rfl) ?_ _
         go_wp2_with fail
         go_meet
         case rel=>exact ⟨K1,K2,Kb⟩
        exact AllReadyH.nil
       exact AllReadyH.nil
      exact AllReadyH.nil
     exact AllReadyH.nil
    exact AllReadyH.nil
   exact AllReadyH.nil
  case rest =>
   clear A1 A2 B1 hcl1 hcl2
   obtain ⟨A1,A2,B1⟩:=hcut
   -- the names' row
   go_upto_region 2 with fail
   go_cut [15] from 15 to 18 (fun _ wx=>∃ (ko':Option Addr) (kc':Nat),Hid (KRow (H+2) wx ko' ks)∧Hid (At wx H #[.int .i64 k,.bool b,.string r,.string t,.slice ko' N kc',.slice vo M vc] 59)∧Hid (At wx (H+1) #[.int .i64 0,.bool false,.string ⟨#[]⟩,.string ⟨#[]⟩,.slice none 0 0,.slice none 0 0] 59)∧Hid (Below H w wx))
   case first =>
    have c4:wc.cell? ⟨H,4,none⟩=some (.slice ko N kc):=A1.out.cell 4
    have f4:=A1.out.frozen 4
    have hbw:=hid (show Below w.heap.size w wc by rw [hHw.out];exact B1.out)
    obtain ⟨iK,zK,hi,hiz,his,hib⟩:=infoK
    have hsrc:=hid (keys_src kc (hk'.out.kept hbw.out))
    rw [hN.out,← his] at hsrc
    by_cases h0:N=0
    ·subst h0
     have hks0:ks=[]:=List.length_eq_zero_iff.1 hN.out
     have happ:=hid (fun ty=>append_none Tryz.underlying56 hi wc (by have:=hsrc.out;rw [hks0] at this;exact this) ty)
     have G1:=hid (show At (wc.setCell ⟨H,4,none⟩ (.slice none 0 0)) H #[.int .i64 k,.bool b,.string r,.string t,.slice none 0 0,.slice vo M vc] 59 from A1.out.set 4 (.slice none 0 0))
     have G2:=hid (A2.out.other (p:=⟨H,4,none⟩) (Nat.succ_ne_self H) (.slice none 0 0))
     have Gb:=hid (B1.out.setCell (p:=⟨H,4,none⟩) (Nat.le_refl _) (.slice none 0 0))
     clear hsrc A1 A2 B1 hbw hi hiz his hib
     go_wp2_with (first | (at_builtin;refine wpList_append_run rfl _ _ 56 rfl _ _ _ _ rfl rfl happ.out ?_) | fail)
     go_meet
     case rel=>exact ⟨none,0,hid (.inl hN.out),G1,G2,Gb⟩
    ·have hpos:0<N:=Nat.pos_of_ne_zero h0
     obtain ⟨cap,cs,happ0,hcs⟩:=append_fresh Tryz.underlying56 hi hiz wc hsrc.out hpos (by rw [hib];have:=hNn.out;omega) hNn.out
     have happ:=hid happ0
     have hcs':Hid (∀ (i:Nat) (s:ByteArray),ks[i]? = some s→cs[i]? = some (.string s)):=fun i s hi=>by
      have hl:=(List.getElem?_eq_some_iff.1 hi).1
      rw [hcs i (by rw [List.length_map];exact hl),List.getElem?_map,hi]
      rfl
     obtain ⟨W3,hW3⟩:∃ W,wc.drew.alloc (.cells cs 9)=W:=⟨_,rfl⟩
     have R1:Hid (At W3 wc.heap.size cs 9):=by rw [← hW3];exact At.new wc.drew cs 9
     have q0:Below wc.heap.size wc W3:=by rw [← hW3];exact (Below.refl _ wc).drew.alloc (Nat.le_refl _) _
     have E1:=hid (A1.out.keptAll q0)
     have E2:=hid (A2.out.keptAll q0)
     have Eb:=hid (hbel.out B1.out q0)
     have hR2:Hid (H+2≤wc.heap.size):=Nat.succ_le_of_lt A2.out.lt
     obtain ⟨R,hR⟩:∃ R,wc.heap.size=R:=⟨_,rfl⟩
     rw [hR] at happ R1 hR2
     rw [hW3] at happ
     have c4':W3.cell? ⟨H,4,none⟩=some (.slice ko N kc):=E1.out.cell 4
     have f4':=E1.out.frozen 4
     have G1:=hid (show At (W3.setCell ⟨H,4,none⟩ (.slice (some ⟨R,0,none⟩) N cap)) H #[.int .i64 k,.bool b,.string r,.string t,.slice (some ⟨R,0,none⟩) N cap,.slice vo M vc] 59 from E1.out.set 4 (.slice (some ⟨R,0,none⟩) N cap))
     have G2:=hid (E2.out.other (p:=⟨H,4,none⟩) (Nat.succ_ne_self H) (.slice (some ⟨R,0,none⟩) N cap))
     have Gb:=hid (Eb.out.setCell (p:=⟨H,4,none⟩) (Nat.le_refl _) (.slice (some ⟨R,0,none⟩) N cap))
     have G3:=hid (R1.out.other (p:=⟨H,4,none⟩) (show R≠H by have:=hR2.out;omega) (.slice (some ⟨R,0,none⟩) N cap))
     clear hsrc A1 A2 B1 hbw hi hiz his hib happ0 hcs hW3 q0 R1 E1 E2 Eb hR
     go_wp2_with (first | (at_builtin;refine wpList_append_run rfl _ _ 56 rfl _ _ _ _ rfl rfl happ.out ?_) | fail)
     go_meet
     case rel=>exact ⟨some ⟨R,0,none⟩,cap,hid (.inr ⟨R,cs,rfl,hR2.out,G3.out,hcs'.out⟩),G1,G2,Gb⟩
   case rest =>
    clear A1 A2 B1
    obtain ⟨ko',kc',hKR,A1,A2,B1⟩:=hcut
    have c4:wc.cell? ⟨H,4,none⟩=some (.slice ko' N kc'):=A1.out.cell 4
    go_upto_region 3 with fail
    -- the names,one by one
    go_wp2_with fail
    clear c4
    go_loopw [22] (fun ii wr=>∃ i:Nat,i≤N∧ii = .int .i64 (i:Int)∧Hid (KRow (H+2) wr ko' ks)∧Hid (At wr H #[.int .i64 k,.bool b,.string r,.string t,.slice ko' N kc',.slice vo M vc] 59)∧Hid (At wr (H+1) #[.int .i64 0,.bool false,.string ⟨#[]⟩,.string ⟨#[]⟩,.slice none 0 0,.slice none 0 0] 59)∧Hid (Below H w wr)) (fun ii _=>N-(intOf ii).toNat)
    case atStart=>exact ⟨0,Nat.zero_le _,rfl,hKR,A1,A2,B1⟩
    case round =>
     clear A1 A2 B1 hKR
     obtain ⟨i,hi,rfl,hKR,A1,A2,B1⟩:=hrel
     by_cases hlt:i<N
     ·have hli:(i:Int)<(N:Int):=by omega
      obtain ⟨s,hu1⟩:∃ u,Hid (ks[i]? = some u):=⟨_,List.getElem?_eq_getElem (by rw [hN.out];exact hlt)⟩
      rcases hKR.out with h0 | ⟨R,cs,rfl,hR2,hAt,hcs⟩
      ·have:=hN.out;omega
      have hAt':=hid hAt
      have hcs':=hid hcs
      have hR2':=hid hR2
      have hsz:=hks.out i s hu1.out
      have hcl:=hid (fun u=>cloneT_calls s (by unfold capT at hsz;omega) u)
      have s1:wr.cell? ⟨R,i,none⟩=some (.string s):=(hAt.cell i).trans (hcs i s hu1.out)
      have c4:wr.cell? ⟨H,4,none⟩=some (.slice (some ⟨R,0,none⟩) N kc'):=A1.out.cell 4
      clear hAt hcs hR2 hsz hKR
      go_upto_region 6 with fail
      have hx0:wr.drew.cell? ⟨H,4,none⟩=some (.slice (some ⟨R,0,none⟩) N kc'):=c4
      have q0:=hid (show Below wr.heap.size wr wr.drew from (Below.refl _ _).drew)
      have C1:=hid (A1.out.keptAll q0.out)
      have C2:=hid (A2.out.keptAll q0.out)
      have C3:=hid (hAt'.out.keptAll q0.out)
      have Cb:=hid (hbel.out B1.out q0.out)
      rename_i K6 hK6
      refine wp_region_held_drew (S:=fun w'=>w'.cell? ⟨H,4,none⟩=some (.slice (some ⟨R,0,none⟩) N kc')) (by kernel_rfl) hx0 (fun hHeld=>?_)
      clear hHeld c4 s1 q0 A1 A2 B1 hAt'
      generalize wr.drew=v0 at *
      (refine' wpAnyH_take (i:=0) rfl (by kernel_rfl) (by kernel_rfl) (by kernel_rfl) (fun _ _ _ h=>h) (Or.inl ⟨by rfl,?_⟩) (by assumption) ?_;rotate_left;(· (intro wq hq;(try dsimp only at hq);go_simp;first | done | with_reducible rfl));simp only [psA])
      (refine' wpAnyH_take (i:=1) rfl (by kernel_rfl) (by kernel_rfl) (by kernel_rfl) (fun _ _ _ h=>h) (Or.inl ⟨by rfl,?_⟩) (by assumption) ?_;rotate_left;(· (intro wq hq;(try dsimp only at hq);go_simp;first | done | with_reducible rfl));simp only [psA])
      (refine' wpAnyH_take (i:=2) rfl (by kernel_rfl) (by kernel_rfl) (by kernel_rfl) (fun _ _ _ h=>h) (Or.inl ⟨by rfl,?_⟩) (by assumption) ?_;rotate_left;(· (intro wq hq;(try dsimp only at hq);go_simp;first | done | with_reducible rfl));simp only [psA])
      (refine' wpAnyH_take (i:=3) rfl (by kernel_rfl) (by kernel_rfl) (by kernel_rfl) (fun _ _ _ h=>h) (Or.inl ⟨by rfl,?_⟩) (by assumption) ?_;rotate_left;(· (intro wq hq;(try dsimp only at hq);go_simp;first | done | with_reducible rfl));simp only [psA])
      refine wpAnyH_ready (rs:=[4]) (by kernel_rfl) (by simp) ?_
      refine AllReadyH.cons rfl (fun K hK=>?_) ?_
      ·rw [if_pos (by rfl)]
       go_simp
       refine Calls.mono (hcl.out v0) ?_
       rintro e v1 ⟨rfl,hb1⟩
       have D1:=hid (C1.out.keptAll hb1)
       have D2:=hid (C2.out.keptAll hb1)
       have D3:=hid (C3.out.keptAll hb1)
       have Db:=hid (hbel.out Cb.out hb1)
       refine hK.out _ _ (D1.out.cell 4) (fun _=>?_)
       clear hK K hb1 C1 C2 C3 Cb hx0 hcl
       refine wpAnyH_ready (rs:=[5]) (by kernel_rfl) (by simp) ?_
       refine AllReadyH.cons rfl (fun K hK=>?_) ?_
       ·go_simp
        refine hK.out _ _ (D1.out.cell 4) (fun _=>?_)
        clear hK K
        have f6:=D3.out.frozen i
        have o6:v1.cell? ⟨R,i,none⟩=some (.string s):=(D3.out.cell i).trans (hcs'.out i s hu1.out)
        refine wpAnyH_ready (rs:=[6]) (by kernel_rfl) (by simp) ?_
        refine AllReadyH.cons rfl (fun K hK=>?_) ?_
        ·go_simp
         have hset:Hid (cs.setIfInBounds i (.string s)=cs):=set_same (hcs'.out i s hu1.out)
         have G3:=hid (show At (v1.setCell ⟨R,i,none⟩ (.string s)) R cs 9 by have:=D3.out.set i (.string s);rw [hset.out] at this;exact this)
         have G1:=hid (D1.out.other (p:=⟨R,i,none⟩) (show H≠R by have:=hR2'.out;omega) (.string s))
         have G2:=hid (D2.out.other (p:=⟨R,i,none⟩) (show H+1≠R by have:=hR2'.out;omega) (.string s))
         have Gb:=hid (Db.out.setCell (p:=⟨R,i,none⟩) (show H≤R by have:=hR2'.out;omega) (.string s))
         refine hK.out _ _ (G1.out.cell 4) (fun _=>?_)
         clear hK K D1 D2 D3 Db f6 o6 hset
         refine wpAnyH_done (by kernel_rfl) ?_ _
         refine hK6 _ _ ?_
         go_wp2
         go_roundw
         case rel=>exact ⟨i+1,by omega,by simp,hid (.inr ⟨R,cs,rfl,hR2'.out,G3.out,hcs'.out⟩),G1,G2,Gb⟩
         case measure=>simp [intOf];omega
        exact AllReadyH.nil
       exact AllReadyH.nil
      exact AllReadyH.nil
     ·obtain rfl:N=i:=by omega
      -- the kids' row
      go_upto_region 8 with fail
      have c5:wr.cell? ⟨H,5,none⟩=some (.slice vo M vc):=A1.out.cell 5
      have f5:=A1.out.frozen 5
      go_cut [34] from 34 to 37 (fun _ wx=>∃ (vo':Option Addr) (vc':Nat),Hid (VRow (H+2) wx vo' vs X 0)∧Hid (KRow (H+2) wx ko' ks)∧Hid (At wx H #[.int .i64 k,.bool b,.string r,.string t,.slice ko' N kc',.slice vo' M vc'] 59)∧Hid (At wx (H+1) #[.int .i64 0,.bool false,.string ⟨#[]⟩,.string ⟨#[]⟩,.slice none 0 0,.slice none 0 0] 59)∧Hid (Below H w wx))
      case first =>
       have hbw:=hid (show Below w.heap.size w wr by rw [hHw.out];exact B1.out)
       obtain ⟨iK,zK,hi,hiz,his,hib⟩:=infoV
       have hsrc:=hid (kids_src vc (hr'.out.kept hbw.out) (fun q u hq=>(hv'.out q u hq).kept hbw.out))
       rw [hM.out,← his] at hsrc
       by_cases h0:M=0
       ·subst h0
        have hvs0:flatX X 0=[]:=rfl
        have happ:=hid (fun ty=>append_none Tryz.underlying57 hi wr (by have:=hsrc.out;rw [hvs0] at this;exact this) ty)
        have G1:=hid (show At (wr.setCell ⟨H,5,none⟩ (.slice none 0 0)) H #[.int .i64 k,.bool b,.string r,.string t,.slice ko' N kc',.slice none 0 0] 59 from A1.out.set 5 (.slice none 0 0))
        have G2:=hid (A2.out.other (p:=⟨H,5,none⟩) (Nat.succ_ne_self H) (.slice none 0 0))
        have Gb:=hid (B1.out.setCell (p:=⟨H,5,none⟩) (Nat.le_refl _) (.slice none 0 0))
        have GK:=hid (hKR.out.setH A1.out (.slice none 0 0) 5)
        clear hsrc A1 A2 B1 hbw hi hiz his hib hKR
        go_wp2_with (first | (at_builtin;refine wpList_append_run rfl _ _ 57 rfl _ _ _ _ rfl rfl happ.out ?_) | fail)
        go_meet
        case rel=>exact ⟨none,0,hid (.inl hM.out),GK,G1,G2,Gb⟩
       ·have hpos:0<M:=Nat.pos_of_ne_zero h0
        obtain ⟨cap,cs,happ0,hcs⟩:=append_fresh Tryz.underlying57 hi hiz wr hsrc.out hpos (by rw [hib];have:=hMn.out;omega) hMn.out
        have happ:=hid happ0
        have hX6:∀ q,q<M→(X q).size=6:=fun q hq=>(hr'.out q (by rw [hM.out];exact hq)).1
        have hcs':Hid (∀ q,q<vs.length→(X q).size=6∧∀ j,j<6→cs[q*6+j]? = (X q)[j]?):=fun q hq=>by
         rw [hM.out] at hq
         refine ⟨hX6 q hq,fun j hj=>?_⟩
         rw [hcs (q*6+j) (by rw [flatX_len M hX6];omega)]
         exact flatX_get M hX6 q j hq hj
        obtain ⟨W3,hW3⟩:∃ W,wr.drew.alloc (.cells cs 59)=W:=⟨_,rfl⟩
        have R1:Hid (At W3 wr.heap.size cs 59):=by rw [← hW3];exact At.new wr.drew cs 59
        have q0:Below wr.heap.size wr W3:=by rw [← hW3];exact (Below.refl _ wr).drew.alloc (Nat.le_refl _) _
        have E1:=hid (A1.out.keptAll q0)
        have E2:=hid (A2.out.keptAll q0)
        have Eb:=hid (hbel.out B1.out q0)
        have EK:=hid (hKR.out.kept q0)
        have hR2:Hid (H+2≤wr.heap.size):=Nat.succ_le_of_lt A2.out.lt
        obtain ⟨R,hR⟩:∃ R,wr.heap.size=R:=⟨_,rfl⟩
        rw [hR] at happ R1 hR2
        rw [hW3] at happ
        have c5':W3.cell? ⟨H,5,none⟩=some (.slice vo M vc):=E1.out.cell 5
        have f5':=E1.out.frozen 5
        have G1:=hid (show At (W3.setCell ⟨H,5,none⟩ (.slice (some ⟨R,0,none⟩) M cap)) H #[.int .i64 k,.bool b,.string r,.string t,.slice ko' N kc',.slice (some ⟨R,0,none⟩) M cap] 59 from E1.out.set 5 (.slice (some ⟨R,0,none⟩) M cap))
        have G2:=hid (E2.out.other (p:=⟨H,5,none⟩) (Nat.succ_ne_self H) (.slice (some ⟨R,0,none⟩) M cap))
        have Gb:=hid (Eb.out.setCell (p:=⟨H,5,none⟩) (Nat.le_refl _) (.slice (some ⟨R,0,none⟩) M cap))
        have GK:=hid (EK.out.setH E1.out (.slice (some ⟨R,0,none⟩) M cap) 5)
        have G3:=hid (R1.out.other (p:=⟨H,5,none⟩) (show R≠H by have:=hR2.out;omega) (.slice (some ⟨R,0,none⟩) M cap))
        clear hsrc A1 A2 B1 hbw hi hiz his hib happ0 hcs hW3 q0 R1 E1 E2 Eb EK hR hKR hX6
        go_wp2_with (first | (at_builtin;refine wpList_append_run rfl _ _ 57 rfl _ _ _ _ rfl rfl happ.out ?_) | fail)
        go_meet
        case rel=>exact ⟨some ⟨R,0,none⟩,cap,hid (.inr ⟨R,cs,X,rfl,hR2.out,G3.out,hcs'.out,fun _ _=>rfl,fun q u hq=>by omega⟩),GK,G1,G2,Gb⟩
      case rest =>
       clear A1 A2 B1 hKR c5 f5
       obtain ⟨vo',vc',hVR,hKR,A1,A2,B1⟩:=hcut
       have c5:wc.cell? ⟨H,5,none⟩=some (.slice vo' M vc'):=A1.out.cell 5
       go_upto_region 9 with fail
       go_wp2_with fail
       clear c5
       go_loopw [41] (fun ii wr=>∃ i:Nat,i≤M∧ii = .int .i64 (i:Int)∧Hid (VRow (H+2) wr vo' vs X i)∧Hid (KRow (H+2) wr ko' ks)∧Hid (At wr H #[.int .i64 k,.bool b,.string r,.string t,.slice ko' N kc',.slice vo' M vc'] 59)∧Hid (At wr (H+1) #[.int .i64 0,.bool false,.string ⟨#[]⟩,.string ⟨#[]⟩,.slice none 0 0,.slice none 0 0] 59)∧Hid (Below H w wr)) (fun ii _=>M-(intOf ii).toNat)
       case atStart=>exact ⟨0,Nat.zero_le _,rfl,hVR,hKR,A1,A2,B1⟩
       case round =>
        clear A1 A2 B1 hKR hVR
        obtain ⟨i,hi,rfl,hVR,hKR,A1,A2,B1⟩:=hrel
        by_cases hlt:i<M
        ·have hli:(i:Int)<(M:Int):=by omega
         obtain ⟨u1,hu1⟩:∃ u,Hid (vs[i]? = some u):=⟨_,List.getElem?_eq_getElem (by rw [hM.out];exact hlt)⟩
         rcases hVR.out with h0 | ⟨R,cs,Y,rfl,hR2,hAt,hcs,hYX,hval⟩
         ·have:=hM.out;omega
         have hAt':=hid hAt
         have hcs':=hid hcs
         have hR2':=hid hR2
         have hYX':=hid hYX
         have hval':=hid hval
         obtain ⟨L1,hL1⟩:∃ L,Hid ((X i).toList=L):=⟨_,rfl⟩
         have hbw:=hid (show Below w.heap.size w wr by rw [hHw.out];exact B1.out)
         have v1:Hid (ValAt wr u1 (.agg L1.toArray)):=by
          have:=(hv'.out i u1 hu1.out).kept hbw.out
          rw [← hL1.out,Array.toArray_toList]
          exact this
         have hl1:L1.length=6:=by
          rw [← hL1.out,Array.length_toList,← hYX i (Nat.le_refl _)]
          exact (hcs i (by rw [hM.out];exact hlt)).1
         have hrg:Hid (wr.rangeAt R (i*6) L1):=fun j v hj=>by
          have hj6:=(List.getElem?_eq_some_iff.1 hj).1
          rw [hl1] at hj6
          rw [hAt.cell,(hcs i (by rw [hM.out];exact hlt)).2 j hj6,hYX i (Nat.le_refl _),← Array.getElem?_toList,hL1.out]
          exact hj
         have z1:(Tryz.prog.info? 59).map (·.size)=some L1.length:=by rw [hl1];exact sizeVl
         obtain ⟨k1,b1,r1,t1,ko1,N1,kc1,vo1,M1,vc1,rfl⟩:=v1.out.six
         clear hAt hcs hR2 hYX hval hVR hl1
         go_upto_region 12 with (first | refine wpList_load_want 59 _ R (i*6) [.int .i64 k1,.bool b1,.string r1,.string t1,.slice ko1 N1 kc1,.slice vo1 M1 vc1] _ hrg.out Tryz.underlying59 z1 rfl rfl rfl (by rfl) ?_ | fail)
         have P1:=hid (At.new wr #[.int .i64 k1,.bool b1,.string r1,.string t1,.slice ko1 N1 kc1,.slice vo1 M1 vc1] 59)
         have q0:Below wr.heap.size wr (wr.alloc (.cells #[.int .i64 k1,.bool b1,.string r1,.string t1,.slice ko1 N1 kc1,.slice vo1 M1 vc1] 59)):=(Below.refl _ wr).alloc (Nat.le_refl _) _
         have C1:=hid (A1.out.keptAll q0)
         have C2:=hid (A2.out.keptAll q0)
         have C3:=hid (hAt'.out.keptAll q0)
         have CK:=hid (hKR.out.kept q0)
         have Cb:=hid (hbel.out B1.out q0)
         have Cv:=hid (v1.out.kept q0)
         have Cval:Hid (∀ (q:Nat) (u:Vt),q<i→vs[q]? = some u→ValOn (fun b=>R<b) (wr.alloc (.cells #[.int .i64 k1,.bool b1,.string r1,.string t1,.slice ko1 N1 kc1,.slice vo1 M1 vc1] 59)) u (.agg (Y q))):=fun q u hq hu=>(hval'.out q u hq hu).keptB q0
         obtain ⟨p,hp⟩:∃ p,wr.heap.size=p:=⟨_,rfl⟩
         have hpR0:Hid (p≠R):=fun e=>by have:=hAt'.out.lt;rw [hp,e] at this;exact Nat.lt_irrefl _ this
         rw [hp] at P1 ⊢
         generalize wr.alloc (.cells #[.int .i64 k1,.bool b1,.string r1,.string t1,.slice ko1 N1 kc1,.slice vo1 M1 vc1] 59)=W' at P1 C1 C2 C3 CK Cb Cv Cval ⊢
         clear q0 A1 A2 B1 hAt' hKR hval' v1 hrg hp hbw
         have q0:=hid (show Below W'.heap.size W' W'.drew from (Below.refl _ _).drew)
         have D1:=hid (C1.out.keptAll q0.out)
         have D2:=hid (C2.out.keptAll q0.out)
         have D3:=hid (C3.out.keptAll q0.out)
         have DP:=hid (P1.out.keptAll q0.out)
         have DK:=hid (CK.out.kept q0.out)
         have Db:=hid (hbel.out Cb.out q0.out)
         have Dv:=hid (Cv.out.kept q0.out)
         have Dval:Hid (∀ (q:Nat) (u:Vt),q<i→vs[q]? = some u→ValOn (fun b=>R<b) W'.drew u (.agg (Y q))):=fun q u hq hu=>(Cval.out q u hq hu).keptB q0.out
         have hx0:W'.drew.cell? ⟨H,5,none⟩=some (.slice (some ⟨R,0,none⟩) M vc')∧W'.drew.rangeAt p 0 [.int .i64 k1,.bool b1,.string r1,.string t1,.slice ko1 N1 kc1,.slice vo1 M1 vc1]:=⟨D1.out.cell 5,DP.out.range rfl⟩
         rename_i K12 hK12
         refine wp_region_held_drew (S:=fun w'=>w'.cell? ⟨H,5,none⟩=some (.slice (some ⟨R,0,none⟩) M vc')∧w'.rangeAt p 0 [.int .i64 k1,.bool b1,.string r1,.string t1,.slice ko1 N1 kc1,.slice vo1 M1 vc1]) (by kernel_rfl) hx0 (fun hHeld=>?_)
         clear hHeld q0 C1 C2 C3 P1 CK Cb Cv Cval
         generalize W'.drew=v0 at *
         (refine' wpAnyH_take (i:=0) rfl (by kernel_rfl) (by kernel_rfl) (by kernel_rfl) (fun _ _ _ h=>h) (Or.inl ⟨by rfl,?_⟩) (by assumption) ?_;rotate_left;(· (intro wq hq;(try dsimp only at hq);go_simp;first | done | with_reducible rfl));simp only [psA])
         (refine' wpAnyH_take (i:=1) rfl (by kernel_rfl) (by kernel_rfl) (by kernel_rfl) (fun _ _ _ h=>h) (Or.inl ⟨by rfl,?_⟩) (by assumption) ?_;rotate_left;(· (intro wq hq;(try dsimp only at hq);go_simp;first | done | with_reducible rfl));simp only [psA])
         (refine' wpAnyH_take (i:=2) rfl (by kernel_rfl) (by kernel_rfl) (by kernel_rfl) (fun _ _ _ h=>h) (Or.inl ⟨by rfl,?_⟩) (by assumption) ?_;rotate_left;(· (intro wq hq;(try dsimp only at hq);go_simp;first | done | with_reducible rfl));simp only [psA])
         (refine wpAnyH_take (i:=3) (v:=.agg [.int .i64 k1,.bool b1,.string r1,.string t1,.slice ko1 N1 kc1,.slice vo1 M1 vc1].toArray) rfl (by kernel_rfl) (by kernel_rfl) (by kernel_rfl) (fun _ _ _ h=>h) (yieldsIf_load_mid (by rfl) 59 _ rfl (p) 0 rfl [.int .i64 k1,.bool b1,.string r1,.string t1,.slice ko1 N1 kc1,.slice vo1 M1 vc1] _ (fun wq hq=>hq.2) Tryz.underlying59 rfl z1) (by assumption) ?_;simp only [psA])
         have hcall:=hid (ih'.out u1 (by have h1:=kid_size (k:=k) (b:=b) (r:=r) (t:=t) (ks:=ks) hu1.out;have:=hs'.out;omega) (lnL_get hln'.out.2.2 hu1.out) _ v0 Dv.out)
         refine wpAnyH_ready (rs:=[4]) (by kernel_rfl) (by simp) ?_
         refine AllReadyH.cons rfl (fun K hK=>?_) ?_
         ·rw [if_pos (by rfl)]
          go_simp
          refine Calls.mono hcall.out ?_
          rintro e v2 ⟨x,rfl,hx,hb1⟩
          obtain ⟨ko3,kc3,vo3,vc3,rfl⟩:=hx.six
          have hx':=hid hx
          have E1:=hid (D1.out.keptAll hb1)
          have E2:=hid (D2.out.keptAll hb1)
          have E3:=hid (D3.out.keptAll hb1)
          have EP:=hid (DP.out.keptAll hb1)
          have EK:=hid (DK.out.kept hb1)
          have Eb:=hid (hbel.out Db.out hb1)
          have hb1':=hid hb1
          have hRv:=hid (D3.out.lt)
          have Eval:Hid (∀ (q:Nat) (u:Vt),q<i→vs[q]? = some u→ValOn (fun b=>R<b) v2 u (.agg (Y q))):=fun q u hq hu=>(Dval.out q u hq hu).keptB hb1
          generalize u1.kind=k3 at *
          generalize u1.b=b3 at *
          generalize u1.raw=r3 at *
          generalize u1.text=t3 at *
          generalize u1.keys.length=N3 at *
          generalize u1.kids.length=M3 at *
          refine hK.out _ _ ⟨E1.out.cell 5,EP.out.range rfl⟩ (fun _=>?_)
          clear hK K hb1 hx D1 D2 D3 DP DK Db Dv Dval hx0 hcall
          refine wpAnyH_ready (rs:=[5]) (by kernel_rfl) (by simp) ?_
          refine AllReadyH.cons rfl (fun K hK=>?_) ?_
          ·go_simp
           refine hK.out _ _ ⟨E1.out.cell 5,EP.out.range rfl⟩ (fun _=>?_)
           clear hK K
           have hXc:Hid (∀ j,j<6→v2.cell? ⟨R,i*6+j,none⟩=(X i)[j]?):=fun j hj=>by
            rw [E3.out.cell,(hcs'.out i (by rw [hM.out];exact hlt)).2 j hj,hYX'.out i (Nat.le_refl _)]
           have hXl:Hid (X i = #[.int .i64 k1,.bool b1,.string r1,.string t1,.slice ko1 N1 kc1,.slice vo1 M1 vc1]):=by have:=congrArg List.toArray hL1.out;rw [Array.toArray_toList] at this;exact this
           rw [hXl.out] at hXc
           have o0:v2.cell? ⟨R,i*6,none⟩=some (.int .i64 k1):=hXc.out 0 (by decide)
           have f0:v2.frozen? ⟨R,i*6,none⟩=false:=E3.out.frozen (i*6)
           have o1:v2.cell? ⟨R,i*6+1,none⟩=some (.bool b1):=hXc.out 1 (by decide)
           have f1:v2.frozen? ⟨R,i*6+1,none⟩=false:=E3.out.frozen (i*6+1)
           have o2:v2.cell? ⟨R,i*6+2,none⟩=some (.string r1):=hXc.out 2 (by decide)
           have f2:v2.frozen? ⟨R,i*6+2,none⟩=false:=E3.out.frozen (i*6+2)
           have o3:v2.cell? ⟨R,i*6+3,none⟩=some (.string t1):=hXc.out 3 (by decide)
           have f3:v2.frozen? ⟨R,i*6+3,none⟩=false:=E3.out.frozen (i*6+3)
           have o4:v2.cell? ⟨R,i*6+4,none⟩=some (.slice ko1 N1 kc1):=hXc.out 4 (by decide)
           have f4:v2.frozen? ⟨R,i*6+4,none⟩=false:=E3.out.frozen (i*6+4)
           have o5:v2.cell? ⟨R,i*6+5,none⟩=some (.slice vo1 M1 vc1):=hXc.out 5 (by decide)
           have f5:v2.frozen? ⟨R,i*6+5,none⟩=false:=E3.out.frozen (i*6+5)
           refine wpAnyH_ready (rs:=[6]) (by kernel_rfl) (by simp) ?_
           refine AllReadyH.cons rfl (fun K hK=>?_) ?_
           ·go_simp
            obtain ⟨wf,hwf⟩:∃ wf,wf=(((((v2.setCell ⟨R,i*6,none⟩ (.int .i64 k3)).setCell ⟨R,i*6+1,none⟩ (.bool b3)).setCell ⟨R,i*6+2,none⟩ (.string r3)).setCell ⟨R,i*6+3,none⟩ (.string t3)).setCell ⟨R,i*6+4,none⟩ (.slice ko3 N3 kc3)).setCell ⟨R,i*6+5,none⟩ (.slice vo3 M3 vc3):=⟨_,rfl⟩
            obtain ⟨hP,hSm⟩:=VRow.put (X:=X) (H:=H+2) (by rw [hM.out];exact hlt) hu1.out hR2'.out hRv.out hwf E3.out hcs'.out hYX'.out Eval.out hx'.out
            have hP':=hid hP
            have hHR:H≠R:=by have:=hR2'.out;omega
            have hHR1:H+1≠R:=by have:=hR2'.out;omega
            have hHR2:H≤R:=by have:=hR2'.out;omega
            have G1:=hid (show At wf H _ 59 by rw [hwf];exact (((((E1.out.other (p:=⟨R,i*6,none⟩) hHR _).other (p:=⟨R,i*6+1,none⟩) hHR _).other (p:=⟨R,i*6+2,none⟩) hHR _).other (p:=⟨R,i*6+3,none⟩) hHR _).other (p:=⟨R,i*6+4,none⟩) hHR _).other (p:=⟨R,i*6+5,none⟩) hHR _)
            have G2:=hid (show At wf (H+1) _ 59 by rw [hwf];exact (((((E2.out.other (p:=⟨R,i*6,none⟩) hHR1 _).other (p:=⟨R,i*6+1,none⟩) hHR1 _).other (p:=⟨R,i*6+2,none⟩) hHR1 _).other (p:=⟨R,i*6+3,none⟩) hHR1 _).other (p:=⟨R,i*6+4,none⟩) hHR1 _).other (p:=⟨R,i*6+5,none⟩) hHR1 _)
            have Gb:=hid (show Below H w wf by rw [hwf];exact (((((Eb.out.setCell (p:=⟨R,i*6,none⟩) hHR2 _).setCell (p:=⟨R,i*6+1,none⟩) hHR2 _).setCell (p:=⟨R,i*6+2,none⟩) hHR2 _).setCell (p:=⟨R,i*6+3,none⟩) hHR2 _).setCell (p:=⟨R,i*6+4,none⟩) hHR2 _).setCell (p:=⟨R,i*6+5,none⟩) hHR2 _)
            have GK:=hid (EK.out.same hSm E3.out)
            have hpR:Hid (p≠R):=hpR0
            have GP:=hid (show At wf p _ 59 by rw [hwf];exact (((((EP.out.other (p:=⟨R,i*6,none⟩) hpR.out _).other (p:=⟨R,i*6+1,none⟩) hpR.out _).other (p:=⟨R,i*6+2,none⟩) hpR.out _).other (p:=⟨R,i*6+3,none⟩) hpR.out _).other (p:=⟨R,i*6+4,none⟩) hpR.out _).other (p:=⟨R,i*6+5,none⟩) hpR.out _)
            rw [← hwf]
            refine hK.out _ _ ⟨G1.out.cell 5,GP.out.range rfl⟩ (fun _=>?_)
            clear hK K E1 E2 E3 EP EK Eb Eval hP hSm hwf hXc hXl o0 o1 o2 o3 o4 o5 f0 f1 f2 f3 f4 f5 hHR hHR1 hHR2 hx'
            refine wpAnyH_done (by kernel_rfl) ?_ _
            refine hK12 _ _ ?_
            go_wp2
            go_roundw
            case rel=>exact ⟨i+1,by omega,by simp,hP',GK,G1,G2,Gb⟩
            case measure=>simp [intOf];omega
           exact AllReadyH.nil
          exact AllReadyH.nil
         exact AllReadyH.nil
        ·obtain rfl:M=i:=by omega
         have hVd:Hid (VRow (H+2) wr vo' vs X vs.length):=by rw [hM.out];exact hVR.out
         have c0:wr.cell? ⟨H,0,none⟩=some (.int .i64 k):=A1.out.cell 0
         have c1:wr.cell? ⟨H,1,none⟩=some (.bool b):=A1.out.cell 1
         have c2:wr.cell? ⟨H,2,none⟩=some (.string r):=A1.out.cell 2
         have c3:wr.cell? ⟨H,3,none⟩=some (.string t):=A1.out.cell 3
         have c4:wr.cell? ⟨H,4,none⟩=some (.slice ko' N kc'):=A1.out.cell 4
         have c5:wr.cell? ⟨H,5,none⟩=some (.slice vo' M vc'):=A1.out.cell 5
         have d0:wr.cell? ⟨H+1,0,none⟩=some (.int .i64 0):=A2.out.cell 0
         have d1:wr.cell? ⟨H+1,1,none⟩=some (.bool false):=A2.out.cell 1
         have d2:wr.cell? ⟨H+1,2,none⟩=some (.string ⟨#[]⟩):=A2.out.cell 2
         have d3:wr.cell? ⟨H+1,3,none⟩=some (.string ⟨#[]⟩):=A2.out.cell 3
         have d4:wr.cell? ⟨H+1,4,none⟩=some (.slice none 0 0):=A2.out.cell 4
         have d5:wr.cell? ⟨H+1,5,none⟩=some (.slice none 0 0):=A2.out.cell 5
         have f0:=A2.out.frozen 0
         have f1:=A2.out.frozen 1
         have f2:=A2.out.frozen 2
         have f3:=A2.out.frozen 3
         have f4:=A2.out.frozen 4
         have f5:=A2.out.frozen 5
         have hfin:=hid (fun wf hs=>val_done (kc:=kc') (vc:=vc') (b:=b) (wf:=wf) hw'.out hz'.out hks.out hKR.out hVd.out hs)
         rw [hN.out,hM.out] at hfin
         clear hVd hVR hKR
         go_wp2
         refine ret_val1 (p:=2) rfl rfl (A2.out.six) rfl ?_
         exact ⟨_,rfl,hfin.out _ same_six,below_six B1.out (Nat.le_succ _) _ _ _ _ _ _⟩
end Go.Proofs.YtjcpamjeekfblaaGreatDoor
