/-
  Texts of mine that others lean on, one behind the other.
-/
import Derived.Test.YtongedjlmohogaaGreatDoorPack7
import Derived.Test.YtongedjlmohogaaGreatDoorPack9
import Derived.Test.YtongedjlmohogaaGreatDoorPack15
import Derived.Test.YtongedjlmohogaaGreatDoorPack20
import Derived.Test.YtongedjlmohogaaGreatDoorPack14
import Derived.Test.YtongedjlmohogaaGreatDoorPack4
import Derived.Sort.Walk0
import Derived.Test.YtongedjlmohogaaGreatDoorPack8
import Derived.Deep.RegionHeld
import Derived.Test.YtongedjlmohogaaGreatDoorPack11
import Derived.Lib.Bytealg
import Derived.Lib.Small
import Derived.Deep.MidRow
namespace Go.Proofs.YtongedjlmohogaaGreatDoor
open Go.RowKit Go.Shelf
set_option maxRecDepth 10000 in
set_option maxHeartbeats 16000000 in
theorem copied20_ex:∀ (n:Nat) (t:Vt),SizeOf.sizeOf t≤n→lnV t→∀ (va:Value) (w:World),ValAt w t va →
  Calls Tryz.prog 93 #[va] w fun e w'=>∃ x:Value,e = .returned x∧ValOn (fun b=>w.heap.size≤b) w' t x∧Below w.heap.size w w':=by
 intro n
 induction n with
 | zero =>
  intro t hs
  cases t
  simp at hs
 | succ n ih =>
  intro t hs hln va w ha
  cases ha with
  | mk k b r t ks vs ko kc vo vc X hw hz hk hr hv =>
  unfold lnV at hln
  have ih':=hid ih
  have hs':=hid hs
  have hk':=hid hk
  have hr':=hid hr
  have hv':=hid hv
  have hz':=hid hz
  have hw':=hid hw
  have hln':=hid hln
  have hks:Hid (∀ (i:Nat) (s:ByteArray),ks[i]? = some s→s.size≤capT):=fun i s h=>(hk i s h).1
  obtain ⟨N,hN⟩:∃ N,Hid (ks.length=N):=⟨_,rfl⟩
  obtain ⟨M,hM⟩:∃ M,Hid (vs.length=M):=⟨_,rfl⟩
  rw [hN.out,hM.out]
  have hNi:(N:Int)≤1099511627776:=by have:=hln.1;rw [hN.out] at this;omega
  have hMi:(M:Int)≤1099511627776:=by have:=hln.2.1;rw [hM.out] at this;omega
  have hNn:Hid (N≤1099511627776):=by show _≤_;omega
  have hMn:Hid (M≤1099511627776):=by show _≤_;omega
  have hcl1:=hid (fun u=>cloneT_calls r (by have:=hz.1;unfold capT at this;omega) u)
  have hcl2:=hid (fun u=>cloneT_calls t (by have:=hz.2.1;unfold capT at this;omega) u)
  clear ih hs hk hr hv hz hw hln
  obtain ⟨H,hH⟩:∃ H,w.heap.size=H:=⟨_,rfl⟩
  rw [hH]
  obtain ⟨W1,hW1⟩:∃ W,w.alloc (.cells #[.int .i64 k,.bool b,.string r,.string t,.slice ko N kc,.slice vo M vc] 59)=W:=⟨_,rfl⟩
  obtain ⟨W2,hW2⟩:∃ W,W1.alloc (.cells #[.int .i64 0,.bool false,.string ⟨#[]⟩,.string ⟨#[]⟩,.slice none 0 0,.slice none 0 0] 59)=W:=⟨_,rfl⟩
  have hsz1:W1.heap.size=H+1:=by rw [← hW1,World.size_alloc,hH]
  have A1:Hid (At W2 H #[.int .i64 k,.bool b,.string r,.string t,.slice ko N kc,.slice vo M vc] 59):=by
   rw [← hW2,← hW1,← hH]
   exact (At.new w _ _).alloc _
  have A2:Hid (At W2 (H+1) #[.int .i64 0,.bool false,.string ⟨#[]⟩,.string ⟨#[]⟩,.slice none 0 0,.slice none 0 0] 59):=by
   have h:=At.new W1 #[.int .i64 0,.bool false,.string ⟨#[]⟩,.string ⟨#[]⟩,.slice none 0 0,.slice none 0 0] 59
   rw [hW2,hsz1] at h
   exact h
  have B1:Hid (Below H w W2):=by
   rw [← hW2,← hW1,← hH]
   exact ((Below.refl _ w).alloc (Nat.le_refl _) _).alloc (by rw [World.size_alloc];omega) _
  have hbel:Hid (∀ {u u':World},Below H w u→Below u.heap.size u u'→Below H w u'):=fun h h'=>by
   rw [← hH] at h ⊢
   exact belowF h h'
  have hHw:=hid hH
  go_enter Tryz.func93,Tryz.ntmps93
  go_upto_region 1 with fail
  clear hW1 hW2 hsz1 hH
  -- the texts
  go_cut [7] from 7 to 14 (fun _ wx=>Hid (At wx H #[.int .i64 k,.bool b,.string r,.string t,.slice ko N kc,.slice vo M vc] 59)∧Hid (At wx (H+1) #[.int .i64 0,.bool false,.string ⟨#[]⟩,.string ⟨#[]⟩,.slice none 0 0,.slice none 0 0] 59)∧Hid (Below H w wx))
  case first =>
   have d2:W2.cell? ⟨H,2,none⟩=some (.string r):=A1.out.cell 2
   have d3:W2.cell? ⟨H,3,none⟩=some (.string t):=A1.out.cell 3
   have hx0:W2.drew.cell? ⟨H,2,none⟩=some (.string r)∧W2.drew.cell? ⟨H,3,none⟩=some (.string t):=⟨d2,d3⟩
   have q0:=hid (show Below W2.heap.size W2 W2.drew from (Below.refl _ _).drew)
   have C1:=hid (A1.out.keptAll q0.out)
   have C2:=hid (A2.out.keptAll q0.out)
   have Cb:=hid (hbel.out B1.out q0.out)
   go_wp2
   refine wp_region_held_drew (S:=fun w'=>w'.cell? ⟨H,2,none⟩=some (.string r)∧w'.cell? ⟨H,3,none⟩=some (.string t)) (by kernel_rfl) hx0 (fun hHeld=>?_)
   clear hHeld d2 d3 q0 A1 A2 B1
   generalize W2.drew=v0 at *
   (refine' wpAnyH_take (i:=0) rfl (by kernel_rfl) (by kernel_rfl) (by kernel_rfl) (fun _ _ _ h=>h) (Or.inl ⟨by rfl,?_⟩) (by assumption) ?_;rotate_left;(· (intro wq hq;(try dsimp only at hq);go_simp;first | done | with_reducible rfl));simp only [psA])
   (refine' wpAnyH_take (i:=1) rfl (by kernel_rfl) (by kernel_rfl) (by kernel_rfl) (fun _ _ _ h=>h) (Or.inl ⟨by rfl,?_⟩) (by assumption) ?_;rotate_left;(· (intro wq hq;(try dsimp only at hq);go_simp;first | done | with_reducible rfl));simp only [psA])
   (refine' wpAnyH_take (i:=3) rfl (by kernel_rfl) (by kernel_rfl) (by kernel_rfl) (fun _ _ _ h=>h) (Or.inl ⟨by rfl,?_⟩) (by assumption) ?_;rotate_left;(· (intro wq hq;(try dsimp only at hq);go_simp;first | done | with_reducible rfl));simp only [psA])
   (refine' wpAnyH_take (i:=4) rfl (by kernel_rfl) (by kernel_rfl) (by kernel_rfl) (fun _ _ _ h=>h) (Or.inl ⟨by rfl,?_⟩) (by assumption) ?_;rotate_left;(· (intro wq hq;(try dsimp only at hq);go_simp;first | done | with_reducible rfl));simp only [psA])
   refine wpAnyH_ready (rs:=[2]) (by kernel_rfl) (by simp) ?_
   refine AllReadyH.cons rfl (fun K hK=>?_) ?_
   ·rw [if_pos (by rfl)]
    go_simp
    refine Calls.mono (hcl1.out v0) ?_
    rintro e v1 ⟨rfl,hb1⟩
    have D1:=hid (C1.out.keptAll hb1)
    have D2:=hid (C2.out.keptAll hb1)
    have Db:=hid (hbel.out Cb.out hb1)
    refine hK.out _ _ ⟨D1.out.cell 2,D1.out.cell 3⟩ (fun _=>?_)
    clear hK K hb1 C1 C2 Cb hx0 hcl1
    refine wpAnyH_ready (rs:=[5,6]) (by kernel_rfl) (by simp) ?_
    refine AllReadyH.cons rfl (fun K hK=>?_) ?_
    ·rw [if_pos (by rfl)]
     go_simp
     refine Calls.mono (hcl2.out v1) ?_
     rintro e v2 ⟨rfl,hb2⟩
     have E1:=hid (D1.out.keptAll hb2)
     have E2:=hid (D2.out.keptAll hb2)
     have Eb:=hid (hbel.out Db.out hb2)
     refine hK.out _ _ ⟨E1.out.cell 2,E1.out.cell 3⟩ (fun _=>?_)
     clear hK K hb2 D1 D2 Db hcl2
     refine wpAnyH_ready (rs:=[6]) (by kernel_rfl) (by simp) ?_
     refine AllReadyH.cons rfl (fun K hK=>?_) ?_
     ·go_simp
      refine hK.out _ _ ⟨E1.out.cell 2,E1.out.cell 3⟩ (fun _=>?_)
      clear hK K
      have f2:=E1.out.frozen 2
      have f3:=E1.out.frozen 3
      have o2:v2.cell? ⟨H,2,none⟩=some (.string r):=E1.out.cell 2
      have o3:v2.cell? ⟨H,3,none⟩=some (.string t):=E1.out.cell 3
      refine wpAnyH_ready (rs:=[7]) (by kernel_rfl) (by simp) ?_
      refine AllReadyH.cons rfl (fun K hK=>?_) ?_
      ·go_simp
       have G1:=hid (show At (v2.setCell ⟨H,2,none⟩ (.string r)) H #[.int .i64 k,.bool b,.string r,.string t,.slice ko N kc,.slice vo M vc] 59 from E1.out.set 2 (.string r))
       refine hK.out _ _ ⟨G1.out.cell 2,G1.out.cell 3⟩ (fun _=>?_)
       clear hK K
       refine wpAnyH_ready (rs:=[8]) (by kernel_rfl) (by simp) ?_
       refine AllReadyH.cons rfl (fun K hK=>?_) ?_
       ·go_simp
        refine hK.out _ _ ⟨G1.out.cell 2,G1.out.cell 3⟩ (fun _=>?_)
        clear hK K
        refine wpAnyH_ready (rs:=[9]) (by kernel_rfl) (by simp) ?_
        refine AllReadyH.cons rfl (fun K hK=>?_) ?_
        ·go_simp
         have K1:=hid (show At ((v2.setCell ⟨H,2,none⟩ (.string r)).setCell ⟨H,3,none⟩ (.string t)) H #[.int .i64 k,.bool b,.string r,.string t,.slice ko N kc,.slice vo M vc] 59 from G1.out.set 3 (.string t))
         have K2:=hid (show At ((v2.setCell ⟨H,2,none⟩ (.string r)).setCell ⟨H,3,none⟩ (.string t)) (H+1) #[.int .i64 0,.bool false,.string ⟨#[]⟩,.string ⟨#[]⟩,.slice none 0 0,.slice none 0 0] 59 from (E2.out.other (p:=⟨H,2,none⟩) (Nat.succ_ne_self H) _).other (p:=⟨H,3,none⟩) (Nat.succ_ne_self H) _)
         have Kb:=hid (show Below H w ((v2.setCell ⟨H,2,none⟩ (.string r)).setCell ⟨H,3,none⟩ (.string t)) from (Eb.out.setCell (Nat.le_refl _) _).setCell (Nat.le_refl _) _)
         refine hK.out _ _ ⟨K1.out.cell 2,K1.out.cell 3⟩ (fun _=>?_)
         clear hK K E1 E2 Eb f2 f3 o2 o3 G1
         refine wpAnyH_done (by kernel_rfl) ?_ _
         go_wp2_with fail
         go_meet
         case rel=>exact ⟨K1,K2,Kb⟩
        exact AllReadyH.nil
       exact AllReadyH.nil
      exact AllReadyH.nil
     exact AllReadyH.nil
    refine AllReadyH.cons rfl (fun K hK=>?_) ?_
    ·go_simp
     refine hK.out _ _ ⟨D1.out.cell 2,D1.out.cell 3⟩ (fun _=>?_)
     clear hK K
     refine wpAnyH_ready (rs:=[5]) (by kernel_rfl) (by simp) ?_
     refine AllReadyH.cons rfl (fun K hK=>?_) ?_
     ·rw [if_pos (by rfl)]
      go_simp
      refine Calls.mono (hcl2.out v1) ?_
      rintro e v2 ⟨rfl,hb2⟩
      have E1:=hid (D1.out.keptAll hb2)
      have E2:=hid (D2.out.keptAll hb2)
      have Eb:=hid (hbel.out Db.out hb2)
      refine hK.out _ _ ⟨E1.out.cell 2,E1.out.cell 3⟩ (fun _=>?_)
      clear hK K hb2 D1 D2 Db hcl2
      have f2:=E1.out.frozen 2
      have f3:=E1.out.frozen 3
      have o2:v2.cell? ⟨H,2,none⟩=some (.string r):=E1.out.cell 2
      have o3:v2.cell? ⟨H,3,none⟩=some (.string t):=E1.out.cell 3
      refine wpAnyH_ready (rs:=[7]) (by kernel_rfl) (by simp) ?_
      refine AllReadyH.cons rfl (fun K hK=>?_) ?_
      ·go_simp
       have G1:=hid (show At (v2.setCell ⟨H,2,none⟩ (.string r)) H #[.int .i64 k,.bool b,.string r,.string t,.slice ko N kc,.slice vo M vc] 59 from E1.out.set 2 (.string r))
       refine hK.out _ _ ⟨G1.out.cell 2,G1.out.cell 3⟩ (fun _=>?_)
       clear hK K
       refine wpAnyH_ready (rs:=[8]) (by kernel_rfl) (by simp) ?_
       refine AllReadyH.cons rfl (fun K hK=>?_) ?_
       ·go_simp
        refine hK.out _ _ ⟨G1.out.cell 2,G1.out.cell 3⟩ (fun _=>?_)
        clear hK K
        refine wpAnyH_ready (rs:=[9]) (by kernel_rfl) (by simp) ?_
        refine AllReadyH.cons rfl (fun K hK=>?_) ?_
        ·go_simp
         have K1:=hid (show At ((v2.setCell ⟨H,2,none⟩ (.string r)).setCell ⟨H,3,none⟩ (.string t)) H #[.int .i64 k,.bool b,.string r,.string t,.slice ko N kc,.slice vo M vc] 59 from G1.out.set 3 (.string t))
         have K2:=hid (show At ((v2.setCell ⟨H,2,none⟩ (.string r)).setCell ⟨H,3,none⟩ (.string t)) (H+1) #[.int .i64 0,.bool false,.string ⟨#[]⟩,.string ⟨#[]⟩,.slice none 0 0,.slice none 0 0] 59 from (E2.out.other (p:=⟨H,2,none⟩) (Nat.succ_ne_self H) _).other (p:=⟨H,3,none⟩) (Nat.succ_ne_self H) _)
         have Kb:=hid (show Below H w ((v2.setCell ⟨H,2,none⟩ (.string r)).setCell ⟨H,3,none⟩ (.string t)) from (Eb.out.setCell (Nat.le_refl _) _).setCell (Nat.le_refl _) _)
         refine hK.out _ _ ⟨K1.out.cell 2,K1.out.cell 3⟩ (fun _=>?_)
         clear hK K E1 E2 Eb f2 f3 o2 o3 G1
         refine wpAnyH_done (by kernel_rfl) ?_ _
         go_wp2_with fail
         go_meet
         case rel=>exact ⟨K1,K2,Kb⟩
        exact AllReadyH.nil
       exact AllReadyH.nil
      exact AllReadyH.nil
     exact AllReadyH.nil
    exact AllReadyH.nil
   exact AllReadyH.nil
  case rest =>
   clear A1 A2 B1 hcl1 hcl2
   obtain ⟨A1,A2,B1⟩:=hcut
   -- the names' row
   go_upto_region 2 with fail
   go_cut [15] from 15 to 18 (fun _ wx=>∃ (ko':Option Addr) (kc':Nat),Hid (KRow (H+2) wx ko' ks)∧Hid (At wx H #[.int .i64 k,.bool b,.string r,.string t,.slice ko' N kc',.slice vo M vc] 59)∧Hid (At wx (H+1) #[.int .i64 0,.bool false,.string ⟨#[]⟩,.string ⟨#[]⟩,.slice none 0 0,.slice none 0 0] 59)∧Hid (Below H w wx))
   case first =>
    have c4:wc.cell? ⟨H,4,none⟩=some (.slice ko N kc):=A1.out.cell 4
    have f4:=A1.out.frozen 4
    have hbw:=hid (show Below w.heap.size w wc by rw [hHw.out];exact B1.out)
    obtain ⟨iK,zK,hi,hiz,his,hib⟩:=infoK
    have hsrc:=hid (keys_src kc (hk'.out.kept hbw.out))
    rw [hN.out,← his] at hsrc
    by_cases h0:N=0
    ·subst h0
     have hks0:ks=[]:=List.length_eq_zero_iff.1 hN.out
     have happ:=hid (fun ty=>append_none Tryz.underlying56 hi wc (by have:=hsrc.out;rw [hks0] at this;exact this) ty)
     have G1:=hid (show At (wc.setCell ⟨H,4,none⟩ (.slice none 0 0)) H #[.int .i64 k,.bool b,.string r,.string t,.slice none 0 0,.slice vo M vc] 59 from A1.out.set 4 (.slice none 0 0))
     have G2:=hid (A2.out.other (p:=⟨H,4,none⟩) (Nat.succ_ne_self H) (.slice none 0 0))
     have Gb:=hid (B1.out.setCell (p:=⟨H,4,none⟩) (Nat.le_refl _) (.slice none 0 0))
     clear hsrc A1 A2 B1 hbw hi hiz his hib
     go_wp2_with (first | (at_builtin;refine wpList_append_run rfl _ _ 56 rfl _ _ _ _ rfl rfl happ.out ?_) | fail)
     go_meet
     case rel=>exact ⟨none,0,hid (.inl hN.out),G1,G2,Gb⟩
    ·have hpos:0<N:=Nat.pos_of_ne_zero h0
     obtain ⟨cap,cs,happ0,hcs⟩:=append_fresh Tryz.underlying56 hi hiz wc hsrc.out hpos (by rw [hib];have:=hNn.out;omega) hNn.out
     have happ:=hid happ0
     have hcs':Hid (∀ (i:Nat) (s:ByteArray),ks[i]? = some s→cs[i]? = some (.string s)):=fun i s hi=>by
      have hl:=(List.getElem?_eq_some_iff.1 hi).1
      rw [hcs i (by rw [List.length_map];exact hl),List.getElem?_map,hi]
      rfl
     obtain ⟨W3,hW3⟩:∃ W,wc.drew.alloc (.cells cs 9)=W:=⟨_,rfl⟩
     have R1:Hid (At W3 wc.heap.size cs 9):=by rw [← hW3];exact At.new wc.drew cs 9
     have q0:Below wc.heap.size wc W3:=by rw [← hW3];exact (Below.refl _ wc).drew.alloc (Nat.le_refl _) _
     have E1:=hid (A1.out.keptAll q0)
     have E2:=hid (A2.out.keptAll q0)
     have Eb:=hid (hbel.out B1.out q0)
     have hR2:Hid (H+2≤wc.heap.size):=Nat.succ_le_of_lt A2.out.lt
     obtain ⟨R,hR⟩:∃ R,wc.heap.size=R:=⟨_,rfl⟩
     rw [hR] at happ R1 hR2
     rw [hW3] at happ
     have c4':W3.cell? ⟨H,4,none⟩=some (.slice ko N kc):=E1.out.cell 4
     have f4':=E1.out.frozen 4
     have G1:=hid (show At (W3.setCell ⟨H,4,none⟩ (.slice (some ⟨R,0,none⟩) N cap)) H #[.int .i64 k,.bool b,.string r,.string t,.slice (some ⟨R,0,none⟩) N cap,.slice vo M vc] 59 from E1.out.set 4 (.slice (some ⟨R,0,none⟩) N cap))
     have G2:=hid (E2.out.other (p:=⟨H,4,none⟩) (Nat.succ_ne_self H) (.slice (some ⟨R,0,none⟩) N cap))
     have Gb:=hid (Eb.out.setCell (p:=⟨H,4,none⟩) (Nat.le_refl _) (.slice (some ⟨R,0,none⟩) N cap))
     have G3:=hid (R1.out.other (p:=⟨H,4,none⟩) (show R≠H by have:=hR2.out;omega) (.slice (some ⟨R,0,none⟩) N cap))
     clear hsrc A1 A2 B1 hbw hi hiz his hib happ0 hcs hW3 q0 R1 E1 E2 Eb hR
     go_wp2_with (first | (at_builtin;refine wpList_append_run rfl _ _ 56 rfl _ _ _ _ rfl rfl happ.out ?_) | fail)
     go_meet
     case rel=>exact ⟨some ⟨R,0,none⟩,cap,hid (.inr ⟨R,cs,rfl,hR2.out,G3.out,hcs'.out⟩),G1,G2,Gb⟩
   case rest =>
    clear A1 A2 B1
    obtain ⟨ko',kc',hKR,A1,A2,B1⟩:=hcut
    have c4:wc.cell? ⟨H,4,none⟩=some (.slice ko' N kc'):=A1.out.cell 4
    go_upto_region 3 with fail
    -- the names,one by one
    go_wp2_with fail
    clear c4
    go_loopw [22] (fun ii wr=>∃ i:Nat,i≤N∧ii = .int .i64 (i:Int)∧Hid (KRow (H+2) wr ko' ks)∧Hid (At wr H #[.int .i64 k,.bool b,.string r,.string t,.slice ko' N kc',.slice vo M vc] 59)∧Hid (At wr (H+1) #[.int .i64 0,.bool false,.string ⟨#[]⟩,.string ⟨#[]⟩,.slice none 0 0,.slice none 0 0] 59)∧Hid (Below H w wr)) (fun ii _=>N-(intOf ii).toNat)
    case atStart=>exact ⟨0,Nat.zero_le _,rfl,hKR,A1,A2,B1⟩
    case round =>
     clear A1 A2 B1 hKR
     obtain ⟨i,hi,rfl,hKR,A1,A2,B1⟩:=hrel
     by_cases hlt:i<N
     ·have hli:(i:Int)<(N:Int):=by omega
      obtain ⟨s,hu1⟩:∃ u,Hid (ks[i]? = some u):=⟨_,List.getElem?_eq_getElem (by rw [hN.out];exact hlt)⟩
      rcases hKR.out with h0 | ⟨R,cs,rfl,hR2,hAt,hcs⟩
      ·have:=hN.out;omega
      have hAt':=hid hAt
      have hcs':=hid hcs
      have hR2':=hid hR2
      have hsz:=hks.out i s hu1.out
      have hcl:=hid (fun u=>cloneT_calls s (by unfold capT at hsz;omega) u)
      have s1:wr.cell? ⟨R,i,none⟩=some (.string s):=(hAt.cell i).trans (hcs i s hu1.out)
      have c4:wr.cell? ⟨H,4,none⟩=some (.slice (some ⟨R,0,none⟩) N kc'):=A1.out.cell 4
      clear hAt hcs hR2 hsz hKR
      go_upto_region 6 with fail
      have hx0:wr.drew.cell? ⟨H,4,none⟩=some (.slice (some ⟨R,0,none⟩) N kc'):=c4
      have q0:=hid (show Below wr.heap.size wr wr.drew from (Below.refl _ _).drew)
      have C1:=hid (A1.out.keptAll q0.out)
      have C2:=hid (A2.out.keptAll q0.out)
      have C3:=hid (hAt'.out.keptAll q0.out)
      have Cb:=hid (hbel.out B1.out q0.out)
      rename_i K6 hK6
      refine wp_region_held_drew (S:=fun w'=>w'.cell? ⟨H,4,none⟩=some (.slice (some ⟨R,0,none⟩) N kc')) (by kernel_rfl) hx0 (fun hHeld=>?_)
      clear hHeld c4 s1 q0 A1 A2 B1 hAt'
      generalize wr.drew=v0 at *
      (refine' wpAnyH_take (i:=0) rfl (by kernel_rfl) (by kernel_rfl) (by kernel_rfl) (fun _ _ _ h=>h) (Or.inl ⟨by rfl,?_⟩) (by assumption) ?_;rotate_left;(· (intro wq hq;(try dsimp only at hq);go_simp;first | done | with_reducible rfl));simp only [psA])
      (refine' wpAnyH_take (i:=1) rfl (by kernel_rfl) (by kernel_rfl) (by kernel_rfl) (fun _ _ _ h=>h) (Or.inl ⟨by rfl,?_⟩) (by assumption) ?_;rotate_left;(· (intro wq hq;(try dsimp only at hq);go_simp;first | done | with_reducible rfl));simp only [psA])
      (refine' wpAnyH_take (i:=2) rfl (by kernel_rfl) (by kernel_rfl) (by kernel_rfl) (fun _ _ _ h=>h) (Or.inl ⟨by rfl,?_⟩) (by assumption) ?_;rotate_left;(· (intro wq hq;(try dsimp only at hq);go_simp;first | done | with_reducible rfl));simp only [psA])
      (refine' wpAnyH_take (i:=3) rfl (by kernel_rfl) (by kernel_rfl) (by kernel_rfl) (fun _ _ _ h=>h) (Or.inl ⟨by rfl,?_⟩) (by assumption) ?_;rotate_left;(· (intro wq hq;(try dsimp only at hq);go_simp;first | done | with_reducible rfl));simp only [psA])
      refine wpAnyH_ready (rs:=[4]) (by kernel_rfl) (by simp) ?_
      refine AllReadyH.cons rfl (fun K hK=>?_) ?_
      ·rw [if_pos (by rfl)]
       go_simp
       refine Calls.mono (hcl.out v0) ?_
       rintro e v1 ⟨rfl,hb1⟩
       have D1:=hid (C1.out.keptAll hb1)
       have D2:=hid (C2.out.keptAll hb1)
       have D3:=hid (C3.out.keptAll hb1)
       have Db:=hid (hbel.out Cb.out hb1)
       refine hK.out _ _ (D1.out.cell 4) (fun _=>?_)
       clear hK K hb1 C1 C2 C3 Cb hx0 hcl
       refine wpAnyH_ready (rs:=[5]) (by kernel_rfl) (by simp) ?_
       refine AllReadyH.cons rfl (fun K hK=>?_) ?_
       ·go_simp
        refine hK.out _ _ (D1.out.cell 4) (fun _=>?_)
        clear hK K
        have f6:=D3.out.frozen i
        have o6:v1.cell? ⟨R,i,none⟩=some (.string s):=(D3.out.cell i).trans (hcs'.out i s hu1.out)
        refine wpAnyH_ready (rs:=[6]) (by kernel_rfl) (by simp) ?_
        refine AllReadyH.cons rfl (fun K hK=>?_) ?_
        ·go_simp
         have hset:Hid (cs.setIfInBounds i (.string s)=cs):=set_same (hcs'.out i s hu1.out)
         have G3:=hid (show At (v1.setCell ⟨R,i,none⟩ (.string s)) R cs 9 by have:=D3.out.set i (.string s);rw [hset.out] at this;exact this)
         have G1:=hid (D1.out.other (p:=⟨R,i,none⟩) (show H≠R by have:=hR2'.out;omega) (.string s))
         have G2:=hid (D2.out.other (p:=⟨R,i,none⟩) (show H+1≠R by have:=hR2'.out;omega) (.string s))
         have Gb:=hid (Db.out.setCell (p:=⟨R,i,none⟩) (show H≤R by have:=hR2'.out;omega) (.string s))
         refine hK.out _ _ (G1.out.cell 4) (fun _=>?_)
         clear hK K D1 D2 D3 Db f6 o6 hset
         refine wpAnyH_done (by kernel_rfl) ?_ _
         refine hK6 _ _ ?_
         go_wp2
         go_roundw
         case rel=>exact ⟨i+1,by omega,by simp,hid (.inr ⟨R,cs,rfl,hR2'.out,G3.out,hcs'.out⟩),G1,G2,Gb⟩
         case measure=>simp [intOf];omega
        exact AllReadyH.nil
       exact AllReadyH.nil
      exact AllReadyH.nil
     ·obtain rfl:N=i:=by omega
      -- the kids' row
      go_upto_region 8 with fail
      have c5:wr.cell? ⟨H,5,none⟩=some (.slice vo M vc):=A1.out.cell 5
      have f5:=A1.out.frozen 5
      go_cut [34] from 34 to 37 (fun _ wx=>∃ (vo':Option Addr) (vc':Nat),Hid (VRow (H+2) wx vo' vs X 0)∧Hid (KRow (H+2) wx ko' ks)∧Hid (At wx H #[.int .i64 k,.bool b,.string r,.string t,.slice ko' N kc',.slice vo' M vc'] 59)∧Hid (At wx (H+1) #[.int .i64 0,.bool false,.string ⟨#[]⟩,.string ⟨#[]⟩,.slice none 0 0,.slice none 0 0] 59)∧Hid (Below H w wx))
      case first =>
       have hbw:=hid (show Below w.heap.size w wr by rw [hHw.out];exact B1.out)
       obtain ⟨iK,zK,hi,hiz,his,hib⟩:=infoV
       have hsrc:=hid (kids_src vc (hr'.out.kept hbw.out) (fun q u hq=>(hv'.out q u hq).kept hbw.out))
       rw [hM.out,← his] at hsrc
       by_cases h0:M=0
       ·subst h0
        have hvs0:flatX X 0=[]:=rfl
        have happ:=hid (fun ty=>append_none Tryz.underlying57 hi wr (by have:=hsrc.out;rw [hvs0] at this;exact this) ty)
        have G1:=hid (show At (wr.setCell ⟨H,5,none⟩ (.slice none 0 0)) H #[.int .i64 k,.bool b,.string r,.string t,.slice ko' N kc',.slice none 0 0] 59 from A1.out.set 5 (.slice none 0 0))
        have G2:=hid (A2.out.other (p:=⟨H,5,none⟩) (Nat.succ_ne_self H) (.slice none 0 0))
        have Gb:=hid (B1.out.setCell (p:=⟨H,5,none⟩) (Nat.le_refl _) (.slice none 0 0))
        have GK:=hid (hKR.out.setH A1.out (.slice none 0 0) 5)
        clear hsrc A1 A2 B1 hbw hi hiz his hib hKR
        go_wp2_with (first | (at_builtin;refine wpList_append_run rfl _ _ 57 rfl _ _ _ _ rfl rfl happ.out ?_) | fail)
        go_meet
        case rel=>exact ⟨none,0,hid (.inl hM.out),GK,G1,G2,Gb⟩
       ·have hpos:0<M:=Nat.pos_of_ne_zero h0
        obtain ⟨cap,cs,happ0,hcs⟩:=append_fresh Tryz.underlying57 hi hiz wr hsrc.out hpos (by rw [hib];have:=hMn.out;omega) hMn.out
        have happ:=hid happ0
        have hX6:∀ q,q<M→(X q).size=6:=fun q hq=>(hr'.out q (by rw [hM.out];exact hq)).1
        have hcs':Hid (∀ q,q<vs.length→(X q).size=6∧∀ j,j<6→cs[q*6+j]? = (X q)[j]?):=fun q hq=>by
         rw [hM.out] at hq
         refine ⟨hX6 q hq,fun j hj=>?_⟩
         rw [hcs (q*6+j) (by rw [flatX_len M hX6];omega)]
         exact flatX_get M hX6 q j hq hj
        obtain ⟨W3,hW3⟩:∃ W,wr.drew.alloc (.cells cs 59)=W:=⟨_,rfl⟩
        have R1:Hid (At W3 wr.heap.size cs 59):=by rw [← hW3];exact At.new wr.drew cs 59
        have q0:Below wr.heap.size wr W3:=by rw [← hW3];exact (Below.refl _ wr).drew.alloc (Nat.le_refl _) _
        have E1:=hid (A1.out.keptAll q0)
        have E2:=hid (A2.out.keptAll q0)
        have Eb:=hid (hbel.out B1.out q0)
        have EK:=hid (hKR.out.kept q0)
        have hR2:Hid (H+2≤wr.heap.size):=Nat.succ_le_of_lt A2.out.lt
        obtain ⟨R,hR⟩:∃ R,wr.heap.size=R:=⟨_,rfl⟩
        rw [hR] at happ R1 hR2
        rw [hW3] at happ
        have c5':W3.cell? ⟨H,5,none⟩=some (.slice vo M vc):=E1.out.cell 5
        have f5':=E1.out.frozen 5
        have G1:=hid (show At (W3.setCell ⟨H,5,none⟩ (.slice (some ⟨R,0,none⟩) M cap)) H #[.int .i64 k,.bool b,.string r,.string t,.slice ko' N kc',.slice (some ⟨R,0,none⟩) M cap] 59 from E1.out.set 5 (.slice (some ⟨R,0,none⟩) M cap))
        have G2:=hid (E2.out.other (p:=⟨H,5,none⟩) (Nat.succ_ne_self H) (.slice (some ⟨R,0,none⟩) M cap))
        have Gb:=hid (Eb.out.setCell (p:=⟨H,5,none⟩) (Nat.le_refl _) (.slice (some ⟨R,0,none⟩) M cap))
        have GK:=hid (EK.out.setH E1.out (.slice (some ⟨R,0,none⟩) M cap) 5)
        have G3:=hid (R1.out.other (p:=⟨H,5,none⟩) (show R≠H by have:=hR2.out;omega) (.slice (some ⟨R,0,none⟩) M cap))
        clear hsrc A1 A2 B1 hbw hi hiz his hib happ0 hcs hW3 q0 R1 E1 E2 Eb EK hR hKR hX6
        go_wp2_with (first | (at_builtin;refine wpList_append_run rfl _ _ 57 rfl _ _ _ _ rfl rfl happ.out ?_) | fail)
        go_meet
        case rel=>exact ⟨some ⟨R,0,none⟩,cap,hid (.inr ⟨R,cs,X,rfl,hR2.out,G3.out,hcs'.out,fun _ _=>rfl,fun q u hq=>by omega⟩),GK,G1,G2,Gb⟩
      case rest =>
       clear A1 A2 B1 hKR c5 f5
       obtain ⟨vo',vc',hVR,hKR,A1,A2,B1⟩:=hcut
       have c5:wc.cell? ⟨H,5,none⟩=some (.slice vo' M vc'):=A1.out.cell 5
       go_upto_region 9 with fail
       go_wp2_with fail
       clear c5
       go_loopw [41] (fun ii wr=>∃ i:Nat,i≤M∧ii = .int .i64 (i:Int)∧Hid (VRow (H+2) wr vo' vs X i)∧Hid (KRow (H+2) wr ko' ks)∧Hid (At wr H #[.int .i64 k,.bool b,.string r,.string t,.slice ko' N kc',.slice vo' M vc'] 59)∧Hid (At wr (H+1) #[.int .i64 0,.bool false,.string ⟨#[]⟩,.string ⟨#[]⟩,.slice none 0 0,.slice none 0 0] 59)∧Hid (Below H w wr)) (fun ii _=>M-(intOf ii).toNat)
       case atStart=>exact ⟨0,Nat.zero_le _,rfl,hVR,hKR,A1,A2,B1⟩
       case round =>
        clear A1 A2 B1 hKR hVR
        obtain ⟨i,hi,rfl,hVR,hKR,A1,A2,B1⟩:=hrel
        by_cases hlt:i<M
        ·have hli:(i:Int)<(M:Int):=by omega
         obtain ⟨u1,hu1⟩:∃ u,Hid (vs[i]? = some u):=⟨_,List.getElem?_eq_getElem (by rw [hM.out];exact hlt)⟩
         rcases hVR.out with h0 | ⟨R,cs,Y,rfl,hR2,hAt,hcs,hYX,hval⟩
         ·have:=hM.out;omega
         have hAt':=hid hAt
         have hcs':=hid hcs
         have hR2':=hid hR2
         have hYX':=hid hYX
         have hval':=hid hval
         obtain ⟨L1,hL1⟩:∃ L,Hid ((X i).toList=L):=⟨_,rfl⟩
         have hbw:=hid (show Below w.heap.size w wr by rw [hHw.out];exact B1.out)
         have v1:Hid (ValAt wr u1 (.agg L1.toArray)):=by
          have:=(hv'.out i u1 hu1.out).kept hbw.out
          rw [← hL1.out,Array.toArray_toList]
          exact this
         have hl1:L1.length=6:=by
          rw [← hL1.out,Array.length_toList,← hYX i (Nat.le_refl _)]
          exact (hcs i (by rw [hM.out];exact hlt)).1
         have hrg:Hid (wr.rangeAt R (i*6) L1):=fun j v hj=>by
          have hj6:=(List.getElem?_eq_some_iff.1 hj).1
          rw [hl1] at hj6
          rw [hAt.cell,(hcs i (by rw [hM.out];exact hlt)).2 j hj6,hYX i (Nat.le_refl _),← Array.getElem?_toList,hL1.out]
          exact hj
         have z1:(Tryz.prog.info? 59).map (·.size)=some L1.length:=by rw [hl1];exact sizeVl
         obtain ⟨k1,b1,r1,t1,ko1,N1,kc1,vo1,M1,vc1,rfl⟩:=v1.out.six
         clear hAt hcs hR2 hYX hval hVR hl1
         go_upto_region 12 with (first | refine wpList_load_want 59 _ R (i*6) [.int .i64 k1,.bool b1,.string r1,.string t1,.slice ko1 N1 kc1,.slice vo1 M1 vc1] _ hrg.out Tryz.underlying59 z1 rfl rfl rfl (by rfl) ?_ | fail)
         have P1:=hid (At.new wr #[.int .i64 k1,.bool b1,.string r1,.string t1,.slice ko1 N1 kc1,.slice vo1 M1 vc1] 59)
         have q0:Below wr.heap.size wr (wr.alloc (.cells #[.int .i64 k1,.bool b1,.string r1,.string t1,.slice ko1 N1 kc1,.slice vo1 M1 vc1] 59)):=(Below.refl _ wr).alloc (Nat.le_refl _) _
         have C1:=hid (A1.out.keptAll q0)
         have C2:=hid (A2.out.keptAll q0)
         have C3:=hid (hAt'.out.keptAll q0)
         have CK:=hid (hKR.out.kept q0)
         have Cb:=hid (hbel.out B1.out q0)
         have Cv:=hid (v1.out.kept q0)
         have Cval:Hid (∀ (q:Nat) (u:Vt),q<i→vs[q]? = some u→ValOn (fun b=>R<b) (wr.alloc (.cells #[.int .i64 k1,.bool b1,.string r1,.string t1,.slice ko1 N1 kc1,.slice vo1 M1 vc1] 59)) u (.agg (Y q))):=fun q u hq hu=>(hval'.out q u hq hu).keptB q0
         obtain ⟨p,hp⟩:∃ p,wr.heap.size=p:=⟨_,rfl⟩
         have hpR0:Hid (p≠R):=fun e=>by have:=hAt'.out.lt;rw [hp,e] at this;exact Nat.lt_irrefl _ this
         rw [hp] at P1 ⊢
         generalize wr.alloc (.cells #[.int .i64 k1,.bool b1,.string r1,.string t1,.slice ko1 N1 kc1,.slice vo1 M1 vc1] 59)=W' at P1 C1 C2 C3 CK Cb Cv Cval ⊢
         clear q0 A1 A2 B1 hAt' hKR hval' v1 hrg hp hbw
         have q0:=hid (show Below W'.heap.size W' W'.drew from (Below.refl _ _).drew)
         have D1:=hid (C1.out.keptAll q0.out)
         have D2:=hid (C2.out.keptAll q0.out)
         have D3:=hid (C3.out.keptAll q0.out)
         have DP:=hid (P1.out.keptAll q0.out)
         have DK:=hid (CK.out.kept q0.out)
         have Db:=hid (hbel.out Cb.out q0.out)
         have Dv:=hid (Cv.out.kept q0.out)
         have Dval:Hid (∀ (q:Nat) (u:Vt),q<i→vs[q]? = some u→ValOn (fun b=>R<b) W'.drew u (.agg (Y q))):=fun q u hq hu=>(Cval.out q u hq hu).keptB q0.out
         have hx0:W'.drew.cell? ⟨H,5,none⟩=some (.slice (some ⟨R,0,none⟩) M vc')∧W'.drew.rangeAt p 0 [.int .i64 k1,.bool b1,.string r1,.string t1,.slice ko1 N1 kc1,.slice vo1 M1 vc1]:=⟨D1.out.cell 5,DP.out.range rfl⟩
         rename_i K12 hK12
         refine wp_region_held_drew (S:=fun w'=>w'.cell? ⟨H,5,none⟩=some (.slice (some ⟨R,0,none⟩) M vc')∧w'.rangeAt p 0 [.int .i64 k1,.bool b1,.string r1,.string t1,.slice ko1 N1 kc1,.slice vo1 M1 vc1]) (by kernel_rfl) hx0 (fun hHeld=>?_)
         clear hHeld q0 C1 C2 C3 P1 CK Cb Cv Cval
         generalize W'.drew=v0 at *
         (refine' wpAnyH_take (i:=0) rfl (by kernel_rfl) (by kernel_rfl) (by kernel_rfl) (fun _ _ _ h=>h) (Or.inl ⟨by rfl,?_⟩) (by assumption) ?_;rotate_left;(· (intro wq hq;(try dsimp only at hq);go_simp;first | done | with_reducible rfl));simp only [psA])
         (refine' wpAnyH_take (i:=1) rfl (by kernel_rfl) (by kernel_rfl) (by kernel_rfl) (fun _ _ _ h=>h) (Or.inl ⟨by rfl,?_⟩) (by assumption) ?_;rotate_left;(· (intro wq hq;(try dsimp only at hq);go_simp;first | done | with_reducible rfl));simp only [psA])
         (refine' wpAnyH_take (i:=2) rfl (by kernel_rfl) (by kernel_rfl) (by kernel_rfl) (fun _ _ _ h=>h) (Or.inl ⟨by rfl,?_⟩) (by assumption) ?_;rotate_left;(· (intro wq hq;(try dsimp only at hq);go_simp;first | done | with_reducible rfl));simp only [psA])
         (refine wpAnyH_take (i:=3) (v:=.agg [.int .i64 k1,.bool b1,.string r1,.string t1,.slice ko1 N1 kc1,.slice vo1 M1 vc1].toArray) rfl (by kernel_rfl) (by kernel_rfl) (by kernel_rfl) (fun _ _ _ h=>h) (yieldsIf_load_mid (by rfl) 59 _ rfl (p) 0 rfl [.int .i64 k1,.bool b1,.string r1,.string t1,.slice ko1 N1 kc1,.slice vo1 M1 vc1] _ (fun wq hq=>hq.2) Tryz.underlying59 rfl z1) (by assumption) ?_;simp only [psA])
         have hcall:=hid (ih'.out u1 (by have h1:=kid_size (k:=k) (b:=b) (r:=r) (t:=t) (ks:=ks) hu1.out;have:=hs'.out;omega) (lnL_get hln'.out.2.2 hu1.out) _ v0 Dv.out)
         refine wpAnyH_ready (rs:=[4]) (by kernel_rfl) (by simp) ?_
         refine AllReadyH.cons rfl (fun K hK=>?_) ?_
         ·rw [if_pos (by rfl)]
          go_simp
          refine Calls.mono hcall.out ?_
          rintro e v2 ⟨x,rfl,hx,hb1⟩
          obtain ⟨ko3,kc3,vo3,vc3,rfl⟩:=hx.six
          have hx':=hid hx
          have E1:=hid (D1.out.keptAll hb1)
          have E2:=hid (D2.out.keptAll hb1)
          have E3:=hid (D3.out.keptAll hb1)
          have EP:=hid (DP.out.keptAll hb1)
          have EK:=hid (DK.out.kept hb1)
          have Eb:=hid (hbel.out Db.out hb1)
          have hb1':=hid hb1
          have hRv:=hid (D3.out.lt)
          have Eval:Hid (∀ (q:Nat) (u:Vt),q<i→vs[q]? = some u→ValOn (fun b=>R<b) v2 u (.agg (Y q))):=fun q u hq hu=>(Dval.out q u hq hu).keptB hb1
          generalize u1.kind=k3 at *
          generalize u1.b=b3 at *
          generalize u1.raw=r3 at *
          generalize u1.text=t3 at *
          generalize u1.keys.length=N3 at *
          generalize u1.kids.length=M3 at *
          refine hK.out _ _ ⟨E1.out.cell 5,EP.out.range rfl⟩ (fun _=>?_)
          clear hK K hb1 hx D1 D2 D3 DP DK Db Dv Dval hx0 hcall
          refine wpAnyH_ready (rs:=[5]) (by kernel_rfl) (by simp) ?_
          refine AllReadyH.cons rfl (fun K hK=>?_) ?_
          ·go_simp
           refine hK.out _ _ ⟨E1.out.cell 5,EP.out.range rfl⟩ (fun _=>?_)
           clear hK K
           have hXc:Hid (∀ j,j<6→v2.cell? ⟨R,i*6+j,none⟩=(X i)[j]?):=fun j hj=>by
            rw [E3.out.cell,(hcs'.out i (by rw [hM.out];exact hlt)).2 j hj,hYX'.out i (Nat.le_refl _)]
           have hXl:Hid (X i = #[.int .i64 k1,.bool b1,.string r1,.string t1,.slice ko1 N1 kc1,.slice vo1 M1 vc1]):=by have:=congrArg List.toArray hL1.out;rw [Array.toArray_toList] at this;exact this
           rw [hXl.out] at hXc
           have o0:v2.cell? ⟨R,i*6,none⟩=some (.int .i64 k1):=hXc.out 0 (by decide)
           have f0:v2.frozen? ⟨R,i*6,none⟩=false:=E3.out.frozen (i*6)
           have o1:v2.cell? ⟨R,i*6+1,none⟩=some (.bool b1):=hXc.out 1 (by decide)
           have f1:v2.frozen? ⟨R,i*6+1,none⟩=false:=E3.out.frozen (i*6+1)
           have o2:v2.cell? ⟨R,i*6+2,none⟩=some (.string r1):=hXc.out 2 (by decide)
           have f2:v2.frozen? ⟨R,i*6+2,none⟩=false:=E3.out.frozen (i*6+2)
           have o3:v2.cell? ⟨R,i*6+3,none⟩=some (.string t1):=hXc.out 3 (by decide)
           have f3:v2.frozen? ⟨R,i*6+3,none⟩=false:=E3.out.frozen (i*6+3)
           have o4:v2.cell? ⟨R,i*6+4,none⟩=some (.slice ko1 N1 kc1):=hXc.out 4 (by decide)
           have f4:v2.frozen? ⟨R,i*6+4,none⟩=false:=E3.out.frozen (i*6+4)
           have o5:v2.cell? ⟨R,i*6+5,none⟩=some (.slice vo1 M1 vc1):=hXc.out 5 (by decide)
           have f5:v2.frozen? ⟨R,i*6+5,none⟩=false:=E3.out.frozen (i*6+5)
           refine wpAnyH_ready (rs:=[6]) (by kernel_rfl) (by simp) ?_
           refine AllReadyH.cons rfl (fun K hK=>?_) ?_
           ·go_simp
            obtain ⟨wf,hwf⟩:∃ wf,wf=(((((v2.setCell ⟨R,i*6,none⟩ (.int .i64 k3)).setCell ⟨R,i*6+1,none⟩ (.bool b3)).setCell ⟨R,i*6+2,none⟩ (.string r3)).setCell ⟨R,i*6+3,none⟩ (.string t3)).setCell ⟨R,i*6+4,none⟩ (.slice ko3 N3 kc3)).setCell ⟨R,i*6+5,none⟩ (.slice vo3 M3 vc3):=⟨_,rfl⟩
            obtain ⟨hP,hSm⟩:=VRow.put (X:=X) (H:=H+2) (by rw [hM.out];exact hlt) hu1.out hR2'.out hRv.out hwf E3.out hcs'.out hYX'.out Eval.out hx'.out
            have hP':=hid hP
            have hHR:H≠R:=by have:=hR2'.out;omega
            have hHR1:H+1≠R:=by have:=hR2'.out;omega
            have hHR2:H≤R:=by have:=hR2'.out;omega
            have G1:=hid (show At wf H _ 59 by rw [hwf];exact (((((E1.out.other (p:=⟨R,i*6,none⟩) hHR _).other (p:=⟨R,i*6+1,none⟩) hHR _).other (p:=⟨R,i*6+2,none⟩) hHR _).other (p:=⟨R,i*6+3,none⟩) hHR _).other (p:=⟨R,i*6+4,none⟩) hHR _).other (p:=⟨R,i*6+5,none⟩) hHR _)
            have G2:=hid (show At wf (H+1) _ 59 by rw [hwf];exact (((((E2.out.other (p:=⟨R,i*6,none⟩) hHR1 _).other (p:=⟨R,i*6+1,none⟩) hHR1 _).other (p:=⟨R,i*6+2,none⟩) hHR1 _).other (p:=⟨R,i*6+3,none⟩) hHR1 _).other (p:=⟨R,i*6+4,none⟩) hHR1 _).other (p:=⟨R,i*6+5,none⟩) hHR1 _)
            have Gb:=hid (show Below H w wf by rw [hwf];exact (((((Eb.out.setCell (p:=⟨R,i*6,none⟩) hHR2 _).setCell (p:=⟨R,i*6+1,none⟩) hHR2 _).setCell (p:=⟨R,i*6+2,none⟩) hHR2 _).setCell (p:=⟨R,i*6+3,none⟩) hHR2 _).setCell (p:=⟨R,i*6+4,none⟩) hHR2 _).setCell (p:=⟨R,i*6+5,none⟩) hHR2 _)
            have GK:=hid (EK.out.same hSm E3.out)
            have hpR:Hid (p≠R):=hpR0
            have GP:=hid (show At wf p _ 59 by rw [hwf];exact (((((EP.out.other (p:=⟨R,i*6,none⟩) hpR.out _).other (p:=⟨R,i*6+1,none⟩) hpR.out _).other (p:=⟨R,i*6+2,none⟩) hpR.out _).other (p:=⟨R,i*6+3,none⟩) hpR.out _).other (p:=⟨R,i*6+4,none⟩) hpR.out _).other (p:=⟨R,i*6+5,none⟩) hpR.out _)
            rw [← hwf]
            refine hK.out _ _ ⟨G1.out.cell 5,GP.out.range rfl⟩ (fun _=>?_)
            clear hK K E1 E2 E3 EP EK Eb Eval hP hSm hwf hXc hXl o0 o1 o2 o3 o4 o5 f0 f1 f2 f3 f4 f5 hHR hHR1 hHR2 hx'
            refine wpAnyH_done (by kernel_rfl) ?_ _
            refine hK12 _ _ ?_
            go_wp2
            go_roundw
            case rel=>exact ⟨i+1,by omega,by simp,hP',GK,G1,G2,Gb⟩
            case measure=>simp [intOf];omega
           exact AllReadyH.nil
          exact AllReadyH.nil
         exact AllReadyH.nil
        ·obtain rfl:M=i:=by omega
         have hVd:Hid (VRow (H+2) wr vo' vs X vs.length):=by rw [hM.out];exact hVR.out
         have c0:wr.cell? ⟨H,0,none⟩=some (.int .i64 k):=A1.out.cell 0
         have c1:wr.cell? ⟨H,1,none⟩=some (.bool b):=A1.out.cell 1
         have c2:wr.cell? ⟨H,2,none⟩=some (.string r):=A1.out.cell 2
         have c3:wr.cell? ⟨H,3,none⟩=some (.string t):=A1.out.cell 3
         have c4:wr.cell? ⟨H,4,none⟩=some (.slice ko' N kc'):=A1.out.cell 4
         have c5:wr.cell? ⟨H,5,none⟩=some (.slice vo' M vc'):=A1.out.cell 5
         have d0:wr.cell? ⟨H+1,0,none⟩=some (.int .i64 0):=A2.out.cell 0
         have d1:wr.cell? ⟨H+1,1,none⟩=some (.bool false):=A2.out.cell 1
         have d2:wr.cell? ⟨H+1,2,none⟩=some (.string ⟨#[]⟩):=A2.out.cell 2
         have d3:wr.cell? ⟨H+1,3,none⟩=some (.string ⟨#[]⟩):=A2.out.cell 3
         have d4:wr.cell? ⟨H+1,4,none⟩=some (.slice none 0 0):=A2.out.cell 4
         have d5:wr.cell? ⟨H+1,5,none⟩=some (.slice none 0 0):=A2.out.cell 5
         have f0:=A2.out.frozen 0
         have f1:=A2.out.frozen 1
         have f2:=A2.out.frozen 2
         have f3:=A2.out.frozen 3
         have f4:=A2.out.frozen 4
         have f5:=A2.out.frozen 5
         have hfin:=hid (fun wf hs=>val_done (kc:=kc') (vc:=vc') (b:=b) (wf:=wf) hw'.out hz'.out hks.out hKR.out hVd.out hs)
         rw [hN.out,hM.out] at hfin
         clear hVd hVR hKR
         go_wp2
         refine ret_val1 (p:=2) rfl rfl (A2.out.six) rfl ?_
         exact ⟨_,rfl,hfin.out _ same_six,below_six B1.out (Nat.le_succ _) _ _ _ _ _ _⟩
end Go.Proofs.YtongedjlmohogaaGreatDoor

namespace Go.Proofs.YtongedjlmohogaaGreatDoor
open Go.RowKit Go.Shelf
theorem ofS_err (s:ByteArray):(ofS s).2=0∨(ofS s).2=110∨(ofS s).2=111:=by
 unfold ofS
 split
 ·unfold readS
  split
  ·exact .inr (.inl rfl)
  ·unfold worthS
   repeat' split
   all_goals first | exact .inl rfl | exact .inr (.inr rfl)
 ·exact .inr (.inl rfl)
set_option maxRecDepth 10000 in
set_option maxHeartbeats 4000000 in
theorem formP_0 (k:Int) (hk:k≠1∧k≠2∧k≠3∧k≠4∧k≠5∧k≠6) (b:Bool) (r t:ByteArray) (ko:Option Addr) (N kc:Nat) (vo:Option Addr) (M vc:Nat) (l:Int) (w:World) :
  Calls Tryz.prog 108 #[.agg #[.int .i64 k,.bool b,.string r,.string t,.slice ko N kc,.slice vo M vc],.int .i64 l] w fun e w'=>e = .returned (.bool false)∧Below w.heap.size w w':=by
 obtain ⟨k1,k2,k3,k4,k5,k6⟩:=hk
 have e1:(k == 1)=false:=by simp [k1]
 have e2:(k == 2)=false:=by simp [k2]
 have e3:(k == 3)=false:=by simp [k3]
 have e4:(k == 4)=false:=by simp [k4]
 have e5:(k == 5)=false:=by simp [k5]
 have e6:(k == 6)=false:=by simp [k6]
 go_enter Tryz.func108,Tryz.ntmps108
 go_wp2
 all_goals go_ret
 all_goals (exact ⟨rfl,by exact bw⟩)
set_option maxRecDepth 10000 in
set_option maxHeartbeats 4000000 in
theorem formP_1 (b:Bool) (r t:ByteArray) (ko:Option Addr) (N kc:Nat) (vo:Option Addr) (M vc:Nat) (l:Int) (w:World) (B:Bool) (hB:Hid (bareB b r t N M=B)) :
  Calls Tryz.prog 108 #[.agg #[.int .i64 1,.bool b,.string r,.string t,.slice ko N kc,.slice vo M vc],.int .i64 l] w fun e w'=>e = .returned (.bool B)∧Below w.heap.size w w':=by
 have hbc:=hid (fun u=>bare_calls 1 b r t ko N kc vo M vc B hB u)
 have B1:=hid (show Below w.heap.size w (w.alloc (.cells #[.int .i64 1,.bool b,.string r,.string t,.slice ko N kc,.slice vo M vc] 59)) by exact bw)
 clear hB
 go_enter Tryz.func108,Tryz.ntmps108
 go_wp2_with fail
 refine Calls.mono (hbc.out _) ?_
 rintro e w1 ⟨rfl,hb⟩
 have B2:=hid (belowC B1.out hb)
 clear hb hbc B1
 go_wp2
 go_ret
 exact ⟨rfl,B2.out⟩
set_option maxRecDepth 10000 in
set_option maxHeartbeats 4000000 in
theorem formP_2 (b:Bool) (r t:ByteArray) (ko:Option Addr) (N kc:Nat) (vo:Option Addr) (M vc:Nat) (l:Int) (w:World) (B:Bool) (hB:Hid (bareB false r t N M=B)) :
  Calls Tryz.prog 108 #[.agg #[.int .i64 2,.bool b,.string r,.string t,.slice ko N kc,.slice vo M vc],.int .i64 l] w fun e w'=>e = .returned (.bool B)∧Below w.heap.size w w':=by
 have hbc:=hid (fun u=>bare_calls 2 false r t ko N kc vo M vc B hB u)
 have B1:=hid (show Below w.heap.size w (w.alloc (.cells #[.int .i64 2,.bool false,.string r,.string t,.slice ko N kc,.slice vo M vc] 59)) by exact bw)
 clear hB
 go_enter Tryz.func108,Tryz.ntmps108
 go_wp2_with fail
 refine Calls.mono (hbc.out _) ?_
 rintro e w1 ⟨rfl,hb⟩
 have B2:=hid (belowC B1.out hb)
 clear hb hbc B1
 go_wp2
 go_ret
 exact ⟨rfl,B2.out⟩
set_option maxRecDepth 10000 in
set_option maxHeartbeats 4000000 in
theorem formP_3 (b:Bool) (r t:ByteArray) (ko:Option Addr) (N kc:Nat) (vo:Option Addr) (M vc:Nat) (l:Int) (w:World) (hr:r.size≤281474976710656) (V:Bool) (hV:Hid (decide ((ofS r).2≠110)=V)) (B:Bool) (hB:Hid (bareB b ⟨#[]⟩ t N M=B)) :
  Calls Tryz.prog 108 #[.agg #[.int .i64 3,.bool b,.string r,.string t,.slice ko N kc,.slice vo M vc],.int .i64 l] w fun e w'=>e = .returned (.bool (V && B))∧Below w.heap.size w w':=by
 have hbc:=hid (fun u=>bare_calls 3 b ⟨#[]⟩ t ko N kc vo M vc B hB u)
 obtain ⟨q,hq⟩:∃ q,ofS r=q:=⟨_,rfl⟩
 obtain ⟨⟨dn,dd,dx⟩,e2⟩:=q
 have hV2:((e2:Int) != 110)=V:=by
  rw [← hV.out,hq,Bool.eq_iff_iff]
  simp
  omega
 have hof:=hid (fun u=>ofD_calls r hr u)
 have hov:=hid (show ofV r = .tuple #[.agg #[.bool dn,.string ⟨dd.toArray⟩,.int .i64 dx],.int .i64 (e2:Int)] by rw [ofV,hq];rfl)
 rw [hov.out] at hof
 generalize (⟨dd.toArray⟩:ByteArray)=TD at hof
 clear hov hq hr hB hV
 have A1:=hid (At.new w #[.int .i64 3,.bool b,.string r,.string t,.slice ko N kc,.slice vo M vc] 59)
 have B1:=hid (show Below w.heap.size w (w.alloc (.cells #[.int .i64 3,.bool b,.string r,.string t,.slice ko N kc,.slice vo M vc] 59)) by exact bw)
 go_enter Tryz.func108,Tryz.ntmps108
 go_wp2_with fail
 generalize w.alloc (.cells #[.int .i64 3,.bool b,.string r,.string t,.slice ko N kc,.slice vo M vc] 59)=W at A1 B1 ⊢
 refine Calls.mono (hof.out _) ?_
 rintro e w1 ⟨rfl,hb⟩
 have A2:=hid ((A1.out.keptAll hb).alloc (.cells #[.bool dn,.string TD,.int .i64 dx] 170))
 have B2:=hid (show Below w.heap.size w (w1.alloc (.cells #[.bool dn,.string TD,.int .i64 dx] 170)) from (belowC B1.out hb).alloc (belowC B1.out hb).size _)
 clear hof hb A1 B1
 go_upto_region 9 with fail
 generalize w1.alloc (.cells #[.bool dn,.string TD,.int .i64 dx] 170)=W2 at A2 B2 ⊢
 have hlt:=A2.out.lt
 have c2:W2.cell? ⟨w.heap.size,2,none⟩=some (.string r):=A2.out.cell 2
 have f2:=A2.out.frozen 2
 have A3:=hid (show At _ w.heap.size #[.int .i64 3,.bool b,.string ⟨#[]⟩,.string t,.slice ko N kc,.slice vo M vc] 59 from A2.out.set 2 (.string ⟨#[]⟩))
 have B3:=hid (show Below w.heap.size w (W2.setCell ⟨w.heap.size,2,none⟩ (.string ⟨#[]⟩)) from B2.out.setCell (Nat.le_refl _) _)
 clear A2 B2
 go_upto_region 10 with fail
 generalize W2.setCell ⟨w.heap.size,2,none⟩ (.string ⟨#[]⟩)=W3 at A3 B3 ⊢
 have c0:=A3.out.cell 0
 have c1:=A3.out.cell 1
 have c2:=A3.out.cell 2
 have c3:=A3.out.cell 3
 have c4:=A3.out.cell 4
 have c5:=A3.out.cell 5
 simp only [List.getElem?_toArray,List.getElem?_cons_zero,List.getElem?_cons_succ] at c0 c1 c2 c3 c4 c5
 cases V with
 | false =>
  clear hbc
  go_wp2
  go_ret
  exact ⟨by simp,B3.out⟩
 | true =>
  go_wp2_with fail
  refine Calls.mono (hbc.out _) ?_
  rintro e w5 ⟨rfl,hb⟩
  have B4:=hid (belowC B3.out hb)
  clear hb hbc B3 c0 c1 c2 c3 c4 c5
  go_wp2
  go_ret
  exact ⟨by simp,B4.out⟩
set_option maxRecDepth 10000 in
set_option maxHeartbeats 4000000 in
theorem formP_4 (b:Bool) (r t:ByteArray) (ko:Option Addr) (N kc:Nat) (vo:Option Addr) (M vc:Nat) (l:Int) (w:World) (ht:t.size≤9223372036854775807) (hT:TabU w) (V:Bool) (hV:Hid (decide (badOf t = -1)=V)) (B:Bool) (hB:Hid (bareB b r ⟨#[]⟩ N M=B)) :
  Calls Tryz.prog 108 #[.agg #[.int .i64 4,.bool b,.string r,.string t,.slice ko N kc,.slice vo M vc],.int .i64 l] w fun e w'=>e = .returned (.bool (V && B))∧Below w.heap.size w w':=by
 have hbc:=hid (fun u=>bare_calls 4 b r ⟨#[]⟩ ko N kc vo M vc B hB u)
 have A1:=hid (At.new w #[.int .i64 4,.bool b,.string r,.string t,.slice ko N kc,.slice vo M vc] 59)
 have B1:=hid (show Below w.heap.size w (w.alloc (.cells #[.int .i64 4,.bool b,.string r,.string t,.slice ko N kc,.slice vo M vc] 59)) by exact bw)
 have hof:=hid (validS_calls t ht V hV _ (hT.below B1.out))
 clear hB hV hT ht
 go_enter Tryz.func108,Tryz.ntmps108
 go_wp2_with fail
 generalize w.alloc (.cells #[.int .i64 4,.bool b,.string r,.string t,.slice ko N kc,.slice vo M vc] 59)=W at A1 B1 hof ⊢
 refine Calls.mono hof.out ?_
 rintro e w1 ⟨rfl,hb⟩
 have A2:=hid (A1.out.keptAll hb)
 have B2:=hid (belowC B1.out hb)
 clear hof hb A1 B1
 have hlt:=A2.out.lt
 have c3:w1.cell? ⟨w.heap.size,3,none⟩=some (.string t):=A2.out.cell 3
 have f3:=A2.out.frozen 3
 have A3:=hid (show At _ w.heap.size #[.int .i64 4,.bool b,.string r,.string ⟨#[]⟩,.slice ko N kc,.slice vo M vc] 59 from A2.out.set 3 (.string ⟨#[]⟩))
 have B3:=hid (show Below w.heap.size w (w1.setCell ⟨w.heap.size,3,none⟩ (.string ⟨#[]⟩)) from B2.out.setCell (Nat.le_refl _) _)
 clear A2 B2
 go_upto_region 14 with fail
 generalize w1.setCell ⟨w.heap.size,3,none⟩ (.string ⟨#[]⟩)=W3 at A3 B3 ⊢
 have c0:=A3.out.cell 0
 have c1:=A3.out.cell 1
 have c2:=A3.out.cell 2
 have c3:=A3.out.cell 3
 have c4:=A3.out.cell 4
 have c5:=A3.out.cell 5
 simp only [List.getElem?_toArray,List.getElem?_cons_zero,List.getElem?_cons_succ] at c0 c1 c2 c3 c4 c5
 cases V with
 | false =>
  clear hbc
  go_wp2
  go_ret
  exact ⟨by simp,B3.out⟩
 | true =>
  go_wp2_with fail
  refine Calls.mono (hbc.out _) ?_
  rintro e w5 ⟨rfl,hb⟩
  have B4:=hid (belowC B3.out hb)
  clear hb hbc B3 c0 c1 c2 c3 c4 c5
  go_wp2
  go_ret
  exact ⟨by simp,B4.out⟩
set_option maxRecDepth 10000 in
set_option maxHeartbeats 4000000 in
theorem formP_5 (b:Bool) (r t:ByteArray) (ko:Option Addr) (N kc:Nat) (vo:Option Addr) (M vc:Nat) (l:Int) (w:World) (V:Bool) (hof:Hid (∀ u,Below w.heap.size w u→Calls Tryz.prog 129 #[.slice vo M vc,.int .i64 l] u fun e w'=>e = .returned (.bool V)∧Below u.heap.size u w')) (B:Bool) (hB:Hid (bareB b r t N 0=B)) :
  Calls Tryz.prog 108 #[.agg #[.int .i64 5,.bool b,.string r,.string t,.slice ko N kc,.slice vo M vc],.int .i64 l] w fun e w'=>e = .returned (.bool (V && B))∧Below w.heap.size w w':=by
 have hbc:=hid (fun u=>bare_calls 5 b r t ko N kc none 0 0 B hB u)
 have A1:=hid (At.new w #[.int .i64 5,.bool b,.string r,.string t,.slice ko N kc,.slice vo M vc] 59)
 have B1:=hid (show Below w.heap.size w (w.alloc (.cells #[.int .i64 5,.bool b,.string r,.string t,.slice ko N kc,.slice vo M vc] 59)) by exact bw)
 clear hB
 go_enter Tryz.func108,Tryz.ntmps108
 go_wp2_with fail
 generalize w.alloc (.cells #[.int .i64 5,.bool b,.string r,.string t,.slice ko N kc,.slice vo M vc] 59)=W at A1 B1 ⊢
 refine Calls.mono (hof.out _ B1.out) ?_
 rintro e w1 ⟨rfl,hb⟩
 have A2:=hid (A1.out.keptAll hb)
 have B2:=hid (belowC B1.out hb)
 clear hof hb A1 B1
 have hlt:=A2.out.lt
 have o5:w1.cell? ⟨w.heap.size,5,none⟩=some (.slice vo M vc):=A2.out.cell 5
 have f5:=A2.out.frozen 5
 have A3:=hid (show At _ w.heap.size #[.int .i64 5,.bool b,.string r,.string t,.slice ko N kc,.slice none 0 0] 59 from A2.out.set 5 (.slice none 0 0))
 have B3:=hid (show Below w.heap.size w (w1.setCell ⟨w.heap.size,5,none⟩ (.slice none 0 0)) from B2.out.setCell (Nat.le_refl _) _)
 clear A2 B2
 go_upto_region 18 with fail
 generalize w1.setCell ⟨w.heap.size,5,none⟩ (.slice none 0 0)=W3 at A3 B3 ⊢
 have c0:=A3.out.cell 0
 have c1:=A3.out.cell 1
 have c2:=A3.out.cell 2
 have c3:=A3.out.cell 3
 have c4:=A3.out.cell 4
 have c5:=A3.out.cell 5
 simp only [List.getElem?_toArray,List.getElem?_cons_zero,List.getElem?_cons_succ] at c0 c1 c2 c3 c4 c5
 cases V with
 | false =>
  clear hbc
  go_wp2
  go_ret
  exact ⟨by simp,B3.out⟩
 | true =>
  go_wp2_with fail
  refine Calls.mono (hbc.out _) ?_
  rintro e w5 ⟨rfl,hb⟩
  have B4:=hid (belowC B3.out hb)
  clear hb hbc B3 c0 c1 c2 c3 c4 c5
  go_wp2
  go_ret
  exact ⟨by simp,B4.out⟩
set_option maxRecDepth 10000 in
set_option maxHeartbeats 4000000 in
theorem formP_6 (b:Bool) (r t:ByteArray) (ko:Option Addr) (N kc:Nat) (vo:Option Addr) (M vc:Nat) (l:Int) (w:World) (hN:N≤capT) (hM:M≤capT) (KB:Bool) (hok:Hid (∀ u,Below w.heap.size w u→Calls Tryz.prog 130 #[.slice ko N kc] u fun e w'=>e = .returned (.bool KB)∧Below u.heap.size u w')) (V:Bool) (hof:Hid (∀ u,Below w.heap.size w u→Calls Tryz.prog 129 #[.slice vo M vc,.int .i64 l] u fun e w'=>e = .returned (.bool V)∧Below u.heap.size u w')) (B:Bool) (hB:Hid (bareB b r t 0 0=B)) :
  Calls Tryz.prog 108 #[.agg #[.int .i64 6,.bool b,.string r,.string t,.slice ko N kc,.slice vo M vc],.int .i64 l] w fun e w'=>e = .returned (.bool ((decide (N=M) && (KB && V)) && B))∧Below w.heap.size w w':=by
 have hbc:=hid (fun u=>bare_calls 6 b r t none 0 0 none 0 0 B hB u)
 have A1:=hid (At.new w #[.int .i64 6,.bool b,.string r,.string t,.slice ko N kc,.slice vo M vc] 59)
 have B1:=hid (show Below w.heap.size w (w.alloc (.cells #[.int .i64 6,.bool b,.string r,.string t,.slice ko N kc,.slice vo M vc] 59)) by exact bw)
 have hNi:(N:Int)≤140737488351232:=by unfold capT at hN;omega
 have hMi:(M:Int)≤140737488351232:=by unfold capT at hM;omega
 obtain ⟨Z,hZ⟩:∃ Z,Hid ((decide (N=M) && (KB && V))=Z):=⟨_,rfl⟩
 rw [hZ.out]
 clear hB hN hM
 go_enter Tryz.func108,Tryz.ntmps108
 go_upto_region 20 with fail
 generalize w.alloc (.cells #[.int .i64 6,.bool b,.string r,.string t,.slice ko N kc,.slice vo M vc] 59)=W at A1 B1 ⊢
 go_cut [9] from 61 to 78 (fun c wx=>c = .bool Z∧Hid (At wx w.heap.size #[.int .i64 6,.bool b,.string r,.string t,.slice ko N kc,.slice vo M vc] 59)∧Hid (Below w.heap.size w wx))
 case first =>
  have c4:W.cell? ⟨w.heap.size,4,none⟩=some (.slice ko N kc):=A1.out.cell 4
  have c5:W.cell? ⟨w.heap.size,5,none⟩=some (.slice vo M vc):=A1.out.cell 5
  by_cases hNM:N=M
  ·have e1:((N:Int) == (M:Int))=true:=by simp [hNM]
   have hz1:Hid (Z=(KB && V)):=by show _=_;rw [← hZ.out,decide_eq_true hNM];rfl
   clear hNM hZ
   go_wp2_with fail
   refine Calls.mono (hok.out _ B1.out) ?_
   rintro e w1 ⟨rfl,hb⟩
   have A2:=hid (A1.out.keptAll hb)
   have B2:=hid (belowC B1.out hb)
   clear hok hb A1 B1 c4 c5
   have c4:w1.cell? ⟨w.heap.size,4,none⟩=some (.slice ko N kc):=A2.out.cell 4
   have c5:w1.cell? ⟨w.heap.size,5,none⟩=some (.slice vo M vc):=A2.out.cell 5
   cases KB with
   | false =>
    go_wp2
    go_meet
    case rel=>exact ⟨by rw [hz1.out] <;> simp,A2,B2⟩
   | true =>
    go_wp2_with fail
    refine Calls.mono (hof.out _ B2.out) ?_
    rintro e w2 ⟨rfl,hb⟩
    have A3:=hid (A2.out.keptAll hb)
    have B3:=hid (belowC B2.out hb)
    clear hof hb A2 B2 c4 c5
    go_wp2
    go_meet
    case rel=>exact ⟨by rw [hz1.out] <;> simp,A3,B3⟩
  ·have e1:((N:Int) == (M:Int))=false:=by simp;omega
   have hz1:Hid (Z=false):=by show _=_;rw [← hZ.out,decide_eq_false hNM];rfl
   clear hNM hZ
   go_wp2
   go_meet
   case rel=>exact ⟨by rw [hz1.out] <;> simp,A1,B1⟩
 case rest =>
  obtain ⟨rfl,A2,B2⟩:=hcut
  clear A1 B1 hok hof hZ
  have hlt:=A2.out.lt
  have f4:=A2.out.frozen 4
  have f5:=A2.out.frozen 5
  have o4:wc.cell? ⟨w.heap.size,4,none⟩=some (.slice ko N kc):=A2.out.cell 4
  have o5:wc.cell? ⟨w.heap.size,5,none⟩=some (.slice vo M vc):=A2.out.cell 5
  have A3:=hid (show At _ w.heap.size #[.int .i64 6,.bool b,.string r,.string t,.slice none 0 0,.slice none 0 0] 59 from (A2.out.set 4 (.slice none 0 0)).set 5 (.slice none 0 0))
  have B3:=hid (show Below w.heap.size w ((wc.setCell ⟨w.heap.size,4,none⟩ (.slice none 0 0)).setCell ⟨w.heap.size,5,none⟩ (.slice none 0 0)) from (B2.out.setCell (Nat.le_refl _) _).setCell (Nat.le_refl _) _)
  clear A2 B2
  go_upto_region 22 with fail
  generalize (wc.setCell ⟨w.heap.size,4,none⟩ (.slice none 0 0)).setCell ⟨w.heap.size,5,none⟩ (.slice none 0 0)=W3 at A3 B3 ⊢
  have c0:=A3.out.cell 0
  have c1:=A3.out.cell 1
  have c2:=A3.out.cell 2
  have c3:=A3.out.cell 3
  have c4:=A3.out.cell 4
  have c5:=A3.out.cell 5
  simp only [List.getElem?_toArray,List.getElem?_cons_zero,List.getElem?_cons_succ] at c0 c1 c2 c3 c4 c5
  cases Z with
  | false =>
   clear hbc
   go_wp2
   go_ret
   exact ⟨by simp,B3.out⟩
  | true =>
   go_wp2_with fail
   refine Calls.mono (hbc.out _) ?_
   rintro e w5 ⟨rfl,hb⟩
   have B4:=hid (belowC B3.out hb)
   clear hb hbc B3 c0 c1 c2 c3 c4 c5
   go_wp2
   go_ret
   exact ⟨by simp,B4.out⟩
theorem bare_plain {b:Bool} {r t:ByteArray} {N M:Nat} (_:Int):bareB b r t N M=(decide (N=0) && (decide (M=0) && (!b && ((r.toList == []) && (t.toList == []))))):=by
 unfold bareB
 generalize (r.toList == [])=x
 generalize (t.toList == [])=y
 generalize decide (N=0)=z
 generalize decide (M=0)=u
 cases b <;> cases x <;> cases y <;> cases z <;> cases u <;> rfl
set_option maxHeartbeats 4000000 in
theorem formP_ex:∀ (n:Nat) (t:Vt),SizeOf.sizeOf t≤n→∀ (l:Int),0≤l→l≤1024→∀ (va:Value) (w:World),TabU w→ValAt w t va →
  Calls Tryz.prog 108 #[va,.int .i64 l] w fun e w'=>e = .returned (.bool (wfV t l))∧Below w.heap.size w w':=by
 intro n
 induction n with
 | zero =>
  intro t hs
  cases t
  simp at hs
 | succ n ih =>
  intro t hs l hl1 hl2 va w hT ha
  cases ha with
  | mk k b r t ks vs ko kc vo vc X hw hzz hk hr hv =>
  obtain ⟨z1,z2,z3,z4⟩:=hzz
  have e0:(ByteArray.toList ⟨#[]⟩ == ([]:List UInt8))=true:=by first | decide +kernel | simp
  have hkids:Hid (∀ B,(!decide (l=0) && wfL vs (l-1))=B→∀ u,Below w.heap.size w u→Calls Tryz.prog 129 #[.slice vo vs.length vc,.int .i64 l] u fun e w'=>e = .returned (.bool B)∧Below u.heap.size u w'):=fun B hB u hu =>
   kidsF_of vs l hl1 hl2 (fun x i hx va' w' hT' hx' hlp=>ih x (by have:=kid_size (k:=k) (b:=b) (r:=r) (t:=t) (ks:=ks) hx;omega) (l-1) (by omega) (by omega) va' w' hT' hx') vo vs.length vc rfl z4 X u (hT.below hu) (hr.kept hu) (fun i x hx=>(hv i x hx).kept hu) B hB
  have hwf:wfV (.mk k b r t ks vs) l=(plainV (.mk k b r t ks vs) && (!(decide (k=5∨k=6) && decide (l=0)) && wfL vs (l-1))):=by
   conv=>lhs;unfold wfV
  have hnone:(k≠5∧k≠6)→wfV (.mk k b r t ks vs) l=plainV (.mk k b r t ks vs):=fun ⟨a1,a2⟩=>by
   rw [hwf,decide_eq_false (show ¬ (k=5∨k=6) by omega)]
   cases hp:plainV (.mk k b r t ks vs) with
   | false=>rfl
   | true =>
    have:=plain_kids hp (by omega)
    rw [List.length_eq_zero_iff.1 this]
    simp [wfL]
  by_cases h1:k=1
  ·subst h1
   refine (formP_1 b r t ko ks.length kc vo vs.length vc l w _ (hid rfl)).mono ?_
   rintro e w' ⟨rfl,hb⟩
   exact ⟨by rw [hnone (by decide),bare_plain 1];rfl,hb⟩
  by_cases h2:k=2
  ·subst h2
   refine (formP_2 b r t ko ks.length kc vo vs.length vc l w _ (hid rfl)).mono ?_
   rintro e w' ⟨rfl,hb⟩
   exact ⟨by rw [hnone (by decide),bare_plain 2];rfl,hb⟩
  by_cases h3:k=3
  ·subst h3
   refine (formP_3 b r t ko ks.length kc vo vs.length vc l w (by unfold capT at z1;omega) _ (hid rfl) _ (hid rfl)).mono ?_
   rintro e w' ⟨rfl,hb⟩
   refine ⟨?_,hb⟩
   rw [hnone (by decide),bare_plain 3,e0]
   have hoe:decide ((ofS r).2≠110)=(decide ((ofS r).2=0) || decide ((ofS r).2=111)):=by
    rcases ofS_err r with h | h | h <;> rw [h] <;> rfl
   rw [hoe]
   show _=_
   unfold plainV
   simp only [show ¬ (3:Int)=1 by decide,show ¬ (3:Int)=2 by decide,if_false,if_true]
   generalize (decide ((ofS r).2=0) || decide ((ofS r).2=111))=x
   generalize (t.toList == [])=y
   generalize decide (ks.length=0)=z
   generalize decide (vs.length=0)=u
   cases b <;> cases x <;> cases y <;> cases z <;> cases u <;> rfl
  by_cases h4:k=4
  ·subst h4
   refine (formP_4 b r t ko ks.length kc vo vs.length vc l w (by unfold capT at z2;omega) hT _ (hid rfl) _ (hid rfl)).mono ?_
   rintro e w' ⟨rfl,hb⟩
   refine ⟨?_,hb⟩
   rw [hnone (by decide),bare_plain 4,e0]
   unfold plainV
   simp only [show ¬ (4:Int)=1 by decide,show ¬ (4:Int)=2 by decide,show ¬ (4:Int)=3 by decide,if_false,if_true]
   generalize decide (badOf t = -1)=x
   generalize (r.toList == [])=y
   generalize decide (ks.length=0)=z
   generalize decide (vs.length=0)=u
   cases b <;> cases x <;> cases y <;> cases z <;> cases u <;> rfl
  by_cases h5:k=5
  ·subst h5
   refine (formP_5 b r t ko ks.length kc vo vs.length vc l w _ (hid (hkids.out _ rfl)) _ (hid rfl)).mono ?_
   rintro e w' ⟨rfl,hb⟩
   refine ⟨?_,hb⟩
   rw [hwf,bare_plain 5]
   unfold plainV
   simp only [show ¬ (5:Int)=1 by decide,show ¬ (5:Int)=2 by decide,show ¬ (5:Int)=3 by decide,show ¬ (5:Int)=4 by decide,if_false,if_true,true_or,decide_true,Bool.true_and]
   generalize wfL vs (l-1)=x
   generalize (r.toList == [])=y
   generalize (t.toList == [])=v
   generalize decide (ks.length=0)=z
   generalize decide (l=0)=u
   cases b <;> cases x <;> cases y <;> cases z <;> cases u <;> cases v <;> rfl
  by_cases h6:k=6
  ·subst h6
   refine (formP_6 b r t ko ks.length kc vo vs.length vc l w z3 z4 _ (hid fun u hu=>keysF_calls ks ko ks.length kc (hid rfl) z3 _ (hid rfl) u (hid (hT.below hu)) (hid (hk.kept hu))) _ (hid (hkids.out _ rfl)) _ (hid rfl)).mono ?_
   rintro e w' ⟨rfl,hb⟩
   refine ⟨?_,hb⟩
   rw [hwf,bare_plain 6]
   unfold plainV
   simp only [show ¬ (6:Int)=1 by decide,show ¬ (6:Int)=2 by decide,show ¬ (6:Int)=3 by decide,show ¬ (6:Int)=4 by decide,show ¬ (6:Int)=5 by decide,if_false,if_true,or_true,decide_true,Bool.true_and]
   generalize wfL vs (l-1)=x
   generalize (r.toList == [])=y
   generalize (t.toList == [])=v
   generalize decide (ks.length=vs.length)=z
   generalize decide (l=0)=u
   generalize allB ks=a
   cases b <;> cases x <;> cases y <;> cases z <;> cases u <;> cases v <;> cases a <;> rfl
  refine (formP_0 k ⟨h1,h2,h3,h4,h5,h6⟩ b r t ko ks.length kc vo vs.length vc l w).mono ?_
  rintro e w' ⟨rfl,hb⟩
  refine ⟨?_,hb⟩
  rw [hnone ⟨h5,h6⟩]
  unfold plainV
  simp only [h1,h2,h3,h4,h5,h6,if_false]
set_option maxRecDepth 10000 in
set_option maxHeartbeats 4000000 in
theorem formedP_calls (t:Vt) (va:Value) (w:World) (hT:TabU w) (ha:ValAt w t va) :
  Calls Tryz.prog 90 #[va] w fun e w'=>e = .returned (Value.bool (wfV t 1024))∧Below w.heap.size w w':=by
 have hc:=hid (fun u hu1 hu=>formP_ex _ t (Nat.le_refl _) 1024 (by decide) (by decide) va u hu1 hu)
 generalize Value.bool (wfV t 1024)=B at hc ⊢
 have ha':=hid ha
 cases ha with
 | mk k b r t ks vs ko kc vo vc X hw hzz hk hr hv =>
 clear hw hzz hk hr hv
 generalize ks.length=N at *
 generalize vs.length=M at *
 have B1:Hid (Below w.heap.size w (w.alloc (.cells #[.int .i64 k,.bool b,.string r,.string t,.slice ko N kc,.slice vo M vc] 59))):=(Below.refl _ w).alloc (Nat.le_refl _) _
 have hT':=hid (hT.below B1.out)
 clear hT
 go_enter Tryz.func90,Tryz.ntmps90
 go_wp2_with fail
 generalize w.alloc (.cells #[.int .i64 k,.bool b,.string r,.string t,.slice ko N kc,.slice vo M vc] 59)=W at B1 hT' ⊢
 refine Calls.mono (hc.out W hT'.out (ha'.out.kept B1.out)) ?_
 rintro e w1 ⟨rfl,hb⟩
 have hb':=hid (belowC B1.out hb)
 clear hb hc B1 ha' hT'
 go_wp2
 go_ret
 exact ⟨rfl,hb'.out⟩
end Go.Proofs.YtongedjlmohogaaGreatDoor

namespace Go.Proofs.YtongedjlmohogaaGreatDoor
open Go.RowKit Go.Shelf
def ldV:Vt→List ByteArray→Option Vt
 | t,[]=>some t
 | t,nm :: r=>match stI t nm with
  | none=>none
  | some i=>match t.kids[i]? with
   | none=>none
   | some u=>ldV u r
theorem ldV_nil (t:Vt):ldV t []=some t:=by rw [ldV.eq_def]
theorem ldV_no {t:Vt} {nm:ByteArray} (h:stI t nm=none) (r:List ByteArray):ldV t (nm :: r)=none:=by rw [ldV.eq_def];simp only [h]
theorem ldV_yes {t u:Vt} {nm:ByteArray} {i:Nat} (h:stI t nm=some i) (hu:t.kids[i]? = some u) (r:List ByteArray):ldV t (nm :: r)=ldV u r:=by
 conv=>lhs;rw [ldV.eq_def]
 simp only [h,hu]
theorem drop_key {L:List ByteArray} {i:Nat} {s:ByteArray} (h:L[i]? = some s):L.drop i=s :: L.drop (i+1):=by
 obtain ⟨h1,h2⟩:=List.getElem?_eq_some_iff.1 h
 rw [List.drop_eq_getElem_cons h1,h2]
theorem wfL_at:∀ {vs:List Vt} {l:Int} {i:Nat} {u:Vt},wfL vs l=true→vs[i]? = some u→wfV u l=true
 | [],_,_,_,_,h=>by simp at h
 | v :: vs,l,0,u,hw,h=>by
  simp at h
  subst h
  unfold wfL at hw
  rw [Bool.and_eq_true] at hw
  exact hw.1
 | v :: vs,l,i+1,u,hw,h=>by
  unfold wfL at hw
  rw [Bool.and_eq_true] at hw
  exact wfL_at hw.2 (by simpa using h)
theorem wf_step {t:Vt} {l:Int} (hw:wfV t l=true) {nm:ByteArray} {i:Nat} (h:stI t nm=some i):∃ u,t.kids[i]? = some u∧wfV u (l-1)=true:=by
 cases t with
 | mk k b r t ks vs =>
  have hw2:=hw
  unfold wfV at hw2
  rw [Bool.and_eq_true,Bool.and_eq_true] at hw2
  obtain ⟨hp,-,hk⟩:=hw2
  have hlt:i<vs.length:=by
   unfold stI at h
   by_cases h5:k=5
   ·rw [if_pos (show (Vt.mk k b r t ks vs).kind=5 from h5)] at h
    split at h
    ·rename_i hh;cases h;exact hh.2
    ·cases h
   ·rw [if_neg (show ¬ (Vt.mk k b r t ks vs).kind=5 from h5)] at h
    by_cases h6:k=6
    ·rw [if_pos (show (Vt.mk k b r t ks vs).kind=6 from h6)] at h
     have h7:i<ks.length:=(List.getElem?_eq_some_iff.1 (fstO_get h).1).1
     subst h6
     unfold plainV at hp
     simp at hp
     omega
    ·rw [if_neg (show ¬ (Vt.mk k b r t ks vs).kind=6 from h6)] at h;cases h
  exact ⟨vs[i],List.getElem?_eq_getElem hlt,wfL_at hk (List.getElem?_eq_getElem hlt)⟩
def fdF (t:Vt) (l:List UInt8):Vt × Bool × Int :=
 if wfV t 1024=true then (if (ptrL l).isSome=true then (match ldV t ((ptN l).map mkL) with | some u=>(u,true,0) | none=>(vt0,false,0)) else (vt0,false,200)) else (vt0,false,1)
def FdQ (F:Vt × Bool × Int) (w:World) (e:Ending) (w':World):Prop:=∃ x:Value,e = .returned (.tuple #[x,.bool F.2.1,.int .i64 F.2.2])∧ValOn (fun b=>w.heap.size≤b) w' F.1 x∧Below w.heap.size w w'
theorem ret_val3 {fn:Func} {p u v:Tmp} {R:Ending→World→Prop} {a:Act} {w:World} {b:Nat} {cs:Array Value} (hres:fn.results = #[.cell p 59,.tmp u,.tmp v]) (hp:a.tmps.getD p undef = .pointer (some ⟨b,0,none⟩))
  (h:At w b cs 59) (hc:cs.size=6) (hd:a.defers=[]) (hR:R (.returned (.tuple #[.agg cs,a.tmps.getD u undef,a.tmps.getD v undef])) w):bodyPost Tryz.prog fn R .ret a w:=by
 refine bodyPost_ret (v:=.tuple #[.agg cs,a.tmps.getD u undef,a.tmps.getD v undef]) ?_ hd hR
 have hl:=run_loadVar_row (P:=Tryz.prog) w b 59 59 cs (0,0) _ h Tryz.underlying59 rfl (by rw [hc];exact sizeVl)
 have hp':a.tmps[p]?.getD undef = .pointer (some ⟨b,0,none⟩):=by simpa using hp
 simp [results,hres,hp',asAddr,hl]
theorem ValAt.lets {w:World} {t:Vt} {va:Value} (h:ValAt w t va):∃ (k1:Int) (b1:Bool) (r1 t1:ByteArray) (ko1:Option Addr) (N1 kc1:Nat) (vo1:Option Addr) (M1 vc1:Nat),va = .agg #[.int .i64 k1,.bool b1,.string r1,.string t1,.slice ko1 N1 kc1,.slice vo1 M1 vc1]:=by
 cases h
 exact ⟨_,_,_,_,_,_,_,_,_,_,rfl⟩
theorem ValAt.kid {w:World} {t:Vt} (k1:Int) (b1:Bool) (r1 t1:ByteArray) (ko1:Option Addr) (N1 kc1:Nat) (vo1:Option Addr) (M1 vc1:Nat) (h:ValAt w t (.agg #[.int .i64 k1,.bool b1,.string r1,.string t1,.slice ko1 N1 kc1,.slice vo1 M1 vc1])) {i:Nat} {u:Vt} (hu:t.kids[i]? = some u):i<M1∧(M1:Int)≤9223372036854775807∧∃ (g o:Nat) (k2:Int) (b2:Bool) (r2 t2:ByteArray) (ko2:Option Addr) (N2 kc2:Nat) (vo2:Option Addr) (M2 vc2:Nat),vo1=some ⟨g,o,none⟩∧w.rangeAt g (o+i*6) [.int .i64 k2,.bool b2,.string r2,.string t2,.slice ko2 N2 kc2,.slice vo2 M2 vc2]∧ValAt w u (.agg #[.int .i64 k2,.bool b2,.string r2,.string t2,.slice ko2 N2 kc2,.slice vo2 M2 vc2]):=by
 cases h with
 | mk k b r t ks vs ko kc vo vc X hw hz hk hr hv =>
 have hi:i<vs.length:=(List.getElem?_eq_some_iff.1 hu).1
 obtain ⟨g,o,rfl,hg,hrg,hl1⟩:=row_range hr hi
 have v1:=hv i u hu
 obtain ⟨ko',kc',vo',vc',hx⟩:=v1.cells
 rw [hx] at hrg v1
 exact ⟨hi,by have:=hz.2.2.2;unfold capT at this;omega,g,o,_,_,_,_,_,_,_,_,_,_,rfl,hrg,v1⟩
theorem lnV_kid {t u:Vt} (h:lnV t) {i:Nat} (hu:t.kids[i]? = some u):lnV u:=by
 cases t with
 | mk k b r t ks vs =>
  unfold lnV at h
  exact lnL_get h.2.2 hu
theorem KeysOn.len {S:Nat→Prop} {w:World} {ao:Option Addr} {ks:List ByteArray} (h:KeysOn S w ao ks) {i:Nat} {s:ByteArray} (hi:ks[i]? = some s):s.size≤9223372036854775807:=by
 have:=(h i s hi).1
 unfold capT at this
 omega
theorem same_setCells (w:World) (h:Nat) (L:List Value) {n:Nat} (hn:h<n):SameOn (fun c=>n≤c) w (w.setCells h 0 L):=by
 have hs:=below_setCells (Below.refl h w) (Nat.le_refl _) L 0
 refine ⟨hs.size,fun c hc hl=>?_⟩
 have hh:∀ (L:List Value) (o:Nat) (w:World),(w.setCells h o L).heap[c]? = w.heap[c]?:=by
  intro L
  induction L with
  | nil=>intro o w;rfl
  | cons x L ih =>
   intro o w
   exact (ih (o+1) (w.setCell ⟨h,o,none⟩ x)).trans (Below.heap_setCell w ⟨h,o,none⟩ x c (by show c≠h;omega))
 exact hh L 0 w
set_option maxRecDepth 10000 in
set_option maxHeartbeats 16000000 in
theorem find_calls (t0:Vt) (hln:lnV t0) (l:List UInt8) (hl:l.length≤4294967296) (va:Value) (w:World) (hT:TabU w) (ha:ValAt w t0 va) :
  Calls Tryz.prog 73 #[va,.string (mkL l)] w fun e w'=>FdQ (fdF t0 l) w e w':=by
 obtain ⟨k1,b1,r1,t1,ko1,N1,kc1,vo1,M1,vc1,rfl⟩:=ha.lets
 have hform:=hid (fun u (hb:Below w.heap.size w u)=>formedP_calls t0 _ u (hT.below hb) (ha.kept hb))
 have hpar:=hid (fun u=>parse20_calls l hl u)
 have hlen:=ptN_len l
 have hF:Hid (fdF t0 l=if wfV t0 1024=true then (if (ptrL l).isSome=true then (match ldV t0 ((ptN l).map mkL) with | some u=>(u,true,(0:Int)) | none=>(vt0,false,(0:Int))) else (vt0,false,(200:Int))) else (vt0,false,(1:Int))):=rfl
 have hE:Hid (ptE l=if (ptrL l).isSome=true then 0 else 200):=hid (by unfold ptE;rfl)
 have V0:=hid ha
 have hln':=hid hln
 have hLn:((ptN l).map mkL).length≤4294967296:=by rw [List.length_map];omega
 generalize (ptN l).map mkL=L at hpar hF hLn
 generalize ptE l=E at hpar hE
 generalize (ptrL l).isSome=P at hF hE
 generalize fdF t0 l=Fd at hF ⊢
 generalize mkL l=s at hpar ⊢
 generalize hWf:wfV t0 1024=Wf at hform hF
 have hWf':=hid hWf
 have A1:Hid (At (w.alloc (.cells #[.int .i64 k1,.bool b1,.string r1,.string t1,.slice ko1 N1 kc1,.slice vo1 M1 vc1] 59)) w.heap.size #[.int .i64 k1,.bool b1,.string r1,.string t1,.slice ko1 N1 kc1,.slice vo1 M1 vc1] 59):=At.new w _ _
 have B1:Hid (Below w.heap.size w (w.alloc (.cells #[.int .i64 k1,.bool b1,.string r1,.string t1,.slice ko1 N1 kc1,.slice vo1 M1 vc1] 59))):=(Below.refl _ w).alloc (Nat.le_refl _) _
 obtain ⟨W1,hW1⟩:∃ W,w.alloc (.cells #[.int .i64 k1,.bool b1,.string r1,.string t1,.slice ko1 N1 kc1,.slice vo1 M1 vc1] 59)=W:=⟨_,rfl⟩
 obtain ⟨W2,hW2⟩:∃ W,W1.alloc (.cells #[.int .i64 0,.bool false,.string ⟨#[]⟩,.string ⟨#[]⟩,.slice none 0 0,.slice none 0 0] 59)=W:=⟨_,rfl⟩
 rw [hW1] at A1 B1
 have hsz1:W1.heap.size=w.heap.size+1:=by rw [← hW1,World.size_alloc]
 have A2:Hid (At W2 w.heap.size #[.int .i64 k1,.bool b1,.string r1,.string t1,.slice ko1 N1 kc1,.slice vo1 M1 vc1] 59):=by rw [← hW2];exact A1.out.alloc _
 have Z2:Hid (At W2 (w.heap.size+1) #[.int .i64 0,.bool false,.string ⟨#[]⟩,.string ⟨#[]⟩,.slice none 0 0,.slice none 0 0] 59):=by
  have h:=At.new W1 #[.int .i64 0,.bool false,.string ⟨#[]⟩,.string ⟨#[]⟩,.slice none 0 0,.slice none 0 0] 59
  rw [hW2,hsz1] at h
  exact h
 have B2:Hid (Below w.heap.size w W2):=by
  rw [← hW2]
  exact B1.out.alloc (by rw [hsz1];omega) _
 have z2:Hid (w.heap.size+2≤W2.heap.size):=by rw [← hW2];show _≤_;rw [World.size_alloc,hsz1];omega
 clear A1 B1 hln ha hT hl hlen hWf
 go_enter Tryz.func73,Tryz.ntmps73
 go_wp2_with (first | refine wpList_load_want 59 _ w.heap.size 0 [.int .i64 k1,.bool b1,.string r1,.string t1,.slice ko1 N1 kc1,.slice vo1 M1 vc1] _ (A2.out.range rfl) Tryz.underlying59 sizeVl rfl rfl rfl (by rfl) ?_ | fail)
 refine Calls.mono (hform.out _ B2.out) ?_
 rintro e w3 ⟨rfl,b3⟩
 have A3:=hid (A2.out.keptAll b3)
 have Z3:=hid (Z2.out.keptAll b3)
 have B3:=hid (B2.out.trans (b3.mono B2.out.size))
 have z3:=hid (Nat.le_trans z2.out b3.size)
 clear b3 hW1 hW2 hsz1 A2 Z2 B2 z2 hform
 cases Wf with
 | false =>
  rw [if_neg (by decide)] at hF
  have d0:=Z3.out.cell 0
  have d1:=Z3.out.cell 1
  have d2:=Z3.out.cell 2
  have d3:=Z3.out.cell 3
  have d4:=Z3.out.cell 4
  have d5:=Z3.out.cell 5
  have f0:=Z3.out.frozen 0
  have f1:=Z3.out.frozen 1
  have f2:=Z3.out.frozen 2
  have f3:=Z3.out.frozen 3
  have f4:=Z3.out.frozen 4
  have f5:=Z3.out.frozen 5
  simp only [List.getElem?_toArray,List.getElem?_cons_zero,List.getElem?_cons_succ] at d0 d1 d2 d3 d4 d5
  go_wp2
  refine ret_val3 (p:=4) (u:=5) (v:=6) rfl ?_ Z3.out.six rfl ?_ ?_
  ·rfl
  ·rfl
  refine ⟨_,by rw [hF.out];rfl,?_,below_six B3.out (by omega) _ _ _ _ _ _⟩
  rw [hF.out]
  exact vt0_on _ _
 | true =>
  rw [if_pos rfl] at hF
  go_wp2_with fail
  refine Calls.mono (hpar.out _) ?_
  rintro e w4 ⟨v,rfl,k4,b4⟩
  obtain ⟨so,cap,rfl⟩:=k4.shape
  have A4:=hid (A3.out.keptAll b4)
  have Z4:=hid (Z3.out.keptAll b4)
  have B4:=hid (B3.out.trans (b4.mono B3.out.size))
  have K4:=hid ((k4.row.2).kept (S':=fun c=>w.heap.size+2≤c) (fun c _ hc=>Nat.le_trans z3.out hc) (SameOn.below (Below.refl _ _)))
  clear b4 A3 Z3 B3 k4 hpar
  cases P with
  | false =>
   rw [if_neg (by decide)] at hF hE
   obtain rfl:=hE.out
   have d0:=Z4.out.cell 0
   have d1:=Z4.out.cell 1
   have d2:=Z4.out.cell 2
   have d3:=Z4.out.cell 3
   have d4:=Z4.out.cell 4
   have d5:=Z4.out.cell 5
   have f0:=Z4.out.frozen 0
   have f1:=Z4.out.frozen 1
   have f2:=Z4.out.frozen 2
   have f3:=Z4.out.frozen 3
   have f4:=Z4.out.frozen 4
   have f5:=Z4.out.frozen 5
   simp only [List.getElem?_toArray,List.getElem?_cons_zero,List.getElem?_cons_succ] at d0 d1 d2 d3 d4 d5
   go_wp2
   refine ret_val3 (p:=4) (u:=5) (v:=6) rfl ?_ Z4.out.six rfl ?_ ?_
   ·rfl
   ·rfl
   refine ⟨_,by rw [hF.out];rfl,?_,below_six B4.out (by omega) _ _ _ _ _ _⟩
   rw [hF.out]
   exact vt0_on _ _
  | true =>
   rw [if_pos rfl] at hF hE
   obtain rfl:=hE.out
   obtain ⟨n,hn⟩:∃ n,Hid (L.length=n):=⟨_,rfl⟩
   rw [hn.out] at hLn ⊢
   have hni:(n:Int)≤4294967296:=by omega
   clear hE
   go_wp2
   go_loopw [28] (fun ii wr=>∃ (i:Nat) (tt:Vt) (k2:Int) (b2:Bool) (r2 t2:ByteArray) (ko2:Option Addr) (N2 kc2:Nat) (vo2:Option Addr) (M2 vc2:Nat),i≤n∧ii = .int .i64 (i:Int)∧Hid (At wr w.heap.size #[.int .i64 k2,.bool b2,.string r2,.string t2,.slice ko2 N2 kc2,.slice vo2 M2 vc2] 59)∧Hid (At wr (w.heap.size+1) #[.int .i64 0,.bool false,.string ⟨#[]⟩,.string ⟨#[]⟩,.slice none 0 0,.slice none 0 0] 59)∧Hid (ValAt w tt (.agg #[.int .i64 k2,.bool b2,.string r2,.string t2,.slice ko2 N2 kc2,.slice vo2 M2 vc2]))∧Hid (ldV t0 L=ldV tt (L.drop i))∧Hid (∃ d,wfV tt d=true)∧Hid (lnV tt)∧Hid (KeysOn (fun c=>w.heap.size+2≤c) wr so L)∧Hid (Below w.heap.size w wr)) (fun ii _=>n-(intOf ii).toNat)
   case atStart=>exact ⟨0,t0,k1,b1,r1,t1,ko1,N1,kc1,vo1,M1,vc1,Nat.zero_le _,rfl,A4,Z4,V0,hid rfl,hid ⟨_,hWf'.out⟩,hln',K4,B4⟩
   case round =>
    clear A4 Z4 B4 K4
    obtain ⟨i,tt,k2,b2,r2,t2,ko2,N2,kc2,vo2,M2,vc2,hin,rfl,hA,hZ,hV,hld,hwf,hlt',hK,hB⟩:=hrel
    by_cases hi:i<n
    ·have hii:(i:Int)<(n:Int):=by omega
     obtain ⟨nm,hnm⟩:∃ s,L[i]? = some s:=⟨_,List.getElem?_eq_getElem (by rw [hn.out];exact hi)⟩
     have hnl:=hK.out.len hnm
     obtain ⟨-,g,o,rfl,hg1,hg2,cg⟩:=hK.out i nm hnm
     have hdr:=hid (drop_key hnm)
     have cst:=hid (step_calls tt nm hnl _ wr (hV.out.kept hB.out))
     clear hnm hnl
     go_wp2_with (first | refine wpList_load_want 59 _ w.heap.size 0 [.int .i64 k2,.bool b2,.string r2,.string t2,.slice ko2 N2 kc2,.slice vo2 M2 vc2] _ (hA.out.range rfl) Tryz.underlying59 sizeVl rfl rfl rfl (by rfl) ?_ | fail)
     refine Calls.mono cst.out ?_
     rintro e w5 ⟨jj,Bs,rfl,hst,b5⟩
     have A5:=hid (hA.out.keptAll b5)
     have Z5:=hid (hZ.out.keptAll b5)
     have B5:=hid (hB.out.trans (b5.mono hB.out.size))
     have K5:=hid (hK.out.kept (S':=fun c=>w.heap.size+2≤c) (fun _ _ h=>h) (SameOn.below b5))
     clear b5 cst hA hZ hB hK cg hg1 hg2
     rcases hst with ⟨rfl,j,rfl,hst⟩ | ⟨rfl,hst⟩
     ·obtain ⟨d,hwfd⟩:=hwf.out
      obtain ⟨u,hu,hwu⟩:=wf_step hwfd hst
      obtain ⟨hjM,hMi,g2,o2,k3,b3,r3,t3,ko3,N3,kc3,vo3,M3,vc3,rfl,hrg,V3⟩:=hV.out.kid _ _ _ _ _ _ _ _ _ _ hu
      have hld3:=hid (show ldV t0 L=ldV u (L.drop (i+1)) by rw [hld.out,hdr.out,ldV_yes hst hu])
      have hwf3:Hid (∃ d,wfV u d=true):=hid ⟨_,hwu⟩
      have hln3:=hid (lnV_kid hlt'.out hu)
      have V3':=hid V3
      have hrg5:=hid (range_kept hrg B5.out)
      have hjMi:(j:Int)<(M2:Int):=by omega
      clear hV hld hwf hlt' hwfd hu hwu hst hrg V3 hdr d
      have d5:w5.cell? ⟨w.heap.size,5,none⟩=some (.slice (some ⟨g2,o2,none⟩) M2 vc2):=A5.out.cell 5
      have A6:=hid (A5.out.setCells [.int .i64 k3,.bool b3,.string r3,.string t3,.slice ko3 N3 kc3,.slice vo3 M3 vc3] rfl)
      have Z6:=hid (Z5.out.setCells_other (b':=w.heap.size) (by omega) [.int .i64 k3,.bool b3,.string r3,.string t3,.slice ko3 N3 kc3,.slice vo3 M3 vc3] 0)
      have B6:=hid (below_setCells B5.out (Nat.le_refl _) [.int .i64 k3,.bool b3,.string r3,.string t3,.slice ko3 N3 kc3,.slice vo3 M3 vc3] 0)
      have K6:=hid (K5.out.kept (S':=fun c=>w.heap.size+2≤c) (fun _ _ h=>h) (same_setCells w5 w.heap.size [.int .i64 k3,.bool b3,.string r3,.string t3,.slice ko3 N3 kc3,.slice vo3 M3 vc3] (by omega)))
      generalize hW6:w5.setCells w.heap.size 0 [.int .i64 k3,.bool b3,.string r3,.string t3,.slice ko3 N3 kc3,.slice vo3 M3 vc3]=W6 at A6 Z6 B6 K6
      go_wp2_with (first | (refine wpList_load_want 59 _ g2 (o2+j*6) [.int .i64 k3,.bool b3,.string r3,.string t3,.slice ko3 N3 kc3,.slice vo3 M3 vc3] _ hrg5.out Tryz.underlying59 sizeVl rfl rfl rfl (by rfl) ?_;simp only [psA];refine wpList_store_want 59 _ _ w.heap.size 0 (List.toArray [.int .i64 k3,.bool b3,.string r3,.string t3,.slice ko3 N3 kc3,.slice vo3 M3 vc3]) (A5.out.there 6 rfl) sizeVl (by simp [Value.oneCell']) rfl rfl (by rfl) (by rfl) ?_;rw [List.toList_toArray,hW6];simp only [Act.put]) | fail)
      go_roundw
      case rel=>exact ⟨i+1,u,k3,b3,r3,t3,ko3,N3,kc3,vo3,M3,vc3,by omega,by simp,A6,Z6,V3',hld3,hwf3,hln3,K6,B6⟩
      case measure=>simp [intOf];omega
     ·have hnone:Hid (ldV t0 L=none):=hid (by rw [hld.out,hdr.out,ldV_no hst])
      clear hV hld hwf hlt' hst hdr
      have d0:=Z5.out.cell 0
      have d1:=Z5.out.cell 1
      have d2:=Z5.out.cell 2
      have d3:=Z5.out.cell 3
      have d4:=Z5.out.cell 4
      have d5:=Z5.out.cell 5
      have f0:=Z5.out.frozen 0
      have f1:=Z5.out.frozen 1
      have f2:=Z5.out.frozen 2
      have f3:=Z5.out.frozen 3
      have f4:=Z5.out.frozen 4
      have f5:=Z5.out.frozen 5
      simp only [List.getElem?_toArray,List.getElem?_cons_zero,List.getElem?_cons_succ] at d0 d1 d2 d3 d4 d5
      rw [hnone.out] at hF
      go_wp2
      refine ret_val3 (p:=4) (u:=5) (v:=6) rfl ?_ Z5.out.six rfl ?_ ?_
      ·rfl
      ·rfl
      refine ⟨_,by rw [hF.out];rfl,?_,below_six B5.out (by omega) _ _ _ _ _ _⟩
      rw [hF.out]
      exact vt0_on _ _
    ·obtain rfl:i=n:=by omega
     have hdn:L.drop i=[]:=List.drop_eq_nil_of_le (by rw [hn.out];exact Nat.le_refl _)
     rw [hdn,ldV_nil] at hld
     rw [hld.out] at hF
     have hcp:=hid (copied20_ex _ tt (Nat.le_refl _) hlt'.out _ wr (hV.out.kept hB.out))
     go_wp2_with (first | refine wpList_load_want 59 _ w.heap.size 0 [.int .i64 k2,.bool b2,.string r2,.string t2,.slice ko2 N2 kc2,.slice vo2 M2 vc2] _ (hA.out.range rfl) Tryz.underlying59 sizeVl rfl rfl rfl (by rfl) ?_ | fail)
     refine Calls.mono hcp.out ?_
     rintro e w5 ⟨x,rfl,hx5,b5⟩
     obtain ⟨k3,b3,r3,t3,ko3,N3,kc3,vo3,M3,vc3,rfl⟩:=hx5.at.lets
     have hX:=hid hx5
     have Z5:=hid (hZ.out.keptAll b5)
     have B5:=hid (hB.out.trans (b5.mono hB.out.size))
     have zlt:=hid hZ.out.lt
     clear hx5 b5 hcp hA hZ hB hK hV hld hwf hlt' hdn
     have d0:=Z5.out.cell 0
     have d1:=Z5.out.cell 1
     have d2:=Z5.out.cell 2
     have d3:=Z5.out.cell 3
     have d4:=Z5.out.cell 4
     have d5:=Z5.out.cell 5
     have f0:=Z5.out.frozen 0
     have f1:=Z5.out.frozen 1
     have f2:=Z5.out.frozen 2
     have f3:=Z5.out.frozen 3
     have f4:=Z5.out.frozen 4
     have f5:=Z5.out.frozen 5
     simp only [List.getElem?_toArray,List.getElem?_cons_zero,List.getElem?_cons_succ] at d0 d1 d2 d3 d4 d5
     go_wp2
     refine ret_val3 (p:=4) (u:=5) (v:=6) rfl ?_ Z5.out.six rfl ?_ ?_
     ·rfl
     ·rfl
     refine ⟨_,by rw [hF.out];rfl,?_,below_six B5.out (by omega) _ _ _ _ _ _⟩
     rw [hF.out]
     have hz4:=zlt.out
     exact hX.out.kept (fun b _ h=>by omega) ⟨same_six.1,fun b hb hl=>same_six.2 b (by omega) hl⟩
end Go.Proofs.YtongedjlmohogaaGreatDoor

/- Places ordered by names: the order of texts,rows that rise,and how two are put together (mathematics alone). -/
namespace Go.Proofs.YtongedjlmohogaaGreatDoor
open Go.RowKit Go.Shelf
def ltS (a b:ByteArray):Bool:=Op.bytesLess a.toList b.toList
theorem bl_irrefl:∀ (x:List UInt8),Op.bytesLess x x=false
 | []=>by simp [Op.bytesLess]
 | a :: x=>by simp [Op.bytesLess,bl_irrefl x]
theorem bl_trans:∀ (x y z:List UInt8),Op.bytesLess x y=true→Op.bytesLess y z=true→Op.bytesLess x z=true
 | x,y,[],_,h=>by cases y <;> simp [Op.bytesLess] at h
 | [],y,c :: z,_,_=>by simp [Op.bytesLess]
 | a :: x,[],c :: z,h,_=>by simp [Op.bytesLess] at h
 | a :: x,b :: y,c :: z,h1,h2=>by
  simp only [Op.bytesLess,Bool.or_eq_true,Bool.and_eq_true,decide_eq_true_eq,beq_iff_eq] at h1 h2 ⊢
  rcases h1 with h1 | ⟨rfl,h1⟩ <;> rcases h2 with h2 | ⟨rfl,h2⟩
  ·exact .inl (UInt8.lt_trans h1 h2)
  ·exact .inl h1
  ·exact .inl h2
  ·exact .inr ⟨rfl,bl_trans x y z h1 h2⟩
def keyA (L:List ByteArray) (i:Nat):ByteArray:=L.getD i ByteArray.empty
theorem keyA_get {L:List ByteArray} {i:Nat} {k:ByteArray} (h:L[i]? = some k):keyA L i=k:=by unfold keyA;rw [List.getD_eq_getElem?_getD,h];rfl
def ltK (L:List ByteArray) (a b:Nat):Prop:=ltS (keyA L a) (keyA L b)=true∨(keyA L a=keyA L b∧a<b)
theorem ltK_irrefl (L:List ByteArray) (a:Nat):¬ ltK L a a:=fun h=>by
 rcases h with h | ⟨-,h⟩
 ·unfold ltS at h;rw [bl_irrefl] at h;cases h
 ·omega
theorem ltK_trans {L:List ByteArray} {a b c:Nat} (h1:ltK L a b) (h2:ltK L b c):ltK L a c:=by
 rcases h1 with h1 | ⟨e1,h1⟩ <;> rcases h2 with h2 | ⟨e2,h2⟩
 ·exact .inl (bl_trans _ _ _ h1 h2)
 ·exact .inl (by rw [← e2];exact h1)
 ·exact .inl (by rw [e1];exact h2)
 ·exact .inr ⟨e1.trans e2,by omega⟩
def Ris (L:List ByteArray) (P:List Nat):Prop:=P.Pairwise (ltK L)
structure Mrg (L:List ByteArray) (A B P:List Nat) (i k:Nat):Prop where
 ris:Ris L P
 low:∀ p ∈ P,(∀ a ∈ A.drop i,ltK L p a)∧∀ b ∈ B.drop k,ltK L p b
 mem:∀ p ∈ P,p ∈ A∨p ∈ B
 len:P.length=i+k
theorem Mrg.take {L:List ByteArray} {A B P:List Nat} {i k a:Nat} (h:Mrg L A B P i k) (hA:Ris L A) (hB:Ris L B) (ha:A[i]? = some a) (hb:∀ b,B[k]? = some b→ltK L a b):Mrg L A B (P++[a]) (i+1) k:=by
 have hd:=drop_some ha
 have hpa:∀ p ∈ P,ltK L p a:=fun p hp=>(h.low p hp).1 a (by rw [hd];exact List.mem_cons_self)
 refine ⟨?_,?_,?_,by rw [List.length_append,h.len];simp;omega⟩
 ·unfold Ris
  rw [List.pairwise_append]
  refine ⟨h.ris,List.pairwise_singleton _ _,fun x hx y hy=>?_⟩
  simp at hy
  subst hy
  exact hpa x hx
 ·intro p hp
  rw [List.mem_append] at hp
  rcases hp with hp | hp
  ·obtain ⟨l1,l2⟩:=h.low p hp
   exact ⟨fun x hx=>l1 x (by rw [hd];exact List.mem_cons_of_mem _ hx),l2⟩
  ·simp at hp
   subst hp
   refine ⟨fun x hx=>?_,fun x hx=>?_⟩
   ·have hA2:Ris L (A.drop i):=List.Pairwise.sublist (List.drop_sublist i A) hA
    rw [hd] at hA2
    exact (List.pairwise_cons.mp hA2).1 x hx
   ·cases hk:B[k]? with
    | none =>
     rw [List.drop_of_length_le (List.getElem?_eq_none_iff.mp hk)] at hx
     simp at hx
    | some b =>
     have hd2:=drop_some hk
     have hB2:Ris L (B.drop k):=List.Pairwise.sublist (List.drop_sublist k B) hB
     rw [hd2] at hx hB2
     rcases List.mem_cons.mp hx with e | hx
     ·rw [e];exact hb b hk
     ·exact ltK_trans (hb b hk) ((List.pairwise_cons.mp hB2).1 x hx)
 ·intro p hp
  rw [List.mem_append] at hp
  rcases hp with hp | hp
  ·exact h.mem p hp
  ·simp at hp
   subst hp
   exact .inl (List.mem_of_getElem? ha)
def blk (O:List Nat) (f wd:Nat):List Nat:=(O.drop f).take wd
structure Blk (L:List ByteArray) (O:List Nat) (f wd:Nat):Prop where
 ris:Ris L (blk O f wd)
 rng:∀ x ∈ blk O f wd,f≤x∧x<f+wd∧x<L.length
def Runs (L:List ByteArray) (wd:Nat) (O:List Nat):Prop:=O.length=L.length∧∀ m,Blk L O (m*wd) wd
def Half (L:List ByteArray) (wd m:Nat) (Q:List Nat):Prop:=Q.length=min (m*(2*wd)) L.length∧∀ j,j<m→Blk L Q (j*(2*wd)) (2*wd)
theorem blk_len (O:List Nat) (f wd:Nat):(blk O f wd).length=min wd (O.length-f):=by unfold blk;rw [List.length_take,List.length_drop]
theorem Half.next {L:List ByteArray} {wd m:Nat} {Q O P:List Nat} (hw:0<wd) (h:Half L wd m Q) (hf:m*(2*wd)<L.length) (hO:Runs L wd O)
  (hM:Mrg L (blk O (m*(2*wd)) wd) (blk O (m*(2*wd)+wd) wd) P (blk O (m*(2*wd)) wd).length (blk O (m*(2*wd)+wd) wd).length):Half L wd (m+1) (Q++P):=by
 obtain ⟨h1,h2⟩:=h
 obtain ⟨o1,o2⟩:=hO
 have e1:m*(2*wd)=2*m*wd:=by rw [Nat.mul_comm 2 m,Nat.mul_assoc]
 have e2:m*(2*wd)+wd=(2*m+1)*wd:=by rw [Nat.add_mul,← e1];omega
 have e3:(m+1)*(2*wd)=m*(2*wd)+2*wd:=by rw [Nat.add_mul];omega
 have hA:=o2 (2*m)
 have hB:=o2 (2*m+1)
 rw [← e1] at hA
 rw [← e2] at hB
 have hl:=hM.len
 rw [blk_len,blk_len,o1] at hl
 have hQ:Q.length=m*(2*wd):=by rw [h1];omega
 refine ⟨by rw [List.length_append,hQ,hl,e3];omega,fun j hj=>?_⟩
 by_cases hjm:j<m
 ·have hle:j*(2*wd)+2*wd≤m*(2*wd):=by
   have:(j+1)*(2*wd)≤m*(2*wd):=Nat.mul_le_mul_right _ hjm
   rw [Nat.add_mul] at this
   omega
  have e:blk (Q++P) (j*(2*wd)) (2*wd)=blk Q (j*(2*wd)) (2*wd):=by
   unfold blk
   rw [List.drop_append_of_le_length (by omega),List.take_append_of_le_length (by rw [List.length_drop];omega)]
  obtain ⟨r1,r2⟩:=h2 j hjm
  exact ⟨by rw [e];exact r1,by rw [e];exact r2⟩
 ·obtain rfl:j=m:=by omega
  have e:blk (Q++P) (j*(2*wd)) (2*wd)=P:=by
   unfold blk
   rw [List.drop_append,List.drop_of_length_le (by omega),List.nil_append,hQ,Nat.sub_self,List.drop_zero,List.take_of_length_le (by rw [hl];omega)]
  refine ⟨by rw [e];exact hM.ris,fun x hx=>?_⟩
  rw [e] at hx
  rcases hM.mem x hx with hx | hx
  ·have:=hA.rng x hx;omega
  ·have:=hB.rng x hx;omega
theorem Half.done {L:List ByteArray} {wd m:Nat} {Q:List Nat} (h:Half L wd m Q) (hf:L.length≤m*(2*wd)):Runs L (2*wd) Q:=by
 obtain ⟨h1,h2⟩:=h
 refine ⟨by rw [h1];omega,fun j=>?_⟩
 by_cases hj:j<m
 ·exact h2 j hj
 ·have hle:m*(2*wd)≤j*(2*wd):=Nat.mul_le_mul_right _ (by omega)
  have e:blk Q (j*(2*wd)) (2*wd)=[]:=by
   unfold blk
   rw [List.drop_of_length_le (by rw [h1];omega)]
   simp
  exact ⟨by rw [e];exact List.Pairwise.nil,by rw [e];intro x hx;simp at hx⟩
structure IsOrd (L:List ByteArray) (O:List Nat):Prop where
 len:O.length=L.length
 ris:Ris L O
 rng:∀ x ∈ O,x<L.length
theorem Runs.done {L:List ByteArray} {wd:Nat} {O:List Nat} (h:Runs L wd O) (hw:L.length≤wd):IsOrd L O:=by
 obtain ⟨h1,h2⟩:=h
 have hb:=h2 0
 have e:blk O (0*wd) wd=O:=by
  unfold blk
  rw [Nat.zero_mul,List.drop_zero,List.take_of_length_le (by omega)]
 exact ⟨h1,by have:=hb.ris;rwa [e] at this,fun x hx=>(hb.rng x (by rw [e];exact hx)).2.2⟩
theorem nodup_le:∀ (n:Nat) (l:List Nat),l.Nodup→(∀ x ∈ l,x<n)→l.length≤n
 | 0,l,_,h=>by
  cases l with
  | nil=>simp
  | cons a l=>exact absurd (h a List.mem_cons_self) (by omega)
 | n+1,l,hn,h=>by
  have h1:=nodup_le n (l.erase n) (hn.erase n) (fun x hx=>by
   have hx1:=(hn.mem_erase_iff).mp hx
   have:=h x hx1.2
   omega)
  have h2:l.length≤(l.erase n).length+1:=by
   by_cases hm:n ∈ l
   ·rw [List.length_erase_of_mem hm];omega
   ·rw [List.erase_of_not_mem hm];omega
  omega
theorem IsOrd.nodup {L:List ByteArray} {O:List Nat} (h:IsOrd L O):O.Nodup:=List.Pairwise.imp (fun {a b} hab e=>by subst e;exact ltK_irrefl L a hab) h.ris
theorem IsOrd.all {L:List ByteArray} {O:List Nat} (h:IsOrd L O) {i:Nat} (hi:i<L.length):∃ j:Nat,O[j]? = some i:=by
 by_cases hm:i ∈ O
 ·exact List.getElem?_of_mem hm
 ·exfalso
  have:=nodup_le L.length (i :: O) (List.nodup_cons.mpr ⟨hm,h.nodup⟩) (fun x hx=>by
   rcases List.mem_cons.mp hx with e | hx
   ·omega
   ·exact h.rng x hx)
  rw [List.length_cons,h.len] at this
  omega
theorem IsOrd.lt {L:List ByteArray} {O:List Nat} (h:IsOrd L O) {i j a b:Nat} (hi:O[i]? = some a) (hj:O[j]? = some b) (hij:i<j):ltK L a b:=by
 obtain ⟨h1,e1⟩:=List.getElem?_eq_some_iff.mp hi
 obtain ⟨h2,e2⟩:=List.getElem?_eq_some_iff.mp hj
 have:=List.pairwise_iff_getElem.mp h.ris i j h1 h2 hij
 rwa [e1,e2] at this
end Go.Proofs.YtongedjlmohogaaGreatDoor
/- quarryref17.Ordered: the places of names,in order. -/
namespace Go.Proofs.YtongedjlmohogaaGreatDoor
open Go.RowKit Go.Shelf
end Go.Proofs.YtongedjlmohogaaGreatDoor
/- quarryref17.Place: the first place of a name,by the places in order. -/
namespace Go.Proofs.YtongedjlmohogaaGreatDoor
open Go.RowKit Go.Shelf
theorem ltK_less {L:List ByteArray} {a b:Nat} {nm:ByteArray} (h:ltK L a b) (hb:ltS (keyA L b) nm=true):ltS (keyA L a) nm=true:=by
 rcases h with h | ⟨h,-⟩
 ·exact bl_trans _ _ _ h hb
 ·rw [h];exact hb
theorem ltK_more {L:List ByteArray} {a b:Nat} {nm:ByteArray} (h:ltK L a b) (ha:ltS (keyA L a) nm=false):ltS (keyA L b) nm=false:=by
 cases hb:ltS (keyA L b) nm with
 | false=>rfl
 | true=>rw [ltK_less h hb] at ha;cases ha
structure Bin (L:List ByteArray) (O:List Nat) (nm:ByteArray) (lo hi:Nat):Prop where
 le:lo≤hi
 lt:∀ j a:Nat,j<lo→O[j]? = some a→ltS (keyA L a) nm=true
 ge:∀ j a:Nat,hi≤j→O[j]? = some a→ltS (keyA L a) nm=false
theorem Bin.up {L:List ByteArray} {O:List Nat} {nm:ByteArray} {lo hi md a:Nat} (h:Bin L O nm lo hi) (hO:IsOrd L O) (h2:md<hi) (ha:O[md]? = some a) (hl:ltS (keyA L a) nm=true):Bin L O nm (md+1) hi :=
 ⟨by omega,fun j b hj hb=>by
  by_cases e:j=md
  ·subst e;rw [ha] at hb;injection hb with hb;subst hb;exact hl
  ·exact ltK_less (hO.lt hb ha (by omega)) hl,h.ge⟩
theorem Bin.down {L:List ByteArray} {O:List Nat} {nm:ByteArray} {lo hi md a:Nat} (h:Bin L O nm lo hi) (hO:IsOrd L O) (h1:lo≤md) (ha:O[md]? = some a) (hl:ltS (keyA L a) nm=false):Bin L O nm lo md :=
 ⟨h1,h.lt,fun j b hj hb=>by
  by_cases e:j=md
  ·subst e;rw [ha] at hb;injection hb with hb;subst hb;exact hl
  ·exact ltK_more (hO.lt ha hb (by omega)) hl⟩
theorem Bin.none {L:List ByteArray} {O:List Nat} {nm:ByteArray} {lo:Nat} (h:Bin L O nm lo lo) (hO:IsOrd L O) (hn:∀ a,O[lo]? = some a→keyA L a≠nm):IsFst L nm (-1):=by
 refine .inl ⟨rfl,fun j hj=>?_⟩
 have hjl:=(List.getElem?_eq_some_iff.mp hj).1
 obtain ⟨p,hp⟩:=hO.all hjl
 have hk:=keyA_get hj
 have hirr:ltS nm nm=false:=bl_irrefl _
 rcases Nat.lt_trichotomy p lo with e | e | e
 ·have:=h.lt p j e hp
  rw [hk,hirr] at this
  cases this
 ·subst e
  exact hn j hp hk
 ·have hlo:lo<O.length:=by have:=(List.getElem?_eq_some_iff.mp hp).1;omega
  obtain ⟨a,ha⟩:∃ a,O[lo]? = some a:=⟨_,List.getElem?_eq_getElem hlo⟩
  have h1:=h.ge lo a (Nat.le_refl _) ha
  rcases hO.lt ha hp e with g | ⟨g,-⟩
  ·rw [hk] at g
   rw [g] at h1
   cases h1
  ·exact hn a ha (by rw [g,hk])
theorem Bin.some {L:List ByteArray} {O:List Nat} {nm:ByteArray} {lo a:Nat} (h:Bin L O nm lo lo) (hO:IsOrd L O) (ha:O[lo]? = Option.some a) (hk:keyA L a=nm):IsFst L nm (a:Int):=by
 have hal:=hO.rng a (List.mem_of_getElem? ha)
 refine .inr ⟨a,rfl,?_,fun j hj hjn=>?_⟩
 ·have:L[a]? = Option.some (L[a]):=List.getElem?_eq_getElem hal
  rw [this,← keyA_get this,hk]
 ·have hjl:=(List.getElem?_eq_some_iff.mp hjn).1
  obtain ⟨p,hp⟩:=hO.all hjl
  have hkj:=keyA_get hjn
  have hirr:ltS nm nm=false:=bl_irrefl _
  rcases Nat.lt_trichotomy p lo with e | e | e
  ·have:=h.lt p j e hp
   rw [hkj,hirr] at this
   cases this
  ·subst e
   rw [ha] at hp
   injection hp with hp
   omega
  ·rcases hO.lt ha hp e with g | ⟨-,g⟩
   ·rw [hk,hkj,hirr] at g
    cases g
   ·omega
def OrdAt (w:World) (oo:Option Addr) (O:List Nat):Prop:=∀ t p:Nat,O[t]? = some p→∃ g,oo=some ⟨g,0,none⟩∧g<w.heap.size∧w.cell? ⟨g,t,none⟩=some (.int .i64 (p:Int))
theorem OrdAt.kept {w w':World} {oo:Option Addr} {O:List Nat} (h:OrdAt w oo O) (hb:Below w.heap.size w w'):OrdAt w' oo O:=fun t p ht=>by
 obtain ⟨g,h1,h2,h3⟩:=h t p ht
 exact ⟨g,h1,by have:=hb.size;omega,(hb.cell (p:=⟨g,t,none⟩) h2).trans h3⟩
end Go.Proofs.YtongedjlmohogaaGreatDoor
/- quarryref17.has: does one object have all names of another? -/
namespace Go.Proofs.YtongedjlmohogaaGreatDoor
open Go.RowKit Go.Shelf
end Go.Proofs.YtongedjlmohogaaGreatDoor

namespace Go.Proofs.YtongedjlmohogaaGreatDoor
open Go.RowKit Go.Shelf
def TwoD (w:World) (n:Bool) (t:ByteArray) (x:Int) (n':Bool) (t':ByteArray) (x':Int) (w':World):Prop :=
 At w' w.heap.size #[.bool n,.string t,.int .i64 x] 170∧At w' (w.heap.size+1) #[.bool n',.string t',.int .i64 x'] 170∧Below w.heap.size w w'
theorem TwoD.new (w:World) (n:Bool) (t:ByteArray) (x:Int) (n':Bool) (t':ByteArray) (x':Int):TwoD w n t x n' t' x' ((w.alloc (.cells #[.bool n,.string t,.int .i64 x] 170)).alloc (.cells #[.bool n',.string t',.int .i64 x'] 170)):=by
 refine ⟨(At.new w _ _).alloc _,?_,by exact bw⟩
 have:=At.new (w.alloc (.cells #[.bool n,.string t,.int .i64 x] 170)) #[.bool n',.string t',.int .i64 x'] 170
 simpa using this
section
variable {w:World} {n:Bool} {t:ByteArray} {x:Int} {n':Bool} {t':ByteArray} {x':Int} {u v:World}
theorem TwoD.drew (h:TwoD w n t x n' t' x' u):TwoD w n t x n' t' x' u.drew:=⟨h.1,h.2.1,h.2.2.drew⟩
theorem TwoD.kept (h:TwoD w n t x n' t' x' u) (hb:Below u.heap.size u v):TwoD w n t x n' t' x' v:=⟨h.1.keptAll hb,h.2.1.keptAll hb,h.2.2.trans (hb.mono h.2.2.size)⟩
theorem TwoD.one (h:TwoD w n t x n' t' x' u):At u w.heap.size #[.bool n,.string t,.int .i64 x] 170:=h.1
theorem TwoD.two (h:TwoD w n t x n' t' x' u):At u (w.heap.size+1) #[.bool n',.string t',.int .i64 x'] 170:=h.2.1
theorem TwoD.below (h:TwoD w n t x n' t' x' u):Below w.heap.size w u:=h.2.2
theorem TwoD.facts (h:TwoD w n t x n' t' x' u):u.cell? ⟨w.heap.size,0,none⟩=some (.bool n)∧u.cell? ⟨w.heap.size,1,none⟩=some (.string t)∧u.cell? ⟨w.heap.size,2,none⟩=some (.int .i64 x)∧u.cell? ⟨w.heap.size+1,0,none⟩=some (.bool n')∧u.cell? ⟨w.heap.size+1,1,none⟩=some (.string t')∧u.cell? ⟨w.heap.size+1,2,none⟩=some (.int .i64 x') :=
 ⟨h.1.cell 0,h.1.cell 1,h.1.cell 2,h.2.1.cell 0,h.2.1.cell 1,h.2.1.cell 2⟩
end
end Go.Proofs.YtongedjlmohogaaGreatDoor

namespace Go.Proofs.YtongedjlmohogaaGreatDoor
open Go.RowKit Go.Shelf
theorem wf_parts {k:Int} {b:Bool} {r t:ByteArray} {ks:List ByteArray} {vs:List Vt} {l:Int} (h:wfV (.mk k b r t ks vs) l=true):plainV (.mk k b r t ks vs)=true∧((k=5∨k=6)→l≠0)∧wfL vs (l-1)=true:=by
 unfold wfV at h
 rw [Bool.and_eq_true,Bool.and_eq_true] at h
 refine ⟨h.1,fun hk e=>?_,h.2.2⟩
 have:=h.2.1
 rw [decide_eq_true hk,decide_eq_true e] at this
 cases this
theorem wf_make {k:Int} {b:Bool} {r t:ByteArray} {ks:List ByteArray} {vs:List Vt} {l:Int} (h1:plainV (.mk k b r t ks vs)=true) (h2:(k=5∨k=6)→l≠0) (h3:wfL vs (l-1)=true):wfV (.mk k b r t ks vs) l=true:=by
 unfold wfV
 rw [Bool.and_eq_true,Bool.and_eq_true]
 refine ⟨h1,?_,h3⟩
 by_cases hk:k=5∨k=6
 ·rw [decide_eq_false (h2 hk),Bool.and_false]
  rfl
 ·rw [decide_eq_false hk]
  rfl
theorem plain_leaf {k:Int} {b:Bool} {r t:ByteArray} {ks:List ByteArray} {vs:List Vt} (h:plainV (.mk k b r t ks vs)=true) (hk:¬ (k=5∨k=6)):vs=[]:=by
 have h5:k≠5:=fun e=>hk (.inl e)
 have h6:k≠6:=fun e=>hk (.inr e)
 rw [plainV.eq_def] at h
 simp only [] at h
 by_cases h1:k=1
 ·simp [h1] at h;exact h.2.1
 ·by_cases h2:k=2
  ·simp [h2] at h;exact h.2.1
  ·by_cases h3:k=3
   ·simp [h3] at h;exact h.2.1
   ·by_cases h4:k=4
    ·simp [h4] at h;exact h.2.1
    ·simp [h1,h2,h3,h4,h5,h6] at h
mutual
theorem wf_up:∀ (t:Vt) (l m:Int),0≤l→l≤m→wfV t l=true→wfV t m=true
 | .mk k b r t ks vs,l,m,h0,hm,h=>by
  obtain ⟨h1,h2,h3⟩:=wf_parts h
  by_cases hk:k=5∨k=6
  ·have hl:=h2 hk
   exact wf_make h1 (fun _=>by omega) (wfL_up vs (l-1) (m-1) (by omega) (by omega) h3)
  ·have hv:=plain_leaf h1 hk
   refine wf_make h1 (fun e=>absurd e hk) ?_
   rw [hv]
   unfold wfL
   rfl
theorem wfL_up:∀ (vs:List Vt) (l m:Int),0≤l→l≤m→wfL vs l=true→wfL vs m=true
 | [],l,m,_,_,_=>by unfold wfL;rfl
 | v :: vs,l,m,h0,hm,h=>by
  unfold wfL at h ⊢
  rw [Bool.and_eq_true] at h ⊢
  exact ⟨wf_up v l m h0 hm h.1,wfL_up vs l m h0 hm h.2⟩
end
end Go.Proofs.YtongedjlmohogaaGreatDoor
