import Derived.Test.YtjcpamjeekfblaaGreatDoorPtF
namespace Go.Proofs.YtjcpamjeekfblaaGreatDoor
open Go.RowKit Go.Shelf
theorem mnAll_none:∀ {L:List (List UInt8)} {x:List UInt8},x ∈ L→mnL x=none→mnAll L=none
 | [],x,h,_=>by simp at h
 | a :: L,x,h,hx=>by
  rw [mnAll]
  simp at h
  rcases h with rfl | h
  ·rw [hx]
  ·rw [mnAll_none h hx]
   cases mnL a <;> rfl
theorem mnAll_snoc:∀ (L:List (List UInt8)) (x:List UInt8) {dn:List (List UInt8)} {y:List UInt8},mnAll L=some dn→mnL x=some y→mnAll (L++[x])=some (dn++[y])
 | [],x,dn,y,h,hy=>by
  cases h
  simp [mnAll,hy]
 | a :: L,x,dn,y,h,hy=>by
  rw [mnAll] at h
  cases ha:mnL a with
  | none=>rw [ha] at h;simp at h
  | some b =>
   cases hL:mnAll L with
   | none=>rw [ha,hL] at h;simp at h
   | some c =>
    rw [ha,hL] at h
    cases h
    rw [List.cons_append,mnAll,ha,mnAll_snoc L x hL hy]
    rfl
def ptN (l:List UInt8):List (List UInt8):=(ptrL l).getD []
def ptE (l:List UInt8):Int:=if (ptrL l).isSome then 0 else 200
theorem KeysG.stored {B:Nat} {W:World} {g n cap:Nat} {ks:List ByteArray} (h:KeysG B W (.slice (some ⟨g,0,none⟩) n cap) ks) (i:Nat) (u:ByteArray) (hu:u.size≤capT):KeysG B (W.setCell ⟨g,i,none⟩ (.string u)) (.slice (some ⟨g,0,none⟩) n cap) (ks.set i u)∧W.grownBy (W.setCell ⟨g,i,none⟩ (.string u)) (some g):=by
 obtain ⟨h1,h2⟩:=h
 obtain ⟨so,c,e⟩:=own_shape h1
 cases e
 obtain ⟨a,b⟩:=h1.stored i (.string u)
 refine ⟨⟨?_,fun j s hj=>?_⟩,b⟩
 ·rw [List.length_set,List.map_set]
  exact a
 ·by_cases e:i=j
  ·subst e
   have hl:=(List.getElem?_eq_some_iff.1 hj).1
   rw [List.length_set] at hl
   rw [List.getElem?_set_self hl] at hj
   cases hj
   exact hu
  ·rw [List.getElem?_set_ne e] at hj
   exact h2 j s hj
theorem KeysG.cell {B:Nat} {W:World} {g n cap:Nat} {ks:List ByteArray} (h:KeysG B W (.slice (some ⟨g,0,none⟩) n cap) ks) {i:Nat} {u:ByteArray} (hi:ks[i]? = some u):W.cell? ⟨g,i,none⟩=some (.string u)∧W.frozen? ⟨g,i,none⟩=false:=by
 obtain ⟨h1,h2⟩:=h
 obtain ⟨so,c,e⟩:=own_shape h1
 cases e
 have hl:=(List.getElem?_eq_some_iff.1 hi).1
 refine ⟨?_,h1.frozenAt i⟩
 rw [h1.cellAt i (by omega),List.getElem?_map,hi]
 rfl
theorem mnL_len:∀ (n:Nat) (a x:List UInt8),a.length≤n→mnL a=some x→x.length≤a.length:=by
 intro n
 induction n with
 | zero =>
  intro a x hl h
  obtain rfl:a=[]:=List.length_eq_zero_iff.1 (by omega)
  cases h
  exact Nat.le_refl _
 | succ n ih =>
  intro a x hl h
  cases a with
  | nil=>cases h;exact Nat.le_refl _
  | cons c t =>
   simp only [List.length_cons] at hl
   by_cases hc:c=126
   ·subst hc
    cases t with
    | nil=>rw [mnL_none] at h;cases h
    | cons d t =>
     simp only [List.length_cons] at hl
     rw [mnL_til] at h
     cases hm:mnL t with
     | none=>rw [hm] at h;split at h <;> (try split at h) <;> simp at h
     | some y =>
      have:=ih t y (by omega) hm
      rw [hm] at h
      split at h
      ·cases h;simp;omega
      ·split at h
       ·cases h;simp;omega
       ·cases h
   ·rw [mnL_plain hc] at h
    cases hm:mnL t with
    | none=>rw [hm] at h;cases h
    | some y =>
     have:=ih t y (by omega) hm
     rw [hm] at h
     cases h
     simp;omega
theorem cuL_each:∀ (l:List UInt8),∀ a ∈ cuL l,a.length≤l.length
 | [],a,h=>by simp [cuL] at h;rw [h];exact Nat.le_refl _
 | c :: t,a,h=>by
  obtain ⟨x,r,hx⟩:=cuL_ne t
  by_cases hc:c=47
  ·subst hc
   rw [cuL_sl] at h
   simp at h
   rcases h with rfl | h
   ·simp
   ·have:=cuL_each t a h;simp;omega
  ·rw [cuL_on hc hx] at h
   simp at h
   rcases h with rfl | h
   ·have:=cuL_each t x (by rw [hx];simp);simp;omega
   ·have:=cuL_each t a (by rw [hx];simp [h]);simp;omega
theorem cuL_count:∀ (l:List UInt8),(cuL l).length≤l.length+1
 | []=>by simp [cuL]
 | c :: t=>by
  obtain ⟨x,r,hx⟩:=cuL_ne t
  have h:=cuL_count t
  by_cases hc:c=47
  ·subst hc
   rw [cuL_sl]
   simp;omega
  ·rw [cuL_on hc hx]
   rw [hx] at h
   simp at h ⊢
   omega
set_option maxRecDepth 10000 in
set_option maxHeartbeats 4000000 in
theorem parse20_calls (l:List UInt8) (hl:l.length≤4294967296) (w:World):Calls Tryz.prog 91 #[.string (mkL l)] w fun e w'=>∃ v,e = .returned (.tuple #[v,.int .i64 (ptE l)])∧KeysG w.heap.size w' v ((ptN l).map mkL)∧Below w.heap.size w w':=by
 cases l with
 | nil =>
  show Calls Tryz.prog 91 #[.string ByteArray.empty] w _
  go_enter Tryz.func91,Tryz.ntmps91
  go_wp2
  go_ret2
  exact ⟨_,rfl,KeysG.nil _ _,Below.refl _ _⟩
 | cons d t =>
  have hne:((mkL (d :: t)).toList == [])=false:=by
   rw [eq_const,data_mkL]
   exact decide_eq_false (by simp)
  have h0:0<(mkL (d :: t)).size:=by rw [mkL_size];simp
  have hd:((mkL (d :: t))[0]'h0).toNat=d.toNat:=by
   rw [← lk_at _ 0 h0]
   exact lk_mkL (d :: t) 0 d rfl
  by_cases hd47:d=47
  ·have hp:=hid (show ptrL (d :: t)=mnAll (cuL t) by rw [ptrL,if_pos hd47])
   obtain ⟨P,hP⟩:∃ P,Hid (ptrL (d :: t)=P):=⟨_,rfl⟩
   have hN:=hid (show ptN (d :: t)=P.getD [] by unfold ptN;rw [hP.out])
   have hE:=hid (show ptE (d :: t)=if P.isSome then 0 else 200 by unfold ptE;rw [hP.out])
   rw [hP.out] at hp
   have hd2:(((mkL (d :: t))[0]'h0).toNat:Int)=47:=by rw [hd,hd47];rfl
   have e1:(mkL (d :: t)).extract 1 (mkL (d :: t)).size=mkL t:=by
    rw [mkL_ext,mkL_size]
    congr 1
    simp
   have hlt:t.length≤4294967295:=by simp at hl;omega
   have cc:=hid (fun u:World=>cut_calls t (by omega) u)
   rw [← e1] at cc
   have hs1:(1:Int)≤((mkL (d :: t)).size:Int):=by omega
   generalize mkL (d :: t)=s at hne h0 hd2 cc hs1 ⊢
   obtain ⟨x0,r0,hx0⟩:=cuL_ne t
   have hlen0:=cuL_count t
   have heach:=hid (cuL_each t)
   obtain ⟨R,hR⟩:∃ R,Hid (cuL t=R):=⟨_,rfl⟩
   rw [hR.out] at cc hp hlen0 heach hx0
   obtain ⟨n,hn⟩:∃ n,Hid (R.length=n):=⟨_,rfl⟩
   have hn0:0<n:=by rw [← hn.out,hx0];simp
   rw [hn.out] at hlen0
   have hni:(n:Int)≤4294967296:=by omega
   obtain ⟨m,hm⟩:∃ m,Hid (w.heap.size=m):=⟨_,rfl⟩
   clear hd hd47 hP hR hx0 hl e1
   go_enter Tryz.func91,Tryz.ntmps91
   go_wp2_with fail
   refine Calls.mono (cc.out _) ?_
   rintro e w1 ⟨v,rfl,k1,b1⟩
   rw [hm.out] at k1 b1
   have hf:∃ g cap,v = .slice (some ⟨g,0,none⟩) n cap:=by
    rcases k1.1.2 with ⟨rfl,h⟩ | ⟨g,cap,cur,rfl,-⟩
    ·rw [List.length_map,hn.out] at h;omega
    ·refine ⟨g,cap,?_⟩;rw [List.length_map,hn.out]
   obtain ⟨g,cap,rfl⟩:=hf
   have K1:=hid k1
   have B1:=hid b1
   clear k1 b1 cc
   go_wp2
   go_loopw [19] (fun ii wr=>∃ (i:Nat) (dn:List (List UInt8)),i≤n∧ii = .int .i64 (i:Int)∧Hid (dn.length=i)∧Hid (mnAll (R.take i)=some dn)∧Hid (KeysG m wr (.slice (some ⟨g,0,none⟩) n cap) ((dn++R.drop i).map mkL))∧Hid (Below m w wr)) (fun ii _=>n-(intOf ii).toNat)
   case atStart=>exact ⟨0,[],Nat.zero_le _,rfl,hid rfl,hid rfl,K1,B1⟩
   case round =>
    clear K1 B1
    obtain ⟨i,dn,hin,rfl,hdn,hmn,hK,hB⟩:=hrel
    by_cases hi:i<n
    ·have hii:(i:Int)<(n:Int):=by omega
     obtain ⟨x,hx⟩:∃ x,R[i]? = some x:=⟨_,List.getElem?_eq_getElem (by rw [hn.out];exact hi)⟩
     have hxm:x ∈ R:=List.mem_of_getElem? hx
     have hxl:=heach.out x hxm
     have hget:((dn++R.drop i).map mkL)[i]? = some (mkL x):=by
      rw [List.getElem?_map,List.getElem?_append_right (by rw [hdn.out];exact Nat.le_refl _),hdn.out,Nat.sub_self,List.getElem?_drop,Nat.add_zero,hx]
      rfl
     have hcell:=(hK.out.cell hget).1
     have hcm:=hid (fun u:World=>meant_calls x (by omega) u)
     cases hmx:mnL x with
     | none =>
      have hPn:=hid (show P=none by rw [hp.out];exact mnAll_none hxm hmx)
      rw [hmx] at hcm
      generalize mkL x=xs at hcell hcm
      clear hx hxm hxl hget hmx
      go_wp2_with fail
      refine Calls.mono (hcm.out _) ?_
      rintro e w3 ⟨rfl,b3⟩
      have B3:=hid (hB.out.trans (b3.mono (by have:=hB.out.size;rw [hm.out] at this;exact this)))
      clear b3 hcm
      go_wp2
      go_ret2
      refine ⟨_,by rw [hE.out,hPn.out];rfl,?_,?_⟩
      ·rw [hN.out,hPn.out]
       exact KeysG.nil _ _
      ·rw [hm.out]
       exact B3.out
     | some y =>
      have hyl:=mnL_len _ x y (Nat.le_refl _) hmx
      have hm2:=hid (show mnAll (R.take (i+1))=some (dn++[y]) by rw [List.take_add_one,hx];exact mnAll_snoc _ _ hmn.out hmx)
      have hset:=hid (show ((dn++R.drop i).map mkL).set i (mkL y)=(dn++[y]++R.drop (i+1)).map mkL by
       have hdr:R.drop i=x :: R.drop (i+1):=by
        rw [List.drop_eq_getElem_cons (by rw [hn.out];exact hi)]
        congr 1
        exact (List.getElem?_eq_some_iff.1 hx).2
       rw [hdr,List.map_append,List.set_append_right _ _ (by simp [hdn.out]),List.length_map,hdn.out,Nat.sub_self,List.map_cons,List.set_cons_zero,List.append_assoc,List.map_append]
       rfl)
      have hcap:=hid (show (mkL y).size≤capT by rw [mkL_size];unfold capT;omega)
      rw [hmx] at hcm
      have hge:=hid hget
      have hd1:=hid (show (dn++[y]).length=i+1 by simp [hdn.out])
      have hcm':Hid (∀ u:World,Calls Tryz.prog 110 #[.string (mkL x)] u fun e w'=>e = .returned (.tuple #[.string (mkL y),.bool true])∧Below u.heap.size u w'):=hcm
      have hgb:=hid (hK.out.blk (g:=g) rfl)
      generalize mkL x=xs at hcell hcm' hge
      generalize mkL y=ys at hcm' hset hcap
      clear hx hxm hxl hget hmx hcm hyl hmn hdn
      go_wp2_with fail
      refine Calls.mono (hcm'.out _) ?_
      rintro e w3 ⟨rfl,b3⟩
      have K3:=hid (hK.out.kept (SameOn.below b3))
      have B3:=hid (hB.out.trans (b3.mono (by have:=hB.out.size;rw [hm.out] at this;exact this)))
      have c3:=(K3.out.cell hge.out).1
      have f3:=(K3.out.cell hge.out).2
      clear b3 hcm' hcell hK
      go_wp2
      go_roundw
      case rel =>
       refine ⟨i+1,_,by omega,by simp,hd1,hm2,?_,?_⟩
       ·have:=(K3.out.stored i ys hcap.out).1
        rw [hset.out] at this
        exact hid this
       ·exact hid (B3.out.setCell (p:=⟨g,i,none⟩) hgb.out.1 _)
      case measure=>simp [intOf];omega
    ·obtain rfl:i=n:=by omega
     have hR1:R.take i=R:=List.take_of_length_le (by rw [hn.out];exact Nat.le_refl _)
     have hR2:R.drop i=[]:=List.drop_eq_nil_of_le (by rw [hn.out];exact Nat.le_refl _)
     rw [hR1] at hmn
     rw [hR2,List.append_nil] at hK
     have hPs:=hid (show P=some dn by rw [hp.out];exact hmn.out)
     go_wp2
     go_ret2
     refine ⟨_,by rw [hE.out,hPs.out];rfl,?_,?_⟩
     ·rw [hN.out,hPs.out,hm.out]
      exact hK.out
     ·rw [hm.out]
      exact hB.out
  ·have hp:=hid (show ptrL (d :: t)=none by rw [ptrL,if_neg hd47])
   have hd2:(((mkL (d :: t))[0]'h0).toNat:Int)≠47:=by
    rw [hd]
    intro h
    exact hd47 (UInt8.toNat_inj.1 (show d.toNat=47 by omega))
   have hN:=hid (show ptN (d :: t)=[] by unfold ptN;rw [hp.out];rfl)
   have hE:=hid (show ptE (d :: t)=200 by unfold ptE;rw [hp.out];rfl)
   generalize mkL (d :: t)=s at hne h0 hd2 ⊢
   clear hd hd47 hl
   go_enter Tryz.func91,Tryz.ntmps91
   go_wp2
   go_ret2
   refine ⟨_,by rw [hE.out];rfl,?_,Below.refl _ _⟩
   rw [hN.out]
   exact KeysG.nil _ _
end Go.Proofs.YtjcpamjeekfblaaGreatDoor
