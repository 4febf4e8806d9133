/-
  Texts of mine that others lean on, one behind the other.
-/
import Derived.Test.YtongedjlmohogaaGreatDoorPack19
import Derived.WalkSmall
import Derived.Laws.Concat
import Derived.Test.YtongedjlmohogaaGreatDoorPack9
import Derived.Test.YtongedjlmohogaaGreatDoorPack15
import Derived.Test.YtongedjlmohogaaGreatDoorPack8
namespace Go.Proofs.YtongedjlmohogaaGreatDoor
open Go.RowKit Go.Shelf
theorem KeysG.iter {B:Nat} {W:World} {v:Value} {ks:List ByteArray} (h:KeysG B W v ks) {k:Nat} (hk:k<B) (s:ByteArray) (p:Nat):KeysG B (W.iterAt k s p) v ks:=⟨ownsRow_iterAt h.1 hk s p,h.2⟩
theorem KeysG.mono {B B':Nat} {W:World} {v:Value} {ks:List ByteArray} (h:KeysG B W v ks) (hb:B'≤B):KeysG B' W v ks:=⟨h.1.mono hb,h.2⟩
def CuS (l:List UInt8) (ks:List (List UInt8)) (f q:Nat):Prop:=f≤q∧q≤l.length∧ks.length≤f∧ks++cuL (l.drop f)=cuL l∧∀ j,f≤j→j<q→lk (mkL l) j≠47
theorem CuS.start (l:List UInt8):CuS l [] 0 0:=⟨Nat.le_refl _,Nat.zero_le _,Nat.le_refl _,rfl,fun j h1 h2=>by omega⟩
theorem no_sl {l:List UInt8} {f q:Nat} (h:∀ j,f≤j→j<q→lk (mkL l) j≠47) (hq:q≤l.length):∀ c ∈ (l.drop f).take (q-f),c≠47:=by
 intro c hc e
 obtain ⟨i,hi,he⟩:=List.mem_iff_getElem.1 hc
 have hi2:i<q-f∧f+i<l.length:=by simp at hi;omega
 have h1:l[f+i]? = some c:=by
  have h2:((l.drop f).take (q-f))[i]? = some c:=by rw [List.getElem?_eq_getElem hi,he]
  rw [List.getElem?_take,if_pos hi2.1,List.getElem?_drop] at h2
  exact h2
 have h3:=lk_mkL l (f+i) c h1
 exact h (f+i) (by omega) (by omega) (by rw [h3,e];rfl)
theorem CuS.slash {l:List UInt8} {ks:List (List UInt8)} {f q:Nat} (h:CuS l ks f q) (hq:q<l.length) (hc:lk (mkL l) q=47):CuS l (ks++[(l.drop f).take (q-f)]) (q+1) (q+1):=by
 obtain ⟨h1,h2,h3,h4,h5⟩:=h
 refine ⟨Nat.le_refl _,hq,by simp;omega,?_,fun j a b=>by omega⟩
 obtain ⟨x,hx⟩:∃ x,l[q]? = some x:=⟨_,List.getElem?_eq_getElem hq⟩
 have hx47:x=47:=by
  have:=lk_mkL l q x hx
  rw [hc] at this
  exact UInt8.toNat_inj.1 (by rw [← this];rfl)
 have e1:l.drop f=(l.drop f).take (q-f)++47 :: l.drop (q+1):=by
  have e2:l.drop q=47 :: l.drop (q+1):=by
   rw [List.drop_eq_getElem_cons hq]
   congr 1
   rw [List.getElem?_eq_getElem hq] at hx
   rw [Option.some.inj hx,hx47]
  have e3:=(List.take_append_drop (q-f) (l.drop f)).symm
  rw [List.drop_drop,show f+(q-f)=q by omega,e2] at e3
  exact e3
 rw [← h4,List.append_assoc]
 congr 1
 conv=>rhs;rw [e1]
 rw [cuL_pre _ (no_sl h5 h2) _ _ _ (cuL_sl _),List.append_nil]
 rfl
theorem CuS.other {l:List UInt8} {ks:List (List UInt8)} {f q:Nat} (h:CuS l ks f q) (hq:q<l.length) (hc:lk (mkL l) q≠47):CuS l ks f (q+(Utf8.decode (mkL l) q).2):=by
 obtain ⟨h1,h2,h3,h4,h5⟩:=h
 obtain ⟨d1,d2⟩:=dec_conts (mkL l) q (by rw [mkL_size];exact hq)
 rw [mkL_size] at d1
 refine ⟨by omega,d1,h3,h4,fun j a b=>?_⟩
 rcases Nat.lt_or_ge j q with h6 | h6
 ·exact h5 j a h6
 ·by_cases e:j=q
  ·rw [e];exact hc
  ·have:=d2 j (by omega) b
   omega
theorem CuS.stop {l:List UInt8} {ks:List (List UInt8)} {f:Nat} (h:CuS l ks f l.length):ks++[l.drop f]=cuL l:=by
 obtain ⟨h1,h2,h3,h4,h5⟩:=h
 rw [← h4]
 have h6:=no_sl h5 h2
 rw [List.take_of_length_le (by simp)] at h6
 rw [cuL_self _ h6]
set_option maxRecDepth 10000 in
set_option maxHeartbeats 4000000 in
theorem cut_calls (l:List UInt8) (hl:l.length≤4294967296) (w:World):Calls Tryz.prog 109 #[.string (mkL l)] w fun e w'=>∃ v,e = .returned v∧KeysG w.heap.size w' v ((cuL l).map mkL)∧Below w.heap.size w w':=by
 obtain ⟨m,hm⟩:∃ m,Hid (w.heap.size=m):=⟨_,rfl⟩
 have hz:=mkL_size l
 obtain ⟨s,hs⟩:∃ s,Hid (mkL l=s):=⟨_,rfl⟩
 rw [hs.out] at hz ⊢
 have hsz:(s.size:Int)≤4294967296:=by omega
 have hz':=hid hz
 clear hl hz
 go_enter Tryz.func109,Tryz.ntmps109
 go_wp2
 rw [hm.out]
 go_loopw [3,4] (fun vv ff wr=>∃ (ks:List (List UInt8)) (f q:Nat),ff = .int .i64 (f:Int)∧Hid (CuS l ks f q)∧Hid (wr.heap[m]? = some (.stringIter s q))∧Hid (KeysG (m+1) wr vv (ks.map mkL))∧Hid (Below m w wr)) (fun _ _ wr=>s.size-wr.iterPos m)
 case atStart =>
  refine ⟨[],0,0,rfl,hid (CuS.start l),hid (by rw [← hm.out];exact World.iter_heap w s 0),hid (KeysG.nil _ _),hid ?_⟩
  exact (Below.refl _ w).alloc (by rw [hm.out];exact Nat.le_refl _) _
 case round =>
  obtain ⟨ks,f,q,rfl,hC,hI,hK,hB⟩:=hrel
  obtain ⟨so,cap,rfl⟩:=hK.out.shape
  obtain ⟨c1,c2,c3,-,-⟩:=hC.out
  rw [← hz'.out] at c2
  have hmw:m<wr.heap.size:=(Array.getElem?_eq_some_iff.1 hI.out).1
  have hfq:(f:Int)≤(q:Int):=by omega
  have hqs:(q:Int)≤(s.size:Int):=by omega
  by_cases hq:q<s.size
  ·have hnx:=fun ty=>Lib.run_next_any_at (P:=Tryz.prog) wr m s q ty hI.out hq
   have hI2:=hid (Lib.iterAt_heap wr m s q (q+(Utf8.decode s q).2) hI.out)
   have hB2:=hid (Lib.below_iterAt hB.out (k:=m) (Nat.le_refl _) s (q+(Utf8.decode s q).2))
   have hK2:=hid (hK.out.iter (Nat.lt_succ_self _) s (q+(Utf8.decode s q).2))
   have hdp:=dec_pos s q hq
   by_cases hsl:lk s q=47
   ·have hdec:=dec_low s q hq (by omega)
    rw [hsl] at hdec
    rw [hdec] at hnx hI2 hB2 hK2
    have hC2:=hid (hC.out.slash (by rw [← hz'.out];exact hq) (by rw [hs.out];exact hsl))
    have hsx:s.extract f q=mkL ((l.drop f).take (q-f)):=by rw [← hs.out,mkL_ext]
    obtain ⟨W1,hW1⟩:∃ W1,wr.iterAt m s (q+1)=W1:=⟨_,rfl⟩
    rw [hW1] at hnx hI2 hB2 hK2
    have qz:Below W1.heap.size W1 (W1.alloc (.cells #[.string (s.extract f q)] 9)):=(Below.refl _ _).alloc (Nat.le_refl _) _
    have K3:=hid (hK2.out.kept (SameOn.below qz))
    have hmw1:m<W1.heap.size:=(Array.getElem?_eq_some_iff.1 hI2.out).1
    have I3:=hid ((qz.block m hmw1).trans hI2.out)
    have B3:=hid (hB2.out.trans (qz.mono (Nat.le_of_lt hmw1)))
    have hss:=hid (show (s.extract f q).size≤capT by rw [ByteArray.size_extract];unfold capT;omega)
    have hkl:=hid (show (ks.map mkL).length<1099511627776 by rw [List.length_map];omega)
    have hsx':=hid hsx
    have hst:=hid (show q<s.size from hq)
    have hmw2:=hid (show m+1≤(W1.alloc (.cells #[.string (s.extract f q)] 9)).heap.size by rw [World.size_alloc];omega)
    have hiw:=hid hI.out
    clear hsx hdec hsl hC hI hK hB hB2 hK2 qz hdp
    go_wp2_with (at_builtin;refine wpList_keysR rfl rfl rfl K3.out hss.out ⟨W1.heap.size,0,none⟩ 1 rfl (by simp [Addr.add]) hkl.out hmw2.out ?_;intro v' w' hk1 hg1;have K4:=hid hk1;have I4:=hid ((hg1.block m (by have:=hmw2.out;omega) (fun e=>by have:=(K3.out.blk e.symm).1;omega)).trans I3.out);have B4:=hid (B3.out.grown hg1 (by have:=hmw2.out;omega) (fun b e=>by have:=(K3.out.blk e).1;omega));clear hk1 hg1)
    go_roundw
    case rel=>exact ⟨_,q+1,q+1,by simp,hC2,I4,hid (by rw [List.map_append];rw [hsx'.out] at K4;exact K4.out),B4⟩
    case measure =>
     simp only [World.iterPos,I4.out,hiw.out]
     have:=hst.out
     omega
   ·have hC2:=hid (hC.out.other (by rw [← hz'.out];exact hq) (by rw [hs.out];exact hsl))
    rw [hs.out] at hC2
    obtain ⟨c,hc⟩:∃ c,(Utf8.decode s q).1=c:=⟨_,rfl⟩
    have hcn:c≠47:=by
     by_cases hlo:lk s q<128
     ·rw [dec_low s q hq hlo] at hc;simp at hc;omega
     ·have:=(dec_high s q hq (by omega)).1;omega
    rw [hc] at hnx
    have hcb:((c:Int) == 47)=false:=beq_eq_false_iff_ne.2 (by omega)
    obtain ⟨D,hD⟩:∃ D,(Utf8.decode s q).2=D:=⟨_,rfl⟩
    rw [hD] at hnx hI2 hB2 hK2 hdp hC2
    have hiw:=hid hI.out
    have hst:=hid (show q<s.size from hq)
    clear hsl hC hI hK hB hc hcn
    go_wp2
    go_roundw
    case rel=>exact ⟨ks,f,q+D,rfl,hC2,hI2,hK2,hB2⟩
    case measure =>
     simp only [World.iterPos,hI2.out,hiw.out]
     have:=hst.out
     omega
  ·have hqe:q=s.size:=by omega
   have hnx:=fun ty=>Lib.run_next_end_at (P:=Tryz.prog) wr m s q ty hI.out hq
   have hst:=hid (show ks++[l.drop f]=cuL l by have:=hC.out;rw [hqe,hz'.out] at this;exact this.stop)
   have hsx:s.extract f s.size=mkL (l.drop f):=by
    rw [← hs.out,mkL_ext,mkL_size,List.take_of_length_le (by simp)]
   have qz:Below wr.heap.size wr (wr.alloc (.cells #[.string (s.extract f s.size)] 9)):=(Below.refl _ _).alloc (Nat.le_refl _) _
   have K3:=hid (hK.out.kept (SameOn.below qz))
   have B3:=hid (hB.out.trans (qz.mono (Nat.le_of_lt hmw)))
   have hss:=hid (show (s.extract f s.size).size≤capT by rw [ByteArray.size_extract];unfold capT;omega)
   have hkl:=hid (show (ks.map mkL).length<1099511627776 by rw [List.length_map];omega)
   have hsx':=hid hsx
   have hfs:(f:Int)≤(s.size:Int):=by omega
   have hmw2:=hid (show m+1≤(wr.alloc (.cells #[.string (s.extract f s.size)] 9)).heap.size by rw [World.size_alloc];omega)
   clear hsx hC hI hK hB qz hqe hfq hqs
   go_wp2_with (at_builtin;refine wpList_keysR rfl rfl rfl K3.out hss.out ⟨wr.heap.size,0,none⟩ 1 rfl (by simp [Addr.add]) hkl.out hmw2.out ?_;intro v' w' hk1 hg1;have K4:=hid hk1;have B4:=hid (B3.out.grown hg1 (by have:=hmw2.out;omega) (fun b e=>by have:=(K3.out.blk e).1;omega));clear hk1 hg1)
   go_ret
   refine ⟨_,rfl,?_,by rw [hm.out];exact B4.out⟩
   rw [hm.out,← hst.out,List.map_append]
   rw [hsx'.out] at K4
   exact K4.out.mono (Nat.le_succ _)
end Go.Proofs.YtongedjlmohogaaGreatDoor

namespace Go.Proofs.YtongedjlmohogaaGreatDoor
open Go.RowKit Go.Shelf
theorem mnAll_none:∀ {L:List (List UInt8)} {x:List UInt8},x ∈ L→mnL x=none→mnAll L=none
 | [],x,h,_=>by simp at h
 | a :: L,x,h,hx=>by
  rw [mnAll]
  simp at h
  rcases h with rfl | h
  ·rw [hx]
  ·rw [mnAll_none h hx]
   cases mnL a <;> rfl
theorem mnAll_snoc:∀ (L:List (List UInt8)) (x:List UInt8) {dn:List (List UInt8)} {y:List UInt8},mnAll L=some dn→mnL x=some y→mnAll (L++[x])=some (dn++[y])
 | [],x,dn,y,h,hy=>by
  cases h
  simp [mnAll,hy]
 | a :: L,x,dn,y,h,hy=>by
  rw [mnAll] at h
  cases ha:mnL a with
  | none=>rw [ha] at h;simp at h
  | some b =>
   cases hL:mnAll L with
   | none=>rw [ha,hL] at h;simp at h
   | some c =>
    rw [ha,hL] at h
    cases h
    rw [List.cons_append,mnAll,ha,mnAll_snoc L x hL hy]
    rfl
def ptN (l:List UInt8):List (List UInt8):=(ptrL l).getD []
def ptE (l:List UInt8):Int:=if (ptrL l).isSome then 0 else 200
theorem KeysG.stored {B:Nat} {W:World} {g n cap:Nat} {ks:List ByteArray} (h:KeysG B W (.slice (some ⟨g,0,none⟩) n cap) ks) (i:Nat) (u:ByteArray) (hu:u.size≤capT):KeysG B (W.setCell ⟨g,i,none⟩ (.string u)) (.slice (some ⟨g,0,none⟩) n cap) (ks.set i u)∧W.grownBy (W.setCell ⟨g,i,none⟩ (.string u)) (some g):=by
 obtain ⟨h1,h2⟩:=h
 obtain ⟨so,c,e⟩:=own_shape h1
 cases e
 obtain ⟨a,b⟩:=h1.stored i (.string u)
 refine ⟨⟨?_,fun j s hj=>?_⟩,b⟩
 ·rw [List.length_set,List.map_set]
  exact a
 ·by_cases e:i=j
  ·subst e
   have hl:=(List.getElem?_eq_some_iff.1 hj).1
   rw [List.length_set] at hl
   rw [List.getElem?_set_self hl] at hj
   cases hj
   exact hu
  ·rw [List.getElem?_set_ne e] at hj
   exact h2 j s hj
theorem KeysG.cell {B:Nat} {W:World} {g n cap:Nat} {ks:List ByteArray} (h:KeysG B W (.slice (some ⟨g,0,none⟩) n cap) ks) {i:Nat} {u:ByteArray} (hi:ks[i]? = some u):W.cell? ⟨g,i,none⟩=some (.string u)∧W.frozen? ⟨g,i,none⟩=false:=by
 obtain ⟨h1,h2⟩:=h
 obtain ⟨so,c,e⟩:=own_shape h1
 cases e
 have hl:=(List.getElem?_eq_some_iff.1 hi).1
 refine ⟨?_,h1.frozenAt i⟩
 rw [h1.cellAt i (by omega),List.getElem?_map,hi]
 rfl
theorem mnL_len:∀ (n:Nat) (a x:List UInt8),a.length≤n→mnL a=some x→x.length≤a.length:=by
 intro n
 induction n with
 | zero =>
  intro a x hl h
  obtain rfl:a=[]:=List.length_eq_zero_iff.1 (by omega)
  cases h
  exact Nat.le_refl _
 | succ n ih =>
  intro a x hl h
  cases a with
  | nil=>cases h;exact Nat.le_refl _
  | cons c t =>
   simp only [List.length_cons] at hl
   by_cases hc:c=126
   ·subst hc
    cases t with
    | nil=>rw [mnL_none] at h;cases h
    | cons d t =>
     simp only [List.length_cons] at hl
     rw [mnL_til] at h
     cases hm:mnL t with
     | none=>rw [hm] at h;split at h <;> (try split at h) <;> simp at h
     | some y =>
      have:=ih t y (by omega) hm
      rw [hm] at h
      split at h
      ·cases h;simp;omega
      ·split at h
       ·cases h;simp;omega
       ·cases h
   ·rw [mnL_plain hc] at h
    cases hm:mnL t with
    | none=>rw [hm] at h;cases h
    | some y =>
     have:=ih t y (by omega) hm
     rw [hm] at h
     cases h
     simp;omega
theorem cuL_each:∀ (l:List UInt8),∀ a ∈ cuL l,a.length≤l.length
 | [],a,h=>by simp [cuL] at h;rw [h];exact Nat.le_refl _
 | c :: t,a,h=>by
  obtain ⟨x,r,hx⟩:=cuL_ne t
  by_cases hc:c=47
  ·subst hc
   rw [cuL_sl] at h
   simp at h
   rcases h with rfl | h
   ·simp
   ·have:=cuL_each t a h;simp;omega
  ·rw [cuL_on hc hx] at h
   simp at h
   rcases h with rfl | h
   ·have:=cuL_each t x (by rw [hx];simp);simp;omega
   ·have:=cuL_each t a (by rw [hx];simp [h]);simp;omega
theorem cuL_count:∀ (l:List UInt8),(cuL l).length≤l.length+1
 | []=>by simp [cuL]
 | c :: t=>by
  obtain ⟨x,r,hx⟩:=cuL_ne t
  have h:=cuL_count t
  by_cases hc:c=47
  ·subst hc
   rw [cuL_sl]
   simp;omega
  ·rw [cuL_on hc hx]
   rw [hx] at h
   simp at h ⊢
   omega
set_option maxRecDepth 10000 in
set_option maxHeartbeats 4000000 in
theorem parse20_calls (l:List UInt8) (hl:l.length≤4294967296) (w:World):Calls Tryz.prog 91 #[.string (mkL l)] w fun e w'=>∃ v,e = .returned (.tuple #[v,.int .i64 (ptE l)])∧KeysG w.heap.size w' v ((ptN l).map mkL)∧Below w.heap.size w w':=by
 cases l with
 | nil =>
  show Calls Tryz.prog 91 #[.string ByteArray.empty] w _
  go_enter Tryz.func91,Tryz.ntmps91
  go_wp2
  go_ret2
  exact ⟨_,rfl,KeysG.nil _ _,Below.refl _ _⟩
 | cons d t =>
  have hne:((mkL (d :: t)).toList == [])=false:=by
   rw [eq_const,data_mkL]
   exact decide_eq_false (by simp)
  have h0:0<(mkL (d :: t)).size:=by rw [mkL_size];simp
  have hd:((mkL (d :: t))[0]'h0).toNat=d.toNat:=by
   rw [← lk_at _ 0 h0]
   exact lk_mkL (d :: t) 0 d rfl
  by_cases hd47:d=47
  ·have hp:=hid (show ptrL (d :: t)=mnAll (cuL t) by rw [ptrL,if_pos hd47])
   obtain ⟨P,hP⟩:∃ P,Hid (ptrL (d :: t)=P):=⟨_,rfl⟩
   have hN:=hid (show ptN (d :: t)=P.getD [] by unfold ptN;rw [hP.out])
   have hE:=hid (show ptE (d :: t)=if P.isSome then 0 else 200 by unfold ptE;rw [hP.out])
   rw [hP.out] at hp
   have hd2:(((mkL (d :: t))[0]'h0).toNat:Int)=47:=by rw [hd,hd47];rfl
   have e1:(mkL (d :: t)).extract 1 (mkL (d :: t)).size=mkL t:=by
    rw [mkL_ext,mkL_size]
    congr 1
    simp
   have hlt:t.length≤4294967295:=by simp at hl;omega
   have cc:=hid (fun u:World=>cut_calls t (by omega) u)
   rw [← e1] at cc
   have hs1:(1:Int)≤((mkL (d :: t)).size:Int):=by omega
   generalize mkL (d :: t)=s at hne h0 hd2 cc hs1 ⊢
   obtain ⟨x0,r0,hx0⟩:=cuL_ne t
   have hlen0:=cuL_count t
   have heach:=hid (cuL_each t)
   obtain ⟨R,hR⟩:∃ R,Hid (cuL t=R):=⟨_,rfl⟩
   rw [hR.out] at cc hp hlen0 heach hx0
   obtain ⟨n,hn⟩:∃ n,Hid (R.length=n):=⟨_,rfl⟩
   have hn0:0<n:=by rw [← hn.out,hx0];simp
   rw [hn.out] at hlen0
   have hni:(n:Int)≤4294967296:=by omega
   obtain ⟨m,hm⟩:∃ m,Hid (w.heap.size=m):=⟨_,rfl⟩
   clear hd hd47 hP hR hx0 hl e1
   go_enter Tryz.func91,Tryz.ntmps91
   go_wp2_with fail
   refine Calls.mono (cc.out _) ?_
   rintro e w1 ⟨v,rfl,k1,b1⟩
   rw [hm.out] at k1 b1
   have hf:∃ g cap,v = .slice (some ⟨g,0,none⟩) n cap:=by
    rcases k1.1.2 with ⟨rfl,h⟩ | ⟨g,cap,cur,rfl,-⟩
    ·rw [List.length_map,hn.out] at h;omega
    ·refine ⟨g,cap,?_⟩;rw [List.length_map,hn.out]
   obtain ⟨g,cap,rfl⟩:=hf
   have K1:=hid k1
   have B1:=hid b1
   clear k1 b1 cc
   go_wp2
   go_loopw [19] (fun ii wr=>∃ (i:Nat) (dn:List (List UInt8)),i≤n∧ii = .int .i64 (i:Int)∧Hid (dn.length=i)∧Hid (mnAll (R.take i)=some dn)∧Hid (KeysG m wr (.slice (some ⟨g,0,none⟩) n cap) ((dn++R.drop i).map mkL))∧Hid (Below m w wr)) (fun ii _=>n-(intOf ii).toNat)
   case atStart=>exact ⟨0,[],Nat.zero_le _,rfl,hid rfl,hid rfl,K1,B1⟩
   case round =>
    clear K1 B1
    obtain ⟨i,dn,hin,rfl,hdn,hmn,hK,hB⟩:=hrel
    by_cases hi:i<n
    ·have hii:(i:Int)<(n:Int):=by omega
     obtain ⟨x,hx⟩:∃ x,R[i]? = some x:=⟨_,List.getElem?_eq_getElem (by rw [hn.out];exact hi)⟩
     have hxm:x ∈ R:=List.mem_of_getElem? hx
     have hxl:=heach.out x hxm
     have hget:((dn++R.drop i).map mkL)[i]? = some (mkL x):=by
      rw [List.getElem?_map,List.getElem?_append_right (by rw [hdn.out];exact Nat.le_refl _),hdn.out,Nat.sub_self,List.getElem?_drop,Nat.add_zero,hx]
      rfl
     have hcell:=(hK.out.cell hget).1
     have hcm:=hid (fun u:World=>meant_calls x (by omega) u)
     cases hmx:mnL x with
     | none =>
      have hPn:=hid (show P=none by rw [hp.out];exact mnAll_none hxm hmx)
      rw [hmx] at hcm
      generalize mkL x=xs at hcell hcm
      clear hx hxm hxl hget hmx
      go_wp2_with fail
      refine Calls.mono (hcm.out _) ?_
      rintro e w3 ⟨rfl,b3⟩
      have B3:=hid (hB.out.trans (b3.mono (by have:=hB.out.size;rw [hm.out] at this;exact this)))
      clear b3 hcm
      go_wp2
      go_ret2
      refine ⟨_,by rw [hE.out,hPn.out];rfl,?_,?_⟩
      ·rw [hN.out,hPn.out]
       exact KeysG.nil _ _
      ·rw [hm.out]
       exact B3.out
     | some y =>
      have hyl:=mnL_len _ x y (Nat.le_refl _) hmx
      have hm2:=hid (show mnAll (R.take (i+1))=some (dn++[y]) by rw [List.take_add_one,hx];exact mnAll_snoc _ _ hmn.out hmx)
      have hset:=hid (show ((dn++R.drop i).map mkL).set i (mkL y)=(dn++[y]++R.drop (i+1)).map mkL by
       have hdr:R.drop i=x :: R.drop (i+1):=by
        rw [List.drop_eq_getElem_cons (by rw [hn.out];exact hi)]
        congr 1
        exact (List.getElem?_eq_some_iff.1 hx).2
       rw [hdr,List.map_append,List.set_append_right _ _ (by simp [hdn.out]),List.length_map,hdn.out,Nat.sub_self,List.map_cons,List.set_cons_zero,List.append_assoc,List.map_append]
       rfl)
      have hcap:=hid (show (mkL y).size≤capT by rw [mkL_size];unfold capT;omega)
      rw [hmx] at hcm
      have hge:=hid hget
      have hd1:=hid (show (dn++[y]).length=i+1 by simp [hdn.out])
      have hcm':Hid (∀ u:World,Calls Tryz.prog 110 #[.string (mkL x)] u fun e w'=>e = .returned (.tuple #[.string (mkL y),.bool true])∧Below u.heap.size u w'):=hcm
      have hgb:=hid (hK.out.blk (g:=g) rfl)
      generalize mkL x=xs at hcell hcm' hge
      generalize mkL y=ys at hcm' hset hcap
      clear hx hxm hxl hget hmx hcm hyl hmn hdn
      go_wp2_with fail
      refine Calls.mono (hcm'.out _) ?_
      rintro e w3 ⟨rfl,b3⟩
      have K3:=hid (hK.out.kept (SameOn.below b3))
      have B3:=hid (hB.out.trans (b3.mono (by have:=hB.out.size;rw [hm.out] at this;exact this)))
      have c3:=(K3.out.cell hge.out).1
      have f3:=(K3.out.cell hge.out).2
      clear b3 hcm' hcell hK
      go_wp2
      go_roundw
      case rel =>
       refine ⟨i+1,_,by omega,by simp,hd1,hm2,?_,?_⟩
       ·have:=(K3.out.stored i ys hcap.out).1
        rw [hset.out] at this
        exact hid this
       ·exact hid (B3.out.setCell (p:=⟨g,i,none⟩) hgb.out.1 _)
      case measure=>simp [intOf];omega
    ·obtain rfl:i=n:=by omega
     have hR1:R.take i=R:=List.take_of_length_le (by rw [hn.out];exact Nat.le_refl _)
     have hR2:R.drop i=[]:=List.drop_eq_nil_of_le (by rw [hn.out];exact Nat.le_refl _)
     rw [hR1] at hmn
     rw [hR2,List.append_nil] at hK
     have hPs:=hid (show P=some dn by rw [hp.out];exact hmn.out)
     go_wp2
     go_ret2
     refine ⟨_,by rw [hE.out,hPs.out];rfl,?_,?_⟩
     ·rw [hN.out,hPs.out,hm.out]
      exact hK.out
     ·rw [hm.out]
      exact hB.out
  ·have hp:=hid (show ptrL (d :: t)=none by rw [ptrL,if_neg hd47])
   have hd2:(((mkL (d :: t))[0]'h0).toNat:Int)≠47:=by
    rw [hd]
    intro h
    exact hd47 (UInt8.toNat_inj.1 (show d.toNat=47 by omega))
   have hN:=hid (show ptN (d :: t)=[] by unfold ptN;rw [hp.out];rfl)
   have hE:=hid (show ptE (d :: t)=200 by unfold ptE;rw [hp.out];rfl)
   generalize mkL (d :: t)=s at hne h0 hd2 ⊢
   clear hd hd47 hl
   go_enter Tryz.func91,Tryz.ntmps91
   go_wp2
   go_ret2
   refine ⟨_,by rw [hE.out];rfl,?_,Below.refl _ _⟩
   rw [hN.out]
   exact KeysG.nil _ _
end Go.Proofs.YtongedjlmohogaaGreatDoor

namespace Go.Proofs.YtongedjlmohogaaGreatDoor
open Go.RowKit Go.Shelf
def RfS (l:List UInt8) (out:List (List UInt8)) (q:Nat):Prop:=q≤l.length∧rfL out (l.drop q)=ptrL l∧out.length≤q∧(0<q→out≠[])∧∀ a ∈ out,a.length≤q
theorem RfS.start {l:List UInt8} (h:∀ c ∈ l.head?,c=47):RfS l [] 0:=⟨Nat.zero_le _,rfL_ptr l h,Nat.le_refl _,fun h=>by omega,fun a h=>by simp at h⟩
theorem drop_at {l:List UInt8} {q:Nat} {c:UInt8} (h:l[q]? = some c):l.drop q=c :: l.drop (q+1):=by
 obtain ⟨h1,h2⟩:=List.getElem?_eq_some_iff.1 h
 rw [List.drop_eq_getElem_cons h1,h2]
theorem RfS.sl {l:List UInt8} {out:List (List UInt8)} {q:Nat} (h:RfS l out q) (hc:l[q]? = some 47):RfS l (out++[[]]) (q+1):=by
 obtain ⟨h1,h2,h3,h4,h5⟩:=h
 have hq:=(List.getElem?_eq_some_iff.1 hc).1
 rw [drop_at hc,rfL_sl] at h2
 refine ⟨hq,h2,by simp;omega,fun _=>by simp,fun a ha=>?_⟩
 simp at ha
 rcases ha with ha | rfl
 ·have:=h5 a ha;omega
 ·simp
theorem RfS.last {l:List UInt8} {out:List (List UInt8)} {q:Nat} (h:RfS l out q) (hh:∀ c ∈ l.head?,c=47) {c:UInt8} (hc:l[q]? = some c) (hc47:c≠47):∃ o a,out=o++[a]:=by
 obtain ⟨h1,h2,h3,h4,h5⟩:=h
 have hq0:0<q:=by
  rcases Nat.eq_zero_or_pos q with rfl | h
  ·exfalso
   cases l with
   | nil=>simp at hc
   | cons d t =>
    simp at hc
    exact hc47 (by rw [← hc];exact hh d rfl)
  ·exact h
 have:=h4 hq0
 exact ⟨out.dropLast,out.getLast this,(List.dropLast_concat_getLast this).symm⟩
theorem RfS.plain {l:List UInt8} {o:List (List UInt8)} {a:List UInt8} {q:Nat} (h:RfS l (o++[a]) q) {c:UInt8} (hc:l[q]? = some c) (h1:c≠47) (h2:c≠126):RfS l (o++[a++[c]]) (q+1):=by
 obtain ⟨g1,g2,g3,g4,g5⟩:=h
 have hq:=(List.getElem?_eq_some_iff.1 hc).1
 rw [drop_at hc,rfL_plain h1 h2,addN_on] at g2
 refine ⟨hq,g2,by simp at g3 ⊢;omega,fun _=>by simp,fun b hb=>?_⟩
 simp at hb
 rcases hb with hb | rfl
 ·have:=g5 b (by simp [hb]);omega
 ·have:=g5 a (by simp);simp;omega
theorem RfS.bad {l:List UInt8} {out:List (List UInt8)} {q:Nat} (h:RfS l out q) (hc:l[q]? = some 126) (hd:q+1=l.length∨∃ d,l[q+1]? = some d∧d≠48∧d≠49):ptrL l=none:=by
 obtain ⟨-,g2,-⟩:=h
 rw [drop_at hc] at g2
 rcases hd with hd | ⟨d,hd,h1,h2⟩
 ·rw [List.drop_eq_nil_of_le (by omega),rfL_none] at g2
  exact g2.symm
 ·rw [drop_at hd,rfL_til,if_neg h1,if_neg h2] at g2
  exact g2.symm
theorem RfS.stop {l:List UInt8} {out:List (List UInt8)} (h:RfS l out l.length):ptrL l=some out:=by
 have:=h.2.1
 rw [List.drop_eq_nil_of_le (Nat.le_refl _)] at this
 rw [← this]
 rfl
end Go.Proofs.YtongedjlmohogaaGreatDoor

namespace Go.Proofs.YtongedjlmohogaaGreatDoor
open Go.RowKit Go.Shelf
theorem KeysG.keys {B:Nat} {W:World} {so:Option Addr} {n cap:Nat} {ks:List ByteArray} (h:KeysG B W (.slice so n cap) ks):KeysAt W so ks:=(h.row.2).at
theorem ptN_len (l:List UInt8):(ptN l).length≤l.length:=by
 unfold ptN
 cases l with
 | nil=>simp [ptrL]
 | cons d t =>
  by_cases h:d=47
  ·rw [ptrL,if_pos h]
   have hc:=cuL_count t
   cases hm:mnAll (cuL t) with
   | none=>simp
   | some L =>
    have:=mnAll_len hm
    simp
    omega
  ·rw [ptrL,if_neg h];simp
where
 mnAll_len:∀ {R L:List (List UInt8)},mnAll R=some L→L.length=R.length
 | [],L,h=>by cases h;rfl
 | a :: R,L,h=>by
  rw [mnAll] at h
  cases ha:mnL a with
  | none=>rw [ha] at h;simp at h
  | some b =>
   cases hR:mnAll R with
   | none=>rw [ha,hR] at h;simp at h
   | some c =>
    rw [ha,hR] at h
    cases h
    simp [mnAll_len hR]
end Go.Proofs.YtongedjlmohogaaGreatDoor

namespace Go.Proofs.YtongedjlmohogaaGreatDoor
open Go.RowKit Go.Shelf
set_option maxRecDepth 10000 in
set_option maxHeartbeats 4000000 in
theorem indexK_calls (ks:List ByteArray) (ko:Option Addr) (N kc:Nat) (hN:Hid (ks.length=N)) (hNc:N≤capT) (nm:ByteArray) (w:World) (hk:Hid (KeysAt w ko ks)) :
  Calls Tryz.prog 111 #[.slice ko N kc,.string nm] w fun e w'=>∃ f:Int,e = .returned (.int .i64 f)∧IsFst ks nm f∧Below w.heap.size w w':=by
 have hNi:(N:Int)≤9223372036854775807:=by unfold capT at hNc;omega
 clear hNc
 go_enter Tryz.func111,Tryz.ntmps111
 go_wp2
 go_loopw [8] (fun ii wr=>∃ i:Nat,i≤N∧ii = .int .i64 (i:Int)∧Hid (∀ j,j<i→ks[j]?≠some nm)∧Hid (Below w.heap.size w wr)) (fun ii _=>N-(intOf ii).toNat)
 case atStart=>exact ⟨0,Nat.zero_le _,rfl,hid (fun j hj=>by omega),hid (Below.refl _ _)⟩
 case round =>
  obtain ⟨i,hi,rfl,hsm,hb⟩:=hrel
  by_cases hlt:i<N
  ·have hii:(i:Int)<(N:Int):=by omega
   obtain ⟨p,hp⟩:∃ p,Hid (ks[i]? = some p):=⟨_,List.getElem?_eq_getElem (by rw [hN.out];exact hlt)⟩
   obtain ⟨-,g,o,rfl,hg,s1⟩:=(hk.out.kept hb.out) i p hp.out
   have ad1:(⟨g,o,none⟩:Addr).add i=⟨g,o+i,none⟩:=by by_cases h:i=0 <;> simp [Addr.add,h]
   by_cases hpq:nm=p
   ·subst hpq
    have ep2:(nm.toList == nm.toList)=true:=by simp
    go_wp2
    go_ret
    exact ⟨(i:Int),rfl,.inr ⟨i,rfl,hp.out,hsm.out⟩,hb.out⟩
   ·have ep2:(nm.toList != p.toList)=true:=by rw [text_beq,decide_eq_false hpq];rfl
    have ep3:(nm.toList == p.toList)=false:=by rw [bne] at ep2;simpa using ep2
    go_wp2
    go_roundw
    case rel=>exact ⟨i+1,by omega,by simp,hid (fun j hj=>by
     by_cases e:j=i
     ·subst e;rw [hp.out];intro e;injection e with e;exact hpq e.symm
     ·exact hsm.out j (by omega)),hb⟩
    case measure=>simp [intOf];omega
  ·obtain rfl:i=N:=by omega
   go_wp2
   go_ret
   refine ⟨-1,rfl,.inl ⟨rfl,fun j=>?_⟩,hb.out⟩
   by_cases hj:j<i
   ·exact hsm.out j hj
   ·rw [List.getElem?_eq_none (by rw [hN.out];omega)]
    simp
theorem vt0_on (S:Nat→Prop) (w:World):ValOn S w vt0 (.agg #[.int .i64 0,.bool false,.string ⟨#[]⟩,.string ⟨#[]⟩,.slice none 0 0,.slice none 0 0]) :=
 .mk 0 false ⟨#[]⟩ ⟨#[]⟩ [] [] none 0 none 0 (fun _=>#[]) rfl ⟨Nat.zero_le _,Nat.zero_le _,Nat.zero_le _,Nat.zero_le _⟩ (fun i s h=>by simp at h) (fun i h=>by simp at h) (fun i u h=>by simp at h)
end Go.Proofs.YtongedjlmohogaaGreatDoor

namespace Go.Proofs.YtongedjlmohogaaGreatDoor
open Go.RowKit Go.Shelf
def fstO (nm:ByteArray):List ByteArray→Option Nat
 | []=>none
 | k :: r=>if k=nm then some 0 else (fstO nm r).map (· + 1)
theorem fstO_no {nm:ByteArray}:∀ {ks:List ByteArray},(∀ j:Nat,ks[j]?≠some nm)→fstO nm ks=none
 | [],_=>rfl
 | k :: r,h=>by
  rw [fstO,if_neg (fun e=>h 0 (by rw [e];rfl)),fstO_no (fun j=>h (j+1))]
  rfl
theorem fstO_yes {nm:ByteArray}:∀ {ks:List ByteArray} {i:Nat},ks[i]? = some nm→(∀ j,j<i→ks[j]?≠some nm)→fstO nm ks=some i
 | [],i,h,_=>by simp at h
 | k :: r,0,h,_=>by
  simp at h
  rw [fstO,if_pos h]
 | k :: r,i+1,h,hn=>by
  simp at h
  rw [fstO,if_neg (fun e=>hn 0 (by omega) (by rw [e];rfl)),fstO_yes h (fun j hj=>hn (j+1) (by omega))]
  rfl
theorem fstO_get {nm:ByteArray}:∀ {ks:List ByteArray} {i:Nat},fstO nm ks=some i→ks[i]? = some nm∧∀ j,j<i→ks[j]?≠some nm
 | [],i,h=>by cases h
 | k :: r,i,h=>by
  rw [fstO] at h
  by_cases e:k=nm
  ·rw [if_pos e] at h
   cases h
   exact ⟨by rw [e];rfl,fun j hj=>by omega⟩
  ·rw [if_neg e] at h
   cases hr:fstO nm r with
   | none=>rw [hr] at h;cases h
   | some q =>
    rw [hr] at h
    obtain rfl:q+1=i:=Option.some.inj h
    obtain ⟨h1,h2⟩:=fstO_get hr
    refine ⟨h1,fun j hj=>?_⟩
    cases j with
    | zero=>simp;exact e
    | succ j=>exact h2 j (by omega)
def stI (t:Vt) (nm:ByteArray):Option Nat :=
 if t.kind=5 then (if plB nm=true∧plN nm nm.size<t.kids.length then some (plN nm nm.size) else none)
 else if t.kind=6 then fstO nm t.keys else none
def StQ (t:Vt) (nm:ByteArray) (w:World) (e:Ending) (w':World):Prop:=∃ (i:Int) (B:Bool),e = .returned (.tuple #[.int .i64 i,.bool B])∧((B=true∧∃ j:Nat,i=(j:Int)∧stI t nm=some j)∨(B=false∧stI t nm=none))∧Below w.heap.size w w'
set_option maxRecDepth 10000 in
set_option maxHeartbeats 4000000 in
theorem step_calls (t:Vt) (nm:ByteArray) (hnm:nm.size≤9223372036854775807) (va:Value) (w:World) (ha:ValAt w t va):Calls Tryz.prog 92 #[va,.string nm] w fun e w'=>StQ t nm w e w':=by
 cases ha with
 | mk k b r t ks vs ko kc vo vc X hw hz hk hr hv =>
 have hz1:=hid hz
 have hk1:=hid hk
 have hS:Hid (stI (.mk k b r t ks vs) nm=if k=5 then (if plB nm=true∧plN nm nm.size<vs.length then some (plN nm nm.size) else none) else if k=6 then fstO nm ks else none):=rfl
 obtain ⟨N,hN⟩:∃ N,Hid (ks.length=N):=⟨_,rfl⟩
 obtain ⟨M,hM⟩:∃ M,Hid (vs.length=M):=⟨_,rfl⟩
 rw [hN.out,hM.out]
 rw [hM.out] at hS
 have hNi:(N:Int)≤9223372036854775807:=by have:=hz1.out.2.2.1;rw [hN.out] at this;unfold capT at this;omega
 have hMi:(M:Int)≤9223372036854775807:=by have:=hz1.out.2.2.2;rw [hM.out] at this;unfold capT at this;omega
 have hf:=hid (fun (w':World) (h:KeysAt w' ko ks)=>indexK_calls ks ko N kc hN (by have:=hz1.out.2.2.1;rw [hN.out] at this;exact this) nm w' (hid h))
 have hp:=hid (fun u:World=>plc_calls nm hnm u)
 clear hk hr hv hz hw
 have A1:Hid (At (w.alloc (.cells #[.int .i64 k,.bool b,.string r,.string t,.slice ko N kc,.slice vo M vc] 59)) w.heap.size #[.int .i64 k,.bool b,.string r,.string t,.slice ko N kc,.slice vo M vc] 59):=At.new w _ _
 have B1:Hid (Below w.heap.size w (w.alloc (.cells #[.int .i64 k,.bool b,.string r,.string t,.slice ko N kc,.slice vo M vc] 59))):=(Below.refl _ w).alloc (Nat.le_refl _) _
 generalize hV:Vt.mk k b r t ks vs=V at hS ⊢
 obtain ⟨W1,hW1⟩:∃ W,w.alloc (.cells #[.int .i64 k,.bool b,.string r,.string t,.slice ko N kc,.slice vo M vc] 59)=W:=⟨_,rfl⟩
 rw [hW1] at A1 B1
 have c0:=A1.out.cell 0
 have c4:=A1.out.cell 4
 have c5:=A1.out.cell 5
 simp only [List.getElem?_toArray,List.getElem?_cons_zero,List.getElem?_cons_succ] at c0 c4 c5
 by_cases h5:k=5
 ·subst h5
  rw [if_pos rfl] at hS
  clear hf hV
  cases hB:plB nm with
  | false =>
   have hv:=plV_no hB
   rw [hB,hv] at hp
   rw [hB,if_neg (fun h=>by cases h.1)] at hS
   clear hB hv
   go_enter Tryz.func92,Tryz.ntmps92
   go_wp2_with fail
   refine Calls.mono (hp.out _) ?_
   rintro e w3 ⟨rfl,b3⟩
   have A3:=hid (A1.out.keptAll b3)
   have B3:=hid (B1.out.trans (b3.mono B1.out.size))
   clear b3 c0 c4 c5 hW1 A1 B1
   have c5:=A3.out.cell 5
   simp only [List.getElem?_toArray,List.getElem?_cons_zero,List.getElem?_cons_succ] at c5
   go_wp2
   go_region
   all_goals go_wp2
   go_ret2
   exact ⟨0,false,rfl,.inr ⟨rfl,hS.out⟩,B3.out.drew⟩
  | true =>
   have hv:=plV_yes hB
   rw [hB,hv] at hp
   rw [hB] at hS
   generalize plN nm nm.size=n at hp hS
   by_cases hnM:n<M
   ·rw [if_pos ⟨rfl,hnM⟩] at hS
    have hni:(n:Int)<(M:Int):=by omega
    have hnd:decide ((n:Int)<(M:Int))=true:=decide_eq_true hni
    clear hB hv
    go_enter Tryz.func92,Tryz.ntmps92
    go_wp2_with fail
    refine Calls.mono (hp.out _) ?_
    rintro e w3 ⟨rfl,b3⟩
    have A3:=hid (A1.out.keptAll b3)
    have B3:=hid (B1.out.trans (b3.mono B1.out.size))
    clear b3 c0 c4 c5 hW1 A1 B1
    have c5:=A3.out.cell 5
    simp only [List.getElem?_toArray,List.getElem?_cons_zero,List.getElem?_cons_succ] at c5
    go_wp2
    go_region
    all_goals go_wp2
    go_ret2
    exact ⟨n,true,by rfl,.inl ⟨rfl,n,rfl,hS.out⟩,B3.out.drew⟩
   ·rw [if_neg (fun h=>hnM h.2)] at hS
    have hni:(M:Int)≤(n:Int):=by omega
    have hnd:decide ((n:Int)<(M:Int))=false:=decide_eq_false (by omega)
    clear hB hv hnM
    go_enter Tryz.func92,Tryz.ntmps92
    go_wp2_with fail
    refine Calls.mono (hp.out _) ?_
    rintro e w3 ⟨rfl,b3⟩
    have A3:=hid (A1.out.keptAll b3)
    have B3:=hid (B1.out.trans (b3.mono B1.out.size))
    clear b3 c0 c4 c5 hW1 A1 B1
    have c5:=A3.out.cell 5
    simp only [List.getElem?_toArray,List.getElem?_cons_zero,List.getElem?_cons_succ] at c5
    go_wp2
    go_region
    all_goals go_wp2
    go_ret2
    exact ⟨n,false,by show Ending.returned (.tuple #[.int .i64 (n:Int),.bool (decide (n<M))])=_;rw [decide_eq_false (by omega)],.inr ⟨rfl,hS.out⟩,B3.out.drew⟩
 ·rw [if_neg h5] at hS
  have h5b:(k == 5)=false:=beq_eq_false_iff_ne.2 h5
  by_cases h6:k=6
  ·subst h6
   rw [if_pos rfl] at hS
   clear hp hV
   go_enter Tryz.func92,Tryz.ntmps92
   go_wp2_with fail
   refine Calls.mono (hf.out W1 (hk1.out.kept B1.out)) ?_
   rintro e w3 ⟨f,rfl,hfs,b3⟩
   have B3:=hid (B1.out.trans (b3.mono B1.out.size))
   clear b3 c0 c4 c5 hW1 A1 B1
   rcases hfs with ⟨rfl,hno⟩ | ⟨i,rfl,hy,hfi⟩
   ·have hno':=hid (fstO_no hno)
    clear hno
    go_wp2
    go_ret2
    exact ⟨-1,false,by rfl,.inr ⟨rfl,by rw [hS.out,hno'.out]⟩,B3.out⟩
   ·have hyes:=hid (fstO_yes hy hfi)
    have h0i:(0:Int)≤(i:Int):=by omega
    have hd:decide ((0:Int)≤(i:Int))=true:=decide_eq_true h0i
    clear hy hfi
    go_wp2
    go_ret2
    exact ⟨i,true,by simp,.inl ⟨rfl,i,rfl,by rw [hS.out,hyes.out]⟩,B3.out⟩
  ·rw [if_neg h6] at hS
   have h6b:(k == 6)=false:=beq_eq_false_iff_ne.2 h6
   clear hp hf hV
   go_enter Tryz.func92,Tryz.ntmps92
   go_wp2
   go_ret2
   exact ⟨0,false,rfl,.inr ⟨rfl,hS.out⟩,B1.out⟩
end Go.Proofs.YtongedjlmohogaaGreatDoor
