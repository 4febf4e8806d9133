import Derived.Test.YtjcpamjeekfblaaGreatDoorPack19
import Derived.Test.YtjcpamjeekfblaaGreatDoorRwD
import Derived.WalkSmall
namespace Go.Proofs.YtjcpamjeekfblaaGreatDoor
open Go.RowKit Go.Shelf
theorem KeysG.iter {B:Nat} {W:World} {v:Value} {ks:List ByteArray} (h:KeysG B W v ks) {k:Nat} (hk:k<B) (s:ByteArray) (p:Nat):KeysG B (W.iterAt k s p) v ks:=⟨ownsRow_iterAt h.1 hk s p,h.2⟩
theorem KeysG.mono {B B':Nat} {W:World} {v:Value} {ks:List ByteArray} (h:KeysG B W v ks) (hb:B'≤B):KeysG B' W v ks:=⟨h.1.mono hb,h.2⟩
def CuS (l:List UInt8) (ks:List (List UInt8)) (f q:Nat):Prop:=f≤q∧q≤l.length∧ks.length≤f∧ks++cuL (l.drop f)=cuL l∧∀ j,f≤j→j<q→lk (mkL l) j≠47
theorem CuS.start (l:List UInt8):CuS l [] 0 0:=⟨Nat.le_refl _,Nat.zero_le _,Nat.le_refl _,rfl,fun j h1 h2=>by omega⟩
theorem no_sl {l:List UInt8} {f q:Nat} (h:∀ j,f≤j→j<q→lk (mkL l) j≠47) (hq:q≤l.length):∀ c ∈ (l.drop f).take (q-f),c≠47:=by
 intro c hc e
 obtain ⟨i,hi,he⟩:=List.mem_iff_getElem.1 hc
 have hi2:i<q-f∧f+i<l.length:=by simp at hi;omega
 have h1:l[f+i]? = some c:=by
  have h2:((l.drop f).take (q-f))[i]? = some c:=by rw [List.getElem?_eq_getElem hi,he]
  rw [List.getElem?_take,if_pos hi2.1,List.getElem?_drop] at h2
  exact h2
 have h3:=lk_mkL l (f+i) c h1
 exact h (f+i) (by omega) (by omega) (by rw [h3,e];rfl)
theorem CuS.slash {l:List UInt8} {ks:List (List UInt8)} {f q:Nat} (h:CuS l ks f q) (hq:q<l.length) (hc:lk (mkL l) q=47):CuS l (ks++[(l.drop f).take (q-f)]) (q+1) (q+1):=by
 obtain ⟨h1,h2,h3,h4,h5⟩:=h
 refine ⟨Nat.le_refl _,hq,by simp;omega,?_,fun j a b=>by omega⟩
 obtain ⟨x,hx⟩:∃ x,l[q]? = some x:=⟨_,List.getElem?_eq_getElem hq⟩
 have hx47:x=47:=by
  have:=lk_mkL l q x hx
  rw [hc] at this
  exact UInt8.toNat_inj.1 (by rw [← this];rfl)
 have e1:l.drop f=(l.drop f).take (q-f)++47 :: l.drop (q+1):=by
  have e2:l.drop q=47 :: l.drop (q+1):=by
   rw [List.drop_eq_getElem_cons hq]
   congr 1
   rw [List.getElem?_eq_getElem hq] at hx
   rw [Option.some.inj hx,hx47]
  have e3:=(List.take_append_drop (q-f) (l.drop f)).symm
  rw [List.drop_drop,show f+(q-f)=q by omega,e2] at e3
  exact e3
 rw [← h4,List.append_assoc]
 congr 1
 conv=>rhs;rw [e1]
 rw [cuL_pre _ (no_sl h5 h2) _ _ _ (cuL_sl _),List.append_nil]
 rfl
theorem CuS.other {l:List UInt8} {ks:List (List UInt8)} {f q:Nat} (h:CuS l ks f q) (hq:q<l.length) (hc:lk (mkL l) q≠47):CuS l ks f (q+(Utf8.decode (mkL l) q).2):=by
 obtain ⟨h1,h2,h3,h4,h5⟩:=h
 obtain ⟨d1,d2⟩:=dec_conts (mkL l) q (by rw [mkL_size];exact hq)
 rw [mkL_size] at d1
 refine ⟨by omega,d1,h3,h4,fun j a b=>?_⟩
 rcases Nat.lt_or_ge j q with h6 | h6
 ·exact h5 j a h6
 ·by_cases e:j=q
  ·rw [e];exact hc
  ·have:=d2 j (by omega) b
   omega
theorem CuS.stop {l:List UInt8} {ks:List (List UInt8)} {f:Nat} (h:CuS l ks f l.length):ks++[l.drop f]=cuL l:=by
 obtain ⟨h1,h2,h3,h4,h5⟩:=h
 rw [← h4]
 have h6:=no_sl h5 h2
 rw [List.take_of_length_le (by simp)] at h6
 rw [cuL_self _ h6]
set_option maxRecDepth 10000 in
set_option maxHeartbeats 4000000 in
theorem cut_calls (l:List UInt8) (hl:l.length≤4294967296) (w:World):Calls Tryz.prog 109 #[.string (mkL l)] w fun e w'=>∃ v,e = .returned v∧KeysG w.heap.size w' v ((cuL l).map mkL)∧Below w.heap.size w w':=by
 obtain ⟨m,hm⟩:∃ m,Hid (w.heap.size=m):=⟨_,rfl⟩
 have hz:=mkL_size l
 obtain ⟨s,hs⟩:∃ s,Hid (mkL l=s):=⟨_,rfl⟩
 rw [hs.out] at hz ⊢
 have hsz:(s.size:Int)≤4294967296:=by omega
 have hz':=hid hz
 clear hl hz
 go_enter Tryz.func109,Tryz.ntmps109
 go_wp2
 rw [hm.out]
 go_loopw [3,4] (fun vv ff wr=>∃ (ks:List (List UInt8)) (f q:Nat),ff = .int .i64 (f:Int)∧Hid (CuS l ks f q)∧Hid (wr.heap[m]? = some (.stringIter s q))∧Hid (KeysG (m+1) wr vv (ks.map mkL))∧Hid (Below m w wr)) (fun _ _ wr=>s.size-wr.iterPos m)
 case atStart =>
  refine ⟨[],0,0,rfl,hid (CuS.start l),hid (by rw [← hm.out];exact World.iter_heap w s 0),hid (KeysG.nil _ _),hid ?_⟩
  exact (Below.refl _ w).alloc (by rw [hm.out];exact Nat.le_refl _) _
 case round =>
  obtain ⟨ks,f,q,rfl,hC,hI,hK,hB⟩:=hrel
  obtain ⟨so,cap,rfl⟩:=hK.out.shape
  obtain ⟨c1,c2,c3,-,-⟩:=hC.out
  rw [← hz'.out] at c2
  have hmw:m<wr.heap.size:=(Array.getElem?_eq_some_iff.1 hI.out).1
  have hfq:(f:Int)≤(q:Int):=by omega
  have hqs:(q:Int)≤(s.size:Int):=by omega
  by_cases hq:q<s.size
  ·have hnx:=fun ty=>Lib.run_next_any_at (P:=Tryz.prog) wr m s q ty hI.out hq
   have hI2:=hid (Lib.iterAt_heap wr m s q (q+(Utf8.decode s q).2) hI.out)
   have hB2:=hid (Lib.below_iterAt hB.out (k:=m) (Nat.le_refl _) s (q+(Utf8.decode s q).2))
   have hK2:=hid (hK.out.iter (Nat.lt_succ_self _) s (q+(Utf8.decode s q).2))
   have hdp:=dec_pos s q hq
   by_cases hsl:lk s q=47
   ·have hdec:=dec_low s q hq (by omega)
    rw [hsl] at hdec
    rw [hdec] at hnx hI2 hB2 hK2
    have hC2:=hid (hC.out.slash (by rw [← hz'.out];exact hq) (by rw [hs.out];exact hsl))
    have hsx:s.extract f q=mkL ((l.drop f).take (q-f)):=by rw [← hs.out,mkL_ext]
    obtain ⟨W1,hW1⟩:∃ W1,wr.iterAt m s (q+1)=W1:=⟨_,rfl⟩
    rw [hW1] at hnx hI2 hB2 hK2
    have qz:Below W1.heap.size W1 (W1.alloc (.cells #[.string (s.extract f q)] 9)):=(Below.refl _ _).alloc (Nat.le_refl _) _
    have K3:=hid (hK2.out.kept (SameOn.below qz))
    have hmw1:m<W1.heap.size:=(Array.getElem?_eq_some_iff.1 hI2.out).1
    have I3:=hid ((qz.block m hmw1).trans hI2.out)
    have B3:=hid (hB2.out.trans (qz.mono (Nat.le_of_lt hmw1)))
    have hss:=hid (show (s.extract f q).size≤capT by rw [ByteArray.size_extract];unfold capT;omega)
    have hkl:=hid (show (ks.map mkL).length<1099511627776 by rw [List.length_map];omega)
    have hsx':=hid hsx
    have hst:=hid (show q<s.size from hq)
    have hmw2:=hid (show m+1≤(W1.alloc (.cells #[.string (s.extract f q)] 9)).heap.size by rw [World.size_alloc];omega)
    have hiw:=hid hI.out
    clear hsx hdec hsl hC hI hK hB hB2 hK2 qz hdp
    go_wp2_with (at_builtin;refine wpList_keysR rfl rfl rfl K3.out hss.out ⟨W1.heap.size,0,none⟩ 1 rfl (by simp [Addr.add]) hkl.out hmw2.out ?_;intro v' w' hk1 hg1;have K4:=hid hk1;have I4:=hid ((hg1.block m (by have:=hmw2.out;omega) (fun e=>by have:=(K3.out.blk e.symm).1;omega)).trans I3.out);have B4:=hid (B3.out.grown hg1 (by have:=hmw2.out;omega) (fun b e=>by have:=(K3.out.blk e).1;omega));clear hk1 hg1)
    go_roundw
    case rel=>exact ⟨_,q+1,q+1,by simp,hC2,I4,hid (by rw [List.map_append];rw [hsx'.out] at K4;exact K4.out),B4⟩
    case measure =>
     simp only [World.iterPos,I4.out,hiw.out]
     have:=hst.out
     omega
   ·have hC2:=hid (hC.out.other (by rw [← hz'.out];exact hq) (by rw [hs.out];exact hsl))
    rw [hs.out] at hC2
    obtain ⟨c,hc⟩:∃ c,(Utf8.decode s q).1=c:=⟨_,rfl⟩
    have hcn:c≠47:=by
     by_cases hlo:lk s q<128
     ·rw [dec_low s q hq hlo] at hc;simp at hc;omega
     ·have:=(dec_high s q hq (by omega)).1;omega
    rw [hc] at hnx
    have hcb:((c:Int) == 47)=false:=beq_eq_false_iff_ne.2 (by omega)
    obtain ⟨D,hD⟩:∃ D,(Utf8.decode s q).2=D:=⟨_,rfl⟩
    rw [hD] at hnx hI2 hB2 hK2 hdp hC2
    have hiw:=hid hI.out
    have hst:=hid (show q<s.size from hq)
    clear hsl hC hI hK hB hc hcn
    go_wp2
    go_roundw
    case rel=>exact ⟨ks,f,q+D,rfl,hC2,hI2,hK2,hB2⟩
    case measure =>
     simp only [World.iterPos,hI2.out,hiw.out]
     have:=hst.out
     omega
  ·have hqe:q=s.size:=by omega
   have hnx:=fun ty=>Lib.run_next_end_at (P:=Tryz.prog) wr m s q ty hI.out hq
   have hst:=hid (show ks++[l.drop f]=cuL l by have:=hC.out;rw [hqe,hz'.out] at this;exact this.stop)
   have hsx:s.extract f s.size=mkL (l.drop f):=by
    rw [← hs.out,mkL_ext,mkL_size,List.take_of_length_le (by simp)]
   have qz:Below wr.heap.size wr (wr.alloc (.cells #[.string (s.extract f s.size)] 9)):=(Below.refl _ _).alloc (Nat.le_refl _) _
   have K3:=hid (hK.out.kept (SameOn.below qz))
   have B3:=hid (hB.out.trans (qz.mono (Nat.le_of_lt hmw)))
   have hss:=hid (show (s.extract f s.size).size≤capT by rw [ByteArray.size_extract];unfold capT;omega)
   have hkl:=hid (show (ks.map mkL).length<1099511627776 by rw [List.length_map];omega)
   have hsx':=hid hsx
   have hfs:(f:Int)≤(s.size:Int):=by omega
   have hmw2:=hid (show m+1≤(wr.alloc (.cells #[.string (s.extract f s.size)] 9)).heap.size by rw [World.size_alloc];omega)
   clear hsx hC hI hK hB qz hqe hfq hqs
   go_wp2_with (at_builtin;refine wpList_keysR rfl rfl rfl K3.out hss.out ⟨wr.heap.size,0,none⟩ 1 rfl (by simp [Addr.add]) hkl.out hmw2.out ?_;intro v' w' hk1 hg1;have K4:=hid hk1;have B4:=hid (B3.out.grown hg1 (by have:=hmw2.out;omega) (fun b e=>by have:=(K3.out.blk e).1;omega));clear hk1 hg1)
   go_ret
   refine ⟨_,rfl,?_,by rw [hm.out];exact B4.out⟩
   rw [hm.out,← hst.out,List.map_append]
   rw [hsx'.out] at K4
   exact K4.out.mono (Nat.le_succ _)
end Go.Proofs.YtjcpamjeekfblaaGreatDoor
