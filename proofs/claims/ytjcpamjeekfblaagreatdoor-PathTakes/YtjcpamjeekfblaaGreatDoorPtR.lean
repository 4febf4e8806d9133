import Derived.Test.YtjcpamjeekfblaaGreatDoorPack4
import Derived.Test.YtjcpamjeekfblaaGreatDoorTpG
import Derived.Test.YtjcpamjeekfblaaGreatDoorPack10
namespace Go.Proofs.YtjcpamjeekfblaaGreatDoor
open Go.RowKit Go.Shelf
def fstO (nm:ByteArray):List ByteArray→Option Nat
 | []=>none
 | k :: r=>if k=nm then some 0 else (fstO nm r).map (· + 1)
theorem fstO_no {nm:ByteArray}:∀ {ks:List ByteArray},(∀ j:Nat,ks[j]?≠some nm)→fstO nm ks=none
 | [],_=>rfl
 | k :: r,h=>by
  rw [fstO,if_neg (fun e=>h 0 (by rw [e];rfl)),fstO_no (fun j=>h (j+1))]
  rfl
theorem fstO_yes {nm:ByteArray}:∀ {ks:List ByteArray} {i:Nat},ks[i]? = some nm→(∀ j,j<i→ks[j]?≠some nm)→fstO nm ks=some i
 | [],i,h,_=>by simp at h
 | k :: r,0,h,_=>by
  simp at h
  rw [fstO,if_pos h]
 | k :: r,i+1,h,hn=>by
  simp at h
  rw [fstO,if_neg (fun e=>hn 0 (by omega) (by rw [e];rfl)),fstO_yes h (fun j hj=>hn (j+1) (by omega))]
  rfl
theorem fstO_get {nm:ByteArray}:∀ {ks:List ByteArray} {i:Nat},fstO nm ks=some i→ks[i]? = some nm∧∀ j,j<i→ks[j]?≠some nm
 | [],i,h=>by cases h
 | k :: r,i,h=>by
  rw [fstO] at h
  by_cases e:k=nm
  ·rw [if_pos e] at h
   cases h
   exact ⟨by rw [e];rfl,fun j hj=>by omega⟩
  ·rw [if_neg e] at h
   cases hr:fstO nm r with
   | none=>rw [hr] at h;cases h
   | some q =>
    rw [hr] at h
    obtain rfl:q+1=i:=Option.some.inj h
    obtain ⟨h1,h2⟩:=fstO_get hr
    refine ⟨h1,fun j hj=>?_⟩
    cases j with
    | zero=>simp;exact e
    | succ j=>exact h2 j (by omega)
def stI (t:Vt) (nm:ByteArray):Option Nat :=
 if t.kind=5 then (if plB nm=true∧plN nm nm.size<t.kids.length then some (plN nm nm.size) else none)
 else if t.kind=6 then fstO nm t.keys else none
def StQ (t:Vt) (nm:ByteArray) (w:World) (e:Ending) (w':World):Prop:=∃ (i:Int) (B:Bool),e = .returned (.tuple #[.int .i64 i,.bool B])∧((B=true∧∃ j:Nat,i=(j:Int)∧stI t nm=some j)∨(B=false∧stI t nm=none))∧Below w.heap.size w w'
set_option maxRecDepth 10000 in
set_option maxHeartbeats 4000000 in
theorem step_calls (t:Vt) (nm:ByteArray) (hnm:nm.size≤9223372036854775807) (va:Value) (w:World) (ha:ValAt w t va):Calls Tryz.prog 92 #[va,.string nm] w fun e w'=>StQ t nm w e w':=by
 cases ha with
 | mk k b r t ks vs ko kc vo vc X hw hz hk hr hv =>
 have hz1:=hid hz
 have hk1:=hid hk
 have hS:Hid (stI (.mk k b r t ks vs) nm=if k=5 then (if plB nm=true∧plN nm nm.size<vs.length then some (plN nm nm.size) else none) else if k=6 then fstO nm ks else none):=rfl
 obtain ⟨N,hN⟩:∃ N,Hid (ks.length=N):=⟨_,rfl⟩
 obtain ⟨M,hM⟩:∃ M,Hid (vs.length=M):=⟨_,rfl⟩
 rw [hN.out,hM.out]
 rw [hM.out] at hS
 have hNi:(N:Int)≤9223372036854775807:=by have:=hz1.out.2.2.1;rw [hN.out] at this;unfold capT at this;omega
 have hMi:(M:Int)≤9223372036854775807:=by have:=hz1.out.2.2.2;rw [hM.out] at this;unfold capT at this;omega
 have hf:=hid (fun (w':World) (h:KeysAt w' ko ks)=>indexK_calls ks ko N kc hN (by have:=hz1.out.2.2.1;rw [hN.out] at this;exact this) nm w' (hid h))
 have hp:=hid (fun u:World=>plc_calls nm hnm u)
 clear hk hr hv hz hw
 have A1:Hid (At (w.alloc (.cells #[.int .i64 k,.bool b,.string r,.string t,.slice ko N kc,.slice vo M vc] 59)) w.heap.size #[.int .i64 k,.bool b,.string r,.string t,.slice ko N kc,.slice vo M vc] 59):=At.new w _ _
 have B1:Hid (Below w.heap.size w (w.alloc (.cells #[.int .i64 k,.bool b,.string r,.string t,.slice ko N kc,.slice vo M vc] 59))):=(Below.refl _ w).alloc (Nat.le_refl _) _
 generalize hV:Vt.mk k b r t ks vs=V at hS ⊢
 obtain ⟨W1,hW1⟩:∃ W,w.alloc (.cells #[.int .i64 k,.bool b,.string r,.string t,.slice ko N kc,.slice vo M vc] 59)=W:=⟨_,rfl⟩
 rw [hW1] at A1 B1
 have c0:=A1.out.cell 0
 have c4:=A1.out.cell 4
 have c5:=A1.out.cell 5
 simp only [List.getElem?_toArray,List.getElem?_cons_zero,List.getElem?_cons_succ] at c0 c4 c5
 by_cases h5:k=5
 ·subst h5
  rw [if_pos rfl] at hS
  clear hf hV
  cases hB:plB nm with
  | false =>
   have hv:=plV_no hB
   rw [hB,hv] at hp
   rw [hB,if_neg (fun h=>by cases h.1)] at hS
   clear hB hv
   go_enter Tryz.func92,Tryz.ntmps92
   go_wp2_with fail
   refine Calls.mono (hp.out _) ?_
   rintro e w3 ⟨rfl,b3⟩
   have A3:=hid (A1.out.keptAll b3)
   have B3:=hid (B1.out.trans (b3.mono B1.out.size))
   clear b3 c0 c4 c5 hW1 A1 B1
   have c5:=A3.out.cell 5
   simp only [List.getElem?_toArray,List.getElem?_cons_zero,List.getElem?_cons_succ] at c5
   go_wp2
   go_region
   all_goals go_wp2
   go_ret2
   exact ⟨0,false,rfl,.inr ⟨rfl,hS.out⟩,B3.out.drew⟩
  | true =>
   have hv:=plV_yes hB
   rw [hB,hv] at hp
   rw [hB] at hS
   generalize plN nm nm.size=n at hp hS
   by_cases hnM:n<M
   ·rw [if_pos ⟨rfl,hnM⟩] at hS
    have hni:(n:Int)<(M:Int):=by omega
    have hnd:decide ((n:Int)<(M:Int))=true:=decide_eq_true hni
    clear hB hv
    go_enter Tryz.func92,Tryz.ntmps92
    go_wp2_with fail
    refine Calls.mono (hp.out _) ?_
    rintro e w3 ⟨rfl,b3⟩
    have A3:=hid (A1.out.keptAll b3)
    have B3:=hid (B1.out.trans (b3.mono B1.out.size))
    clear b3 c0 c4 c5 hW1 A1 B1
    have c5:=A3.out.cell 5
    simp only [List.getElem?_toArray,List.getElem?_cons_zero,List.getElem?_cons_succ] at c5
    go_wp2
    go_region
    all_goals go_wp2
    go_ret2
    exact ⟨n,true,by rfl,.inl ⟨rfl,n,rfl,hS.out⟩,B3.out.drew⟩
   ·rw [if_neg (fun h=>hnM h.2)] at hS
    have hni:(M:Int)≤(n:Int):=by omega
    have hnd:decide ((n:Int)<(M:Int))=false:=decide_eq_false (by omega)
    clear hB hv hnM
    go_enter Tryz.func92,Tryz.ntmps92
    go_wp2_with fail
    refine Calls.mono (hp.out _) ?_
    rintro e w3 ⟨rfl,b3⟩
    have A3:=hid (A1.out.keptAll b3)
    have B3:=hid (B1.out.trans (b3.mono B1.out.size))
    clear b3 c0 c4 c5 hW1 A1 B1
    have c5:=A3.out.cell 5
    simp only [List.getElem?_toArray,List.getElem?_cons_zero,List.getElem?_cons_succ] at c5
    go_wp2
    go_region
    all_goals go_wp2
    go_ret2
    exact ⟨n,false,by show Ending.returned (.tuple #[.int .i64 (n:Int),.bool (decide (n<M))])=_;rw [decide_eq_false (by omega)],.inr ⟨rfl,hS.out⟩,B3.out.drew⟩
 ·rw [if_neg h5] at hS
  have h5b:(k == 5)=false:=beq_eq_false_iff_ne.2 h5
  by_cases h6:k=6
  ·subst h6
   rw [if_pos rfl] at hS
   clear hp hV
   go_enter Tryz.func92,Tryz.ntmps92
   go_wp2_with fail
   refine Calls.mono (hf.out W1 (hk1.out.kept B1.out)) ?_
   rintro e w3 ⟨f,rfl,hfs,b3⟩
   have B3:=hid (B1.out.trans (b3.mono B1.out.size))
   clear b3 c0 c4 c5 hW1 A1 B1
   rcases hfs with ⟨rfl,hno⟩ | ⟨i,rfl,hy,hfi⟩
   ·have hno':=hid (fstO_no hno)
    clear hno
    go_wp2
    go_ret2
    exact ⟨-1,false,by rfl,.inr ⟨rfl,by rw [hS.out,hno'.out]⟩,B3.out⟩
   ·have hyes:=hid (fstO_yes hy hfi)
    have h0i:(0:Int)≤(i:Int):=by omega
    have hd:decide ((0:Int)≤(i:Int))=true:=decide_eq_true h0i
    clear hy hfi
    go_wp2
    go_ret2
    exact ⟨i,true,by simp,.inl ⟨rfl,i,rfl,by rw [hS.out,hyes.out]⟩,B3.out⟩
  ·rw [if_neg h6] at hS
   have h6b:(k == 6)=false:=beq_eq_false_iff_ne.2 h6
   clear hp hf hV
   go_enter Tryz.func92,Tryz.ntmps92
   go_wp2
   go_ret2
   exact ⟨0,false,rfl,.inr ⟨rfl,hS.out⟩,B1.out⟩
end Go.Proofs.YtjcpamjeekfblaaGreatDoor
