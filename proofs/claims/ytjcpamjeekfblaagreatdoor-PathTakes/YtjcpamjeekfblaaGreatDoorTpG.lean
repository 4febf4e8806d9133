import Derived.Test.YtjcpamjeekfblaaGreatDoorPack11
namespace Go.Proofs.YtjcpamjeekfblaaGreatDoor
open Go.RowKit Go.Shelf
set_option maxRecDepth 10000 in
set_option maxHeartbeats 4000000 in
theorem indexK_calls (ks:List ByteArray) (ko:Option Addr) (N kc:Nat) (hN:Hid (ks.length=N)) (hNc:N≤capT) (nm:ByteArray) (w:World) (hk:Hid (KeysAt w ko ks)) :
  Calls Tryz.prog 111 #[.slice ko N kc,.string nm] w fun e w'=>∃ f:Int,e = .returned (.int .i64 f)∧IsFst ks nm f∧Below w.heap.size w w':=by
 have hNi:(N:Int)≤9223372036854775807:=by unfold capT at hNc;omega
 clear hNc
 go_enter Tryz.func111,Tryz.ntmps111
 go_wp2
 go_loopw [8] (fun ii wr=>∃ i:Nat,i≤N∧ii = .int .i64 (i:Int)∧Hid (∀ j,j<i→ks[j]?≠some nm)∧Hid (Below w.heap.size w wr)) (fun ii _=>N-(intOf ii).toNat)
 case atStart=>exact ⟨0,Nat.zero_le _,rfl,hid (fun j hj=>by omega),hid (Below.refl _ _)⟩
 case round =>
  obtain ⟨i,hi,rfl,hsm,hb⟩:=hrel
  by_cases hlt:i<N
  ·have hii:(i:Int)<(N:Int):=by omega
   obtain ⟨p,hp⟩:∃ p,Hid (ks[i]? = some p):=⟨_,List.getElem?_eq_getElem (by rw [hN.out];exact hlt)⟩
   obtain ⟨-,g,o,rfl,hg,s1⟩:=(hk.out.kept hb.out) i p hp.out
   have ad1:(⟨g,o,none⟩:Addr).add i=⟨g,o+i,none⟩:=by by_cases h:i=0 <;> simp [Addr.add,h]
   by_cases hpq:nm=p
   ·subst hpq
    have ep2:(nm.toList == nm.toList)=true:=by simp
    go_wp2
    go_ret
    exact ⟨(i:Int),rfl,.inr ⟨i,rfl,hp.out,hsm.out⟩,hb.out⟩
   ·have ep2:(nm.toList != p.toList)=true:=by rw [text_beq,decide_eq_false hpq];rfl
    have ep3:(nm.toList == p.toList)=false:=by rw [bne] at ep2;simpa using ep2
    go_wp2
    go_roundw
    case rel=>exact ⟨i+1,by omega,by simp,hid (fun j hj=>by
     by_cases e:j=i
     ·subst e;rw [hp.out];intro e;injection e with e;exact hpq e.symm
     ·exact hsm.out j (by omega)),hb⟩
    case measure=>simp [intOf];omega
  ·obtain rfl:i=N:=by omega
   go_wp2
   go_ret
   refine ⟨-1,rfl,.inl ⟨rfl,fun j=>?_⟩,hb.out⟩
   by_cases hj:j<i
   ·exact hsm.out j hj
   ·rw [List.getElem?_eq_none (by rw [hN.out];omega)]
    simp
theorem vt0_on (S:Nat→Prop) (w:World):ValOn S w vt0 (.agg #[.int .i64 0,.bool false,.string ⟨#[]⟩,.string ⟨#[]⟩,.slice none 0 0,.slice none 0 0]) :=
 .mk 0 false ⟨#[]⟩ ⟨#[]⟩ [] [] none 0 none 0 (fun _=>#[]) rfl ⟨Nat.zero_le _,Nat.zero_le _,Nat.zero_le _,Nat.zero_le _⟩ (fun i s h=>by simp at h) (fun i h=>by simp at h) (fun i u h=>by simp at h)
end Go.Proofs.YtjcpamjeekfblaaGreatDoor
