import Derived.Test.YtjcpamjeekfblaaGreatDoorPtG
import Derived.Laws.Concat
namespace Go.Proofs.YtjcpamjeekfblaaGreatDoor
open Go.RowKit Go.Shelf
def RfS (l:List UInt8) (out:List (List UInt8)) (q:Nat):Prop:=q≤l.length∧rfL out (l.drop q)=ptrL l∧out.length≤q∧(0<q→out≠[])∧∀ a ∈ out,a.length≤q
theorem RfS.start {l:List UInt8} (h:∀ c ∈ l.head?,c=47):RfS l [] 0:=⟨Nat.zero_le _,rfL_ptr l h,Nat.le_refl _,fun h=>by omega,fun a h=>by simp at h⟩
theorem drop_at {l:List UInt8} {q:Nat} {c:UInt8} (h:l[q]? = some c):l.drop q=c :: l.drop (q+1):=by
 obtain ⟨h1,h2⟩:=List.getElem?_eq_some_iff.1 h
 rw [List.drop_eq_getElem_cons h1,h2]
theorem RfS.sl {l:List UInt8} {out:List (List UInt8)} {q:Nat} (h:RfS l out q) (hc:l[q]? = some 47):RfS l (out++[[]]) (q+1):=by
 obtain ⟨h1,h2,h3,h4,h5⟩:=h
 have hq:=(List.getElem?_eq_some_iff.1 hc).1
 rw [drop_at hc,rfL_sl] at h2
 refine ⟨hq,h2,by simp;omega,fun _=>by simp,fun a ha=>?_⟩
 simp at ha
 rcases ha with ha | rfl
 ·have:=h5 a ha;omega
 ·simp
theorem RfS.last {l:List UInt8} {out:List (List UInt8)} {q:Nat} (h:RfS l out q) (hh:∀ c ∈ l.head?,c=47) {c:UInt8} (hc:l[q]? = some c) (hc47:c≠47):∃ o a,out=o++[a]:=by
 obtain ⟨h1,h2,h3,h4,h5⟩:=h
 have hq0:0<q:=by
  rcases Nat.eq_zero_or_pos q with rfl | h
  ·exfalso
   cases l with
   | nil=>simp at hc
   | cons d t =>
    simp at hc
    exact hc47 (by rw [← hc];exact hh d rfl)
  ·exact h
 have:=h4 hq0
 exact ⟨out.dropLast,out.getLast this,(List.dropLast_concat_getLast this).symm⟩
theorem RfS.plain {l:List UInt8} {o:List (List UInt8)} {a:List UInt8} {q:Nat} (h:RfS l (o++[a]) q) {c:UInt8} (hc:l[q]? = some c) (h1:c≠47) (h2:c≠126):RfS l (o++[a++[c]]) (q+1):=by
 obtain ⟨g1,g2,g3,g4,g5⟩:=h
 have hq:=(List.getElem?_eq_some_iff.1 hc).1
 rw [drop_at hc,rfL_plain h1 h2,addN_on] at g2
 refine ⟨hq,g2,by simp at g3 ⊢;omega,fun _=>by simp,fun b hb=>?_⟩
 simp at hb
 rcases hb with hb | rfl
 ·have:=g5 b (by simp [hb]);omega
 ·have:=g5 a (by simp);simp;omega
theorem RfS.bad {l:List UInt8} {out:List (List UInt8)} {q:Nat} (h:RfS l out q) (hc:l[q]? = some 126) (hd:q+1=l.length∨∃ d,l[q+1]? = some d∧d≠48∧d≠49):ptrL l=none:=by
 obtain ⟨-,g2,-⟩:=h
 rw [drop_at hc] at g2
 rcases hd with hd | ⟨d,hd,h1,h2⟩
 ·rw [List.drop_eq_nil_of_le (by omega),rfL_none] at g2
  exact g2.symm
 ·rw [drop_at hd,rfL_til,if_neg h1,if_neg h2] at g2
  exact g2.symm
theorem RfS.stop {l:List UInt8} {out:List (List UInt8)} (h:RfS l out l.length):ptrL l=some out:=by
 have:=h.2.1
 rw [List.drop_eq_nil_of_le (Nat.le_refl _)] at this
 rw [← this]
 rfl
end Go.Proofs.YtjcpamjeekfblaaGreatDoor
