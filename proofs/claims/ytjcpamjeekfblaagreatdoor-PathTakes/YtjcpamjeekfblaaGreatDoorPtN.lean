import Derived.Test.YtjcpamjeekfblaaGreatDoorPtS
import Derived.Test.YtjcpamjeekfblaaGreatDoorTrJA
import Derived.Test.YtjcpamjeekfblaaGreatDoorDecCmp
import Derived.Test.YtjcpamjeekfblaaGreatDoorPack3
import Derived.Deep.MidRow
namespace Go.Proofs.YtjcpamjeekfblaaGreatDoor
open Go.RowKit Go.Shelf
theorem wf_parts {k:Int} {b:Bool} {r t:ByteArray} {ks:List ByteArray} {vs:List Vt} {l:Int} (h:wfV (.mk k b r t ks vs) l=true):plainV (.mk k b r t ks vs)=true∧((k=5∨k=6)→l≠0)∧wfL vs (l-1)=true:=by
 unfold wfV at h
 rw [Bool.and_eq_true,Bool.and_eq_true] at h
 refine ⟨h.1,fun hk e=>?_,h.2.2⟩
 have:=h.2.1
 rw [decide_eq_true hk,decide_eq_true e] at this
 cases this
theorem wf_make {k:Int} {b:Bool} {r t:ByteArray} {ks:List ByteArray} {vs:List Vt} {l:Int} (h1:plainV (.mk k b r t ks vs)=true) (h2:(k=5∨k=6)→l≠0) (h3:wfL vs (l-1)=true):wfV (.mk k b r t ks vs) l=true:=by
 unfold wfV
 rw [Bool.and_eq_true,Bool.and_eq_true]
 refine ⟨h1,?_,h3⟩
 by_cases hk:k=5∨k=6
 ·rw [decide_eq_false (h2 hk),Bool.and_false]
  rfl
 ·rw [decide_eq_false hk]
  rfl
theorem plain_leaf {k:Int} {b:Bool} {r t:ByteArray} {ks:List ByteArray} {vs:List Vt} (h:plainV (.mk k b r t ks vs)=true) (hk:¬ (k=5∨k=6)):vs=[]:=by
 have h5:k≠5:=fun e=>hk (.inl e)
 have h6:k≠6:=fun e=>hk (.inr e)
 rw [plainV.eq_def] at h
 simp only [] at h
 by_cases h1:k=1
 ·simp [h1] at h;exact h.2.1
 ·by_cases h2:k=2
  ·simp [h2] at h;exact h.2.1
  ·by_cases h3:k=3
   ·simp [h3] at h;exact h.2.1
   ·by_cases h4:k=4
    ·simp [h4] at h;exact h.2.1
    ·simp [h1,h2,h3,h4,h5,h6] at h
mutual
theorem wf_up:∀ (t:Vt) (l m:Int),0≤l→l≤m→wfV t l=true→wfV t m=true
 | .mk k b r t ks vs,l,m,h0,hm,h=>by
  obtain ⟨h1,h2,h3⟩:=wf_parts h
  by_cases hk:k=5∨k=6
  ·have hl:=h2 hk
   exact wf_make h1 (fun _=>by omega) (wfL_up vs (l-1) (m-1) (by omega) (by omega) h3)
  ·have hv:=plain_leaf h1 hk
   refine wf_make h1 (fun e=>absurd e hk) ?_
   rw [hv]
   unfold wfL
   rfl
theorem wfL_up:∀ (vs:List Vt) (l m:Int),0≤l→l≤m→wfL vs l=true→wfL vs m=true
 | [],l,m,_,_,_=>by unfold wfL;rfl
 | v :: vs,l,m,h0,hm,h=>by
  unfold wfL at h ⊢
  rw [Bool.and_eq_true] at h ⊢
  exact ⟨wf_up v l m h0 hm h.1,wfL_up vs l m h0 hm h.2⟩
end
end Go.Proofs.YtjcpamjeekfblaaGreatDoor
