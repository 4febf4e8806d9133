import Derived.Test.YtongedjlmohogaaGreatDoorPack15
import Derived.Test.YtongedjlmohogaaGreatDoorPack8
import Derived.Test.YtongedjlmohogaaGreatDoorPack18
import Derived.Test.YtongedjlmohogaaGreatDoorPack19
namespace Go.Proofs.YtongedjlmohogaaGreatDoor
open Go.RowKit Go.Shelf
def mbT (s:Stp) (ks:List ByteArray) (vs:List Vt):Nat→List (List UInt8 × Vt)
 | 0=>[]
 | i+1=>mbT s ks vs i++(match ks[i]?,vs[i]? with
  | some k,some v=>if (tkS s k 0 true && !((ks.take i).any (fun x=>decide (x=k))))=true then [(k.data.toList,v)] else []
  | _,_=>[])
def elT (s:Stp) (vs:List Vt):Nat→List (List UInt8 × Vt)
 | 0=>[]
 | i+1=>elT s vs i++(match vs[i]? with
  | some v=>if tkS s ⟨#[]⟩ (i:Int) false=true then [(Lib.itoa (i:Int),v)] else []
  | none=>[])
def tkL (s:Stp) (t:Vt):List (List UInt8 × Vt):=if t.kind=6 then mbT s t.keys t.kids t.keys.length else elT s t.kids t.kids.length
def fdP:List Stp→Vt→List (List UInt8)→List (List UInt8 × Vt)
 | [],t,way=>[(wrL way,t)]
 | s :: ss,t,way=>(tkL s t).flatMap (fun x=>fdP ss x.2 (way++[x.1]))
theorem mbT_yes {s:Stp} {ks:List ByteArray} {vs:List Vt} {i:Nat} {k:ByteArray} {v:Vt} (hk:ks[i]? = some k) (hv:vs[i]? = some v) (ht:tkS s k 0 true=true) (hn:∀ j,j<i→ks[j]?≠some k):mbT s ks vs (i+1)=mbT s ks vs i++[(k.data.toList,v)]:=by
 have ha:((ks.take i).any (fun x=>decide (x=k)))=false:=by
  rw [List.any_eq_false]
  intro x hx h
  have:=of_decide_eq_true h
  subst this
  obtain ⟨j,hj⟩:=List.mem_iff_getElem?.1 hx
  rw [List.getElem?_take] at hj
  split at hj
  ·rename_i h1;exact hn j h1 hj
  ·cases hj
 simp only [mbT,hk,hv,ht,ha,Bool.not_false,Bool.and_self,if_true]
theorem mbT_no {s:Stp} {ks:List ByteArray} {vs:List Vt} {i:Nat} {k:ByteArray} {v:Vt} (hk:ks[i]? = some k) (hv:vs[i]? = some v) (ht:tkS s k 0 true=false):mbT s ks vs (i+1)=mbT s ks vs i:=by
 simp [mbT,hk,hv,ht]
theorem mbT_twice {s:Stp} {ks:List ByteArray} {vs:List Vt} {i j:Nat} {k:ByteArray} {v:Vt} (hk:ks[i]? = some k) (hv:vs[i]? = some v) (hj:j<i) (hjk:ks[j]? = some k):mbT s ks vs (i+1)=mbT s ks vs i:=by
 have ha:((ks.take i).any (fun x=>decide (x=k)))=true:=by
  rw [List.any_eq_true]
  refine ⟨k,List.mem_iff_getElem?.2 ⟨j,by rw [List.getElem?_take,if_pos hj];exact hjk⟩,by simp⟩
 simp only [mbT,hk,hv,ha,Bool.not_true,Bool.and_false,Bool.false_eq_true,if_false,List.append_nil]
theorem elT_yes {s:Stp} {vs:List Vt} {i:Nat} {v:Vt} (hv:vs[i]? = some v) (ht:tkS s ⟨#[]⟩ (i:Int) false=true):elT s vs (i+1)=elT s vs i++[(Lib.itoa (i:Int),v)]:=by
 simp only [elT,hv,ht,if_true]
theorem elT_no {s:Stp} {vs:List Vt} {i:Nat} {v:Vt} (hv:vs[i]? = some v) (ht:tkS s ⟨#[]⟩ (i:Int) false=false):elT s vs (i+1)=elT s vs i:=by
 simp [elT,hv,ht]
theorem mbT_pre (s:Stp) (ks:List ByteArray) (vs:List Vt):∀ (m i:Nat),i≤m→mbT s ks vs i <+: mbT s ks vs m
 | 0,i,h=>by
  obtain rfl:i=0:=by omega
  exact List.prefix_refl _
 | m+1,i,h=>by
  by_cases e:i=m+1
  ·subst e;exact List.prefix_refl _
  ·exact (mbT_pre s ks vs m i (by omega)).trans (by rw [mbT];exact List.prefix_append _ _)
theorem elT_pre (s:Stp) (vs:List Vt):∀ (m i:Nat),i≤m→elT s vs i <+: elT s vs m
 | 0,i,h=>by
  obtain rfl:i=0:=by omega
  exact List.prefix_refl _
 | m+1,i,h=>by
  by_cases e:i=m+1
  ·subst e;exact List.prefix_refl _
  ·exact (elT_pre s vs m i (by omega)).trans (by rw [elT];exact List.prefix_append _ _)
theorem pre_get {α:Type} {a b:List α} {x:α} (h:a++[x] <+: b):b[a.length]? = some x:=by
 obtain ⟨t,rfl⟩:=h
 simp
theorem mbT_mem (s:Stp) (ks:List ByteArray) (vs:List Vt):∀ (n:Nat) (x:List UInt8 × Vt),x ∈ mbT s ks vs n→∃ i k,i<n∧ks[i]? = some k∧x.1=k.data.toList∧vs[i]? = some x.2
 | 0,x,h=>by simp [mbT] at h
 | n+1,x,h=>by
  rw [mbT,List.mem_append] at h
  rcases h with h | h
  ·obtain ⟨i,k,h1,h2⟩:=mbT_mem s ks vs n x h
   exact ⟨i,k,by omega,h2⟩
  ·split at h
   ·rename_i k v hk hv
    split at h
    ·simp at h;subst h;exact ⟨n,k,by omega,hk,rfl,hv⟩
    ·simp at h
   ·simp at h
theorem elT_mem (s:Stp) (vs:List Vt):∀ (n:Nat) (x:List UInt8 × Vt),x ∈ elT s vs n→∃ i,i<n∧x.1=Lib.itoa (i:Int)∧vs[i]? = some x.2
 | 0,x,h=>by simp [elT] at h
 | n+1,x,h=>by
  rw [elT,List.mem_append] at h
  rcases h with h | h
  ·obtain ⟨i,h1,h2⟩:=elT_mem s vs n x h
   exact ⟨i,by omega,h2⟩
  ·split at h
   ·rename_i v hv
    split at h
    ·simp at h;subst h;exact ⟨n,by omega,rfl,hv⟩
    ·simp at h
   ·simp at h
theorem tkL_mem {s:Stp} {t:Vt} {x:List UInt8 × Vt} (h:x ∈ tkL s t):x.2 ∈ t.kids:=by
 unfold tkL at h
 split at h
 ·obtain ⟨i,k,-,-,-,h1⟩:=mbT_mem _ _ _ _ _ h
  exact List.mem_of_getElem? h1
 ·obtain ⟨i,-,-,h1⟩:=elT_mem _ _ _ _ h
  exact List.mem_of_getElem? h1
end Go.Proofs.YtongedjlmohogaaGreatDoor
