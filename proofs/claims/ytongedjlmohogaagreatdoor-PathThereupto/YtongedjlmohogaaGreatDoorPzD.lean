import Derived.Test.YtongedjlmohogaaGreatDoorPzC
import Derived.Test.YtongedjlmohogaaGreatDoorPack19
namespace Go.Proofs.YtongedjlmohogaaGreatDoor
open Go.ChangeShapes Go.WideShapes Go.ChangeAt Go.RowKit
set_option maxRecDepth 100000
def blkSt:List Stp→Nat
 | []=>0
 | s :: r=>s.name.size+4+blkSt r
theorem blkSt_snoc (s:Stp):∀ l:List Stp,blkSt (l++[s])=blkSt l+(s.name.size+4)
 | []=>by simp [blkSt]
 | a :: l=>by rw [List.cons_append,blkSt,blkSt_snoc s l,blkSt];omega
theorem blkSt_get {l:List Stp} {i:Nat} {s:Stp} (h:l[i]? = some s):s.name.size+4≤blkSt l:=by
 induction l generalizing i with
 | nil=>simp at h
 | cons a l ih =>
  cases i with
  | zero=>simp at h;subst h;unfold blkSt;omega
  | succ i=>have:=ih (by simpa using h);unfold blkSt;omega
theorem blkSt_mem {l:List Stp} {s:Stp} (h:s ∈ l):s.name.size+4≤blkSt l:=by
 obtain ⟨i,hi,e⟩:=List.mem_iff_getElem.1 h
 exact blkSt_get (i:=i) (by rw [List.getElem?_eq_getElem hi,e])
theorem blkSt_len (l:List Stp):l.length*4≤blkSt l:=by
 induction l with
 | nil=>exact Nat.zero_le _
 | cons a l ih=>rw [List.length_cons];unfold blkSt;omega
theorem wf64 {x:Int} (h:(Lit.int .i64 x).wf=true):-9223372036854775808≤x∧x≤9223372036854775807:=by
 have:=wf_i64 h
 omega
def plcI (ss:List Stp):Prop:=∀ (i:Nat) (s:Stp),ss[i]? = some s→(-9223372036854775808≤s.kind∧s.kind≤9223372036854775807)∧(-9223372036854775808≤s.place∧s.place≤9223372036854775807)
section
variable {H:Type} {enc:TypeId × Value→H} {w:World} {base:Nat} {spare:Nat→Bool} {held:Bool}
theorem open_steps {r:Reach} {b0:Nat} {v:Value} {d:DataW H} {ps:List MemPlace} (hval:Value.okWide Tryz.prog w r b0 22 v) (hd:DataW.Trod enc Tryz.prog w base spare held 22 v d ps) (hwt:Rows.uptoBulk d≤1048576) :
  ∃ (ao:Option Addr) (cap:Nat) (ss:List Stp),v = .slice ao ss.length cap∧blkSt ss≤1048576∧plcI ss∧StepsAt w ao ss:=by
 obtain ⟨ao,len,cap,rfl⟩:=okWide_slice Tryz.underlying22 hval
 obtain ⟨fuel,hf⟩:=hd
 rcases DataW.trod_slice Tryz.underlying22 hf with ⟨hcs,_⟩ | ⟨a,len',cap',elems,rest,n,_,hcs,hx,hb,hl,hm,hlen,hel,-,-⟩
 ·simp [Value.cells] at hcs
  obtain ⟨rfl,rfl,rfl⟩:=hcs
  exact ⟨none,0,[],rfl,Nat.zero_le _,fun i s h=>by simp at h,fun i s h=>by simp at h⟩
 ·simp [Value.cells] at hcs
  obtain ⟨rfl,rfl,rfl⟩:=hcs
  have hx':=congrArg Prod.fst hx
  dsimp only at hx'
  rw [hx'] at hwt
  simp only [Rows.uptoBulk] at hwt
  have each:∀ i (hi:i<elems.length),∃ s:Stp,w.cells? base (a.add (i*3)) 3=some [.int .i64 s.kind,.string s.name,.int .i64 s.place]∧Rows.uptoBulk (elems[i]'hi).1=s.name.size+4∧((-9223372036854775808≤s.kind∧s.kind≤9223372036854775807)∧(-9223372036854775808≤s.place∧s.place≤9223372036854775807)):=by
   intro i hi
   have h:=hel i (by omega)
   rw [cellsSp,List.getElem?_eq_getElem hi,Option.bind_eq_some_iff] at h
   obtain ⟨cs,h1,h2⟩:=h
   obtain ⟨c0,c1,c2,rfl⟩:∃ c0 c1 c2,cs=[c0,c1,c2]:=by
    have:=(World.cells?_some h1).2.1
    match cs,this with
    | [a,b,c],_=>exact ⟨a,b,c,rfl⟩
   obtain ⟨k,nm,p,he,⟨hw0,hw2⟩,hy⟩:=trod_step h2
   refine ⟨⟨k,nm,p⟩,by rw [h1,he],?_,wf64 hw0,wf64 hw2⟩
   rw [hy]
   simp only [Rows.uptoBulk,Rows.uptoBulkAll,Array.length_toList]
   have:nm.data.size=nm.size:=rfl
   omega
  have key:∀ k,k≤elems.length→∃ L:List Stp,L.length=k∧blkSt L=Rows.uptoBulkAll ((elems.take k).map (·.1))∧∀ (i:Nat) (s:Stp),L[i]? = some s→w.cells? base (a.add (i*3)) 3=some [.int .i64 s.kind,.string s.name,.int .i64 s.place]∧((-9223372036854775808≤s.kind∧s.kind≤9223372036854775807)∧(-9223372036854775808≤s.place∧s.place≤9223372036854775807)):=by
   intro k
   induction k with
   | zero=>exact fun _=>⟨[],rfl,by simp [blkSt,Rows.uptoBulkAll],fun i o h=>by simp at h⟩
   | succ k ih =>
    intro hk
    obtain ⟨L,hL,hbl,hall⟩:=ih (by omega)
    obtain ⟨s,hs,hbs,hpl⟩:=each k (by omega)
    refine ⟨L++[s],by simp [hL],?_,fun i o' h=>?_⟩
    ·rw [blkSt_snoc,hbl,List.take_add_one,List.getElem?_eq_getElem (by omega),Option.toList_some,List.map_append,List.map_cons,List.map_nil,bulk_snoc,hbs]
    ·by_cases hi:i<k
     ·rw [List.getElem?_append_left (by omega)] at h
      exact hall i o' h
     ·have hi2:=(List.getElem?_eq_some_iff.1 h).1
      rw [List.length_append,List.length_cons,List.length_nil] at hi2
      obtain rfl:i=k:=by omega
      rw [List.getElem?_append_right (by omega),hL] at h
      simp at h
      subst h
      exact ⟨hs,hpl⟩
  obtain ⟨L,hL,hbl,hall⟩:=key elems.length (Nat.le_refl _)
  rw [List.take_length] at hbl
  refine ⟨some a,cap,L,by rw [hL,hlen],by omega,fun i s hi=>(hall i s hi).2,fun i s hi=>?_⟩
  have hsz:=blkSt_get hi
  have hc:=World.cells?_some (hall i s hi).1
  obtain ⟨b,off,spot⟩:=a
  have hspot:spot=none:=by
   have hi2:=(List.getElem?_eq_some_iff.1 hi).1
   obtain ⟨o0,ho0⟩:∃ o0,L[0]? = some o0:=⟨_,List.getElem?_eq_getElem (by omega)⟩
   have:=World.cell?_spot ((World.cells?_some (hall 0 o0 ho0).1).2.2 0 (by decide))
   simpa [Addr.add] using this
  subst hspot
  have e:∀ j,((⟨b,off,none⟩:Addr).add (i*3)).add j=⟨b,off+i*3+j,none⟩:=by
   intro j
   by_cases h:i*3=0 <;> by_cases h':j=0 <;> simp [Addr.add,h,h']
  have hcell:∀ j,j<3→w.cell? ⟨b,off+i*3+j,none⟩=([.int .i64 s.kind,.string s.name,.int .i64 s.place]:List Value)[j]?:=fun j hj=>by
   have h2:=hc.2.2 j hj
   rw [e] at h2
   exact h2
  refine ⟨by unfold capT;omega,b,off,rfl,cell_ltT (hcell 0 (by decide)),fun j y hj=>?_⟩
  have hj3:j<3:=by have:=(List.getElem?_eq_some_iff.1 hj).1;simpa using this
  rw [hcell j hj3]
  exact hj
end
end Go.Proofs.YtongedjlmohogaaGreatDoor
