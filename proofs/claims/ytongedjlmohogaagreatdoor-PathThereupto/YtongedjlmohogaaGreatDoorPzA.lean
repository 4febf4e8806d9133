import Derived.Test.YtongedjlmohogaaGreatDoorPack22
namespace Go.Proofs.YtongedjlmohogaaGreatDoor
open Go.RowKit Go.Shelf
def pthW:ByteArray:=⟨#[36,46,97,91,49,93,46,42,91,34,99,32,100,34,93]⟩
def stpW:List Stp:=[⟨1,⟨#[97]⟩,0⟩,⟨2,⟨#[]⟩,1⟩,⟨3,⟨#[]⟩,0⟩,⟨1,⟨#[99,32,100]⟩,0⟩]
def cdW:ByteArray:=⟨#[34,99,32,100,34]⟩
theorem rdW1:IsRead pthW 1 (some ⟨1,⟨#[97]⟩,0⟩) 3:=by
 refine .inl ⟨by decide +kernel,1,⟨by decide +kernel,?_,fun _=>by decide +kernel⟩,?_,by decide +kernel⟩
 ·intro j hj
  obtain rfl:j=0:=by omega
  decide +kernel
 ·unfold bpF
  rw [if_pos (by decide),show pthW.extract (1+1) (1+1+1)=⟨#[97]⟩ by decide +kernel]
theorem rdW2:IsRead pthW 3 (some ⟨2,⟨#[]⟩,1⟩) 6:=by
 refine .inr (.inl ⟨by decide +kernel,_,5,.inr (.inr ⟨by decide +kernel,by decide +kernel,5,⟨by decide,by decide,?_,fun _=>by decide +kernel⟩,rfl,rfl⟩),.inr ⟨by decide +kernel,?_,?_,rfl⟩⟩)
 ·intro j h1 h2
  obtain rfl:j=5:=by omega
  decide +kernel
 ·unfold nmF
  rw [if_pos (by decide)]
  simp
 ·unfold nmF
  rw [if_pos (by decide),show plV (pthW.extract (3+1) 5)=1 by decide +kernel]
theorem rdW3:IsRead pthW 6 (some ⟨3,⟨#[]⟩,0⟩) 8:=by
 refine .inl ⟨by decide +kernel,0,⟨by decide +kernel,fun j hj=>by omega,fun _=>by decide +kernel⟩,?_,by decide +kernel⟩
 unfold bpF starF
 rw [if_neg (by decide),if_pos (by decide +kernel)]
theorem chkCd:IsChk cdW 1 1 5 0:=chk_validT (s:=cdW) _ (by decide) (by decide) (run_eqT (by decide +kernel)) (by decide +kernel) (by decide +kernel)
theorem parCd:IsPar cdW 1 (.mk 4 false ⟨#[]⟩ ⟨#[99,32,100]⟩ [] []) :=
 .inl ⟨rfl,0,5,skip_of (by decide) (by decide) (by decide) (by decide +kernel),.text 0 5 _ ⟨by decide +kernel,4,.step 1 4 (by decide) (by decide +kernel) (by decide +kernel) (.step 2 4 (by decide) (by decide +kernel) (by decide +kernel) (.step 3 4 (by decide) (by decide +kernel) (by decide +kernel) (.stop 4 (by decide) (by decide +kernel)))),rfl,by decide +kernel⟩⟩
theorem endW:QEnd pthW 9 14:=⟨13,0,.inr ⟨10,rfl,by decide,.inl ⟨3,by decide,by decide +kernel,by decide +kernel,by decide +kernel,rfl,rfl⟩⟩,.inl ⟨rfl,rfl⟩⟩
theorem rdW4:IsRead pthW 8 (some ⟨1,⟨#[99,32,100]⟩,0⟩) 15:=by
 refine .inr (.inl ⟨by decide +kernel,_,14,.inl ⟨by decide +kernel,14,endW,1,5,0,(.mk 4 false ⟨#[]⟩ ⟨#[99,32,100]⟩ [] []),?_,?_,.inl ⟨rfl,rfl,rfl⟩⟩,.inr ⟨by decide +kernel,by simp,rfl,rfl⟩⟩)
 ·rw [show pthW.extract (8+1) 14=cdW by decide +kernel]
  exact chkCd
 ·rw [show pthW.extract (8+1) 14=cdW by decide +kernel]
  exact parCd
theorem rdsW:Rds pthW 15 stpW :=
 .snoc (p:=[_,_,_]) (.snoc (p:=[_,_]) (.snoc (p:=[_]) (.snoc (p:=[]) .nil (by decide) rdW1) (by decide) rdW2) (by decide) rdW3) (by decide) rdW4
theorem ppW:IsPp pthW stpW 0 0:=.inr ⟨⟨by decide,by decide +kernel⟩,.inl ⟨rdsW,rfl,rfl⟩⟩
def pthF:ByteArray:=⟨#[36,46,97,32,98]⟩
theorem rdF1:IsRead pthF 1 (some ⟨1,⟨#[97]⟩,0⟩) 3:=by
 refine .inl ⟨by decide +kernel,1,⟨by decide +kernel,?_,fun _=>by decide +kernel⟩,?_,by decide +kernel⟩
 ·intro j hj
  obtain rfl:j=0:=by omega
  decide +kernel
 ·unfold bpF
  rw [if_pos (by decide),show pthF.extract (1+1) (1+1+1)=⟨#[97]⟩ by decide +kernel]
theorem ppF:IsPp pthF [] 220 3:=.inr ⟨⟨by decide,by decide +kernel⟩,.inr ⟨3,_,.snoc .nil (by decide) rdF1,by decide,.inr (.inr ⟨⟨by decide +kernel,by decide +kernel⟩,rfl,rfl⟩),rfl,rfl⟩⟩
theorem fmW4:stpW.all fmS=true:=by decide +kernel
end Go.Proofs.YtongedjlmohogaaGreatDoor
