import Derived.Test.YtjcpamjeekfblaaGreatDoorPack5
import Derived.Test.YtjcpamjeekfblaaGreatDoorRows
import Derived.ChangeSame
import Derived.ChangeSlices
import Derived.Deep.Strs
import Derived.SizedLaws
namespace Go.Proofs.YtjcpamjeekfblaaGreatDoor
open Go.ChangeShapes Go.WideShapes Go.ChangeAt Go.RowKit
set_option maxRecDepth 100000
theorem cellsSp:Tryz.prog.cellsOf 34=3:=by kernel_rfl
theorem cellsSi:Tryz.prog.cellsOf 3=1:=by kernel_rfl
theorem cellsSs:Tryz.prog.cellsOf 9=1:=by kernel_rfl
theorem cellsSb:Tryz.prog.cellsOf 4=1:=by kernel_rfl
section
variable {H:Type} {enc:TypeId × Value→H} {w:World} {base:Nat} {spare:Nat→Bool} {held:Bool}
theorem okWide_strctS {P:Program} {r:Reach} {b0:Nat} {t:TypeId} {v:Value} {fs:Array Field} (ht:P.underlying t=some (.struct fs)) (h:Value.okWide P w r b0 t v):∃ cs,v = .agg cs∧cs.size=P.cellsOf t:=by
 simp only [Value.okWide,ht] at h
 obtain ⟨cs,h1,h2,_⟩:=h
 exact ⟨cs,h1,h2⟩
theorem trod_four {P:Program} {t:TypeId} {f0 f1 f2 f3:Field} {fuel:Nat} {cs:List Value} {x:DataW H × List MemPlace} (ht:P.underlying t=some (.struct #[f0,f1,f2,f3])) (h:DataW.trod enc P w base spare held fuel t cs=some x) :
  ∃ y0 y1 y2 y3 n,cs.length=P.cellsOf t∧x.1 = .agg [y0.1,y1.1,y2.1,y3.1]∧DataW.trod enc P w base spare held n f0.type ((cs.drop f0.offset).take (P.cellsOf f0.type))=some y0 ∧
   DataW.trod enc P w base spare held n f1.type ((cs.drop f1.offset).take (P.cellsOf f1.type))=some y1∧DataW.trod enc P w base spare held n f2.type ((cs.drop f2.offset).take (P.cellsOf f2.type))=some y2 ∧
   DataW.trod enc P w base spare held n f3.type ((cs.drop f3.offset).take (P.cellsOf f3.type))=some y3:=by
 obtain ⟨xs,n,_,rfl,hl,hlen,hf⟩:=DataW.trod_struct ht h
 match xs,hlen with
 | [y0,y1,y2,y3],_=>exact ⟨y0,y1,y2,y3,n,hl,by simp,by simpa using hf 0 f0 rfl,by simpa using hf 1 f1 rfl,by simpa using hf 2 f2 rfl,by simpa using hf 3 f3 rfl⟩
theorem trod_step {m:Nat} {c0 c1 c2:Value} {y:DataW H × List MemPlace} (h:DataW.trod enc Tryz.prog w base spare held m 34 [c0,c1,c2]=some y) :
  ∃ (k:Int) (n:ByteArray) (p:Int),[c0,c1,c2]=[.int .i64 k,.string n,.int .i64 p]∧((Lit.int .i64 k).wf=true∧(Lit.int .i64 p).wf=true)∧y.1 = .agg [.lit (.int .i64 k),.lit (.string n.data.toList),.lit (.int .i64 p)]:=by
 obtain ⟨y0,y1,y2,m',hx,hl,h0,h1,h2⟩:=Go.Deep.trod_struct3 Tryz.underlying34 h
 have e0:((([c0,c1,c2]:List Value).drop 0).take (Tryz.prog.cellsOf 3))=[c0]:=by rw [cellsSi];rfl
 have e1:((([c0,c1,c2]:List Value).drop 1).take (Tryz.prog.cellsOf 9))=[c1]:=by rw [cellsSs];rfl
 have e2:((([c0,c1,c2]:List Value).drop 2).take (Tryz.prog.cellsOf 3))=[c2]:=by rw [cellsSi];rfl
 have h0':DataW.trod enc Tryz.prog w base spare held m' 3 [c0]=some y0:=by rw [← e0];exact h0
 have h1':DataW.trod enc Tryz.prog w base spare held m' 9 [c1]=some y1:=by rw [← e1];exact h1
 have h2':DataW.trod enc Tryz.prog w base spare held m' 3 [c2]=some y2:=by rw [← e2];exact h2
 obtain ⟨a,ha,hy0,hw0⟩:=DataW.trod_int Tryz.underlying3 h0'
 obtain ⟨t,ht,hy1,hz⟩:=DataW.trod_string Tryz.underlying9 h1'
 obtain ⟨x,hx2,hy2,hw2⟩:=DataW.trod_int Tryz.underlying3 h2'
 simp at ha ht hx2
 refine ⟨a,t,x,by rw [ha,ht,hx2],⟨hw0,hw2⟩,?_⟩
 have hx':=congrArg Prod.fst hx
 simpa [hy0,hy1,hy2] using hx'
theorem open_asked {r:Reach} {b0:Nat} {v:Value} {d:DataW H} {ps:List MemPlace} (hval:Value.okWide Tryz.prog w r b0 36 v) (hd:DataW.Trod enc Tryz.prog w base spare held 36 v d ps) :
  ∃ (k:Int) (n:ByteArray) (p:Int) (nm:ByteArray) (pl:Int) (ob:Bool),v = .agg #[.int .i64 k,.string n,.int .i64 p,.string nm,.int .i64 pl,.bool ob]:=by
 have hc:Tryz.prog.cellsOf 36=6:=by kernel_rfl
 obtain ⟨cs,rfl,hs⟩:=okWide_strctS Tryz.underlying36 hval
 obtain ⟨fuel,hf⟩:=hd
 obtain ⟨y0,y1,y2,y3,m,hl,-,h0,h1,h2,h3⟩:=trod_four Tryz.underlying36 hf
 rw [hc] at hs hl
 obtain ⟨c0,c1,c2,c3,c4,c5,rfl⟩:∃ c0 c1 c2 c3 c4 c5,cs = #[c0,c1,c2,c3,c4,c5]:=by
  obtain ⟨l⟩:=cs
  match l,hs with
  | [c0,c1,c2,c3,c4,c5],_=>exact ⟨c0,c1,c2,c3,c4,c5,rfl⟩
 have e0:(((Value.agg #[c0,c1,c2,c3,c4,c5]).cells.toList.drop 0).take (Tryz.prog.cellsOf 34))=[c0,c1,c2]:=by rw [cellsSp];rfl
 have e1:(((Value.agg #[c0,c1,c2,c3,c4,c5]).cells.toList.drop 3).take (Tryz.prog.cellsOf 9))=[c3]:=by rw [cellsSs];rfl
 have e2:(((Value.agg #[c0,c1,c2,c3,c4,c5]).cells.toList.drop 4).take (Tryz.prog.cellsOf 3))=[c4]:=by rw [cellsSi];rfl
 have e3:(((Value.agg #[c0,c1,c2,c3,c4,c5]).cells.toList.drop 5).take (Tryz.prog.cellsOf 4))=[c5]:=by rw [cellsSb];rfl
 have h0':DataW.trod enc Tryz.prog w base spare held m 34 [c0,c1,c2]=some y0:=by rw [← e0];exact h0
 have h1':DataW.trod enc Tryz.prog w base spare held m 9 [c3]=some y1:=by rw [← e1];exact h1
 have h2':DataW.trod enc Tryz.prog w base spare held m 3 [c4]=some y2:=by rw [← e2];exact h2
 have h3':DataW.trod enc Tryz.prog w base spare held m 4 [c5]=some y3:=by rw [← e3];exact h3
 obtain ⟨k,n,p,hk,-,-⟩:=trod_step h0'
 obtain ⟨nm,hn,-⟩:=DataW.trod_string Tryz.underlying9 h1'
 obtain ⟨pl,hp,-⟩:=DataW.trod_int Tryz.underlying3 h2'
 obtain ⟨ob,hb,-⟩:=DataW.trod_bool Tryz.underlying4 h3'
 simp at hk hn hp hb
 exact ⟨k,n,p,nm,pl,ob,by rw [hk.1,hk.2.1,hk.2.2,hn,hp,hb]⟩
end
end Go.Proofs.YtjcpamjeekfblaaGreatDoor
