import Derived.Test.YtongedjlmohogaaGreatDoorPack1
namespace Go.Proofs.YtongedjlmohogaaGreatDoor
open Go.RowKit Go.Shelf
def FreeFrom {β:Type} (B:Nat) (I:β→World→Prop):Prop:=∀ s W W' row,I s W→W.grownBy W' row→(∀ r,row=some r→B≤r)→I s W'
theorem FreeFrom.own {β:Type} {B:Nat} {I:β→World→Prop} (h:FreeFrom B I):OwnFrom B I:=fun s W W' row hs hg hr=>h s W W' row hs hg (fun r e=>(hr r e).1)
section
variable {P:Program}
end
end Go.Proofs.YtongedjlmohogaaGreatDoor
