import Derived.Test.YtjcpamjeekfblaaGreatDoorPack13
import Derived.Deep.DeepCutAuto
namespace Go.Proofs.YtjcpamjeekfblaaGreatDoor
open Go.RowKit Go.Shelf
theorem wpList_keysR {ops:Array Oper} {rest:List Oper} {o:Oper} {a:Act} {Q:Exit→Act→World→Prop} {W:World} {x y:Operand} {B:Nat} {v:Value} {ks:List ByteArray} {u:ByteArray} (hgd:o.guard=none) (ho:o.op = .call { callee:=.builtin .append,args:=#[x,y],argTypes:=#[56,56] })
  (hx:a.eval x=v) (h:KeysG B W v ks) (hu:u.size≤capT) (ad:Addr) (c:Nat) (hy:a.eval y = .slice (some ad) 1 c) (hC:W.cell? (ad.add 0)=some (.string u)) (hn:ks.length<1099511627776) (hB:B≤W.heap.size)
  (hr:∀ v' W',KeysG B W' v' (ks++[u])→W.grownBy W' v.ownBlock→wpList Tryz.prog ops Q rest (a.put o.dst v') W'):wpList Tryz.prog ops Q (o :: rest) a W:=by
 refine wpList_plain hgd fun _ hK=>?_
 obtain ⟨v',W',hrun,h1,h2,-⟩:=h.app (ty:=o.type) hu ad c hC hn hB
 unfold Oper.wp execOp
 simp only [ho,resolve,invoke,builtin,Sem.run_bind,Sem.run_pure,Result.andThen_ok,List.map_toArray,List.map_cons,List.map_nil,hx,hy,hrun]
 exact hK _ _ (hr v' W' h1 h2)
end Go.Proofs.YtjcpamjeekfblaaGreatDoor
