import Derived.Test.YtongedjlmohogaaGreatDoorPack19
import Derived.Test.YtongedjlmohogaaGreatDoorPack22
import Derived.Test.YtongedjlmohogaaGreatDoorPack18
import Derived.Test.YtongedjlmohogaaGreatDoorTellR
import Derived.Test.YtongedjlmohogaaGreatDoorPack9
import Derived.Deep.RegionWith
namespace Go.Proofs.YtongedjlmohogaaGreatDoor
open Go.RowKit Go.Shelf
def KpS (S:Nat→Prop) (B:Nat) (W W':World):Prop:=W.heap.size≤W'.heap.size∧∀ k o,(S k∨B≤k)→W.heap[k]? = some o→W'.heap[k]? = some o
theorem KpS.refl (S:Nat→Prop) (B:Nat) (W:World):KpS S B W W:=⟨Nat.le_refl _,fun _ _ _ h=>h⟩
theorem KpS.trans {S:Nat→Prop} {B:Nat} {X Y Z:World} (h:KpS S B X Y) (h':KpS S B Y Z):KpS S B X Z:=⟨Nat.le_trans h.1 h'.1,fun k o hk ho=>h'.2 k o hk (h.2 k o hk ho)⟩
theorem KpS.below {S:Nat→Prop} {B:Nat} {W W':World} (h:Below W.heap.size W W'):KpS S B W W':=⟨h.size,fun k _ _ ho=>(h.block k (Array.getElem?_eq_some_iff.1 ho).1).trans ho⟩
theorem KpS.same {S:Nat→Prop} {B:Nat} {W W':World} (h:KpS S B W W'):SameOn (fun k=>S k∨B≤k) W W':=⟨h.1,fun b hb hl=>by
 have e:W.heap[b]? = some W.heap[b]:=Array.getElem?_eq_getElem hl
 rw [h.2 b _ hb e,e]⟩
theorem KpS.at {S:Nat→Prop} {B b:Nat} {W W':World} {cs:Array Value} {t:TypeId} (h:KpS S B W W') (hA:At W b cs t) (hb:S b∨B≤b):At W' b cs t:=h.2 b _ hb hA
theorem KpS.val {S:Nat→Prop} {B:Nat} {W W':World} {t:Vt} {v:Value} (h:KpS S B W W') (hv:ValOn S W t v):ValOn S W' t v :=
 hv.kept (fun _ _ h=>h) ⟨h.1,fun b hb hl=>h.same.2 b (.inl hb) hl⟩
def KpC (S:Nat→Prop) (B c:Nat) (W W':World):Prop:=W.heap.size≤W'.heap.size∧∀ k o,(S k∨(B≤k∧k<c))→W.heap[k]? = some o→W'.heap[k]? = some o
theorem KpC.trans {S:Nat→Prop} {B c:Nat} {X Y Z:World} (h:KpC S B c X Y) (h':KpC S B c Y Z):KpC S B c X Z:=⟨Nat.le_trans h.1 h'.1,fun k o hk ho=>h'.2 k o hk (h.2 k o hk ho)⟩
theorem KpS.c {S:Nat→Prop} {B c:Nat} {W W':World} (h:KpS S B W W'):KpC S B c W W':=⟨h.1,fun k o hk ho=>h.2 k o (hk.imp id (fun h=>h.1)) ho⟩
theorem KpC.at {S:Nat→Prop} {B b c:Nat} {W W':World} {cs:Array Value} {t:TypeId} (h:KpC S B c W W') (hA:At W b cs t) (hb:S b∨(B≤b∧b<c)):At W' b cs t:=h.2 b _ hb hA
theorem KpC.from {S:Nat→Prop} {B c:Nat} {W X Y:World} (h:KpS S B W X) (h':KpC S B c X Y) (hc:W.heap.size≤c):KpS S B W Y :=
 ⟨Nat.le_trans h.1 h'.1,fun k o hk ho=>h'.2 k o (hk.imp id (fun h=>⟨h,by have:=(Array.getElem?_eq_some_iff.1 ho).1;omega⟩)) (h.2 k o hk ho)⟩
end Go.Proofs.YtongedjlmohogaaGreatDoor
