import Derived.Test.YtongedjlmohogaaGreatDoorPwC
import Derived.Test.YtongedjlmohogaaGreatDoorPack22
import Derived.Test.YtongedjlmohogaaGreatDoorPack21
import Derived.Test.YtongedjlmohogaaGreatDoorPtT
import Derived.Test.YtongedjlmohogaaGreatDoorTrMb
import Derived.Test.YtongedjlmohogaaGreatDoorPack19
namespace Go.Proofs.YtongedjlmohogaaGreatDoor
open Go.RowKit Go.Shelf
theorem wp_onlyN {P:Program} {c:Code} {K:Act→World→Prop} {Q:Exit→Act→World→Prop} {a:Act} {w:World} (h:c.wp P (Exit.then K (fun _ _ _=>False)) a w):c.wp P (Exit.then K Q) a w :=
 Code.wp_mono (fun e a w he=>by cases e <;> first | exact he | exact (he:False).elim) h
theorem at_setW {w:World} {b:Nat} {v:Value} {t:TypeId} (h:At w b #[v] t) (u:Value):At (w.setCell ⟨b,0,none⟩ u) b #[u] t:=by simpa using h.set 0 u
theorem KpS.set {S:Nat→Prop} {B q i:Nat} {W:World} (x:Value) (hS:¬ S q) (hB:q<B):KpS S B W (W.setCell ⟨q,i,none⟩ x) :=
 ⟨(KeepsOthers.setCell W ⟨q,i,none⟩ x).1,fun k o hk ho=>(Below.heap_setCell W ⟨q,i,none⟩ x k (by
  show k≠q
  rintro rfl
  rcases hk with h | h
  ·exact hS h
  ·omega)).trans ho⟩
theorem KpS.putLoop {S:Nat→Prop} {B l:Nat} {W:World} (o:Obj) (hS:¬ S l) (hB:l<B):KpS S B W (W.putObj l o) :=
 ⟨(grownBy_putObj' W l o).size,fun k o' hk ho=>(World.putObj_heap_other (by
  rintro rfl
  rcases hk with h | h
  ·exact hS h
  ·omega)).trans ho⟩
def LdY (L:List (List UInt8 × Vt)) (G:Nat) (r _:Nat) (y:List UInt8 × Nat × Array Value) (W:World):Prop :=
 ∃ t,L[r]? = some (y.1,t)∧G≤y.2.1∧At W y.2.1 y.2.2 59∧ValAt W t (.agg y.2.2)
theorem At.belowB {B b:Nat} {W W':World} {cs:Array Value} {t:TypeId} (h:At W b cs t) (hb:Below B W W') (hl:b<B):At W' b cs t:=(hb.block b hl).trans h
theorem At.ownB {B:Nat} {W W':World} {b:Nat} {cs:Array Value} {t:TypeId} {row:Option Nat} (h:At W b cs t) (hg:W.grownBy W' row) (hr:∀ r,row=some r→B≤r∧∃ o:Obj,W.heap[r]? = some o∧o.isCells=false):At W' b cs t :=
 (hg.block b h.lt (fun e=>by
  obtain ⟨-,o,h1,h2⟩:=hr b e.symm
  have h':W.heap[b]? = some (.cells cs t):=h
  rw [h'] at h1
  cases h1
  cases h2)).trans h
theorem cell_ownB {B:Nat} {W W':World} {b o:Nat} {x:Value} {row:Option Nat} (hl:b<W.heap.size) (h:W.cell? ⟨b,o,none⟩=some x) (hg:W.grownBy W' row) (hr:∀ r,row=some r→B≤r∧∃ o:Obj,W.heap[r]? = some o∧o.isCells=false):W'.cell? ⟨b,o,none⟩=some x:=by
 rw [World.cell?_of_block (w:=W) (hg.block b hl (fun e=>by
  obtain ⟨-,ob,h1,h2⟩:=hr b e.symm
  rw [World.cell?,h1] at h
  cases ob with
  | cells _ _=>cases h2
  | _=>simp at h))]
 exact h
theorem valAt_own {B:Nat} {W W':World} {t:Vt} {v:Value} {row:Option Nat} (h:ValAt W t v) (hg:W.grownBy W' row) (hr:∀ r,row=some r→B≤r∧∃ o:Obj,W.heap[r]? = some o∧o.isCells=false):ValAt W' t v:=by
 induction h with
 | mk k b r t ks vs ko kc vo vc X hw hz hk hrw hv ih =>
  refine .mk k b r t ks vs ko kc vo vc X hw hz (fun i s hi=>?_) (fun i hi=>?_) ih
  ·obtain ⟨h0,g,off,h1,h2,h3⟩:=hk i s hi
   exact ⟨h0,g,off,h1,Nat.lt_of_lt_of_le h2 hg.size,cell_ownB h2 h3 hg hr⟩
  ·obtain ⟨h0,g,off,h1,h2,h3⟩:=hrw i hi
   refine ⟨h0,g,off,h1,Nat.lt_of_lt_of_le h2 hg.size,fun j hj=>?_⟩
   have hx:(X i)[j]? = some (X i)[j]:=Array.getElem?_eq_getElem (by rw [h0];exact hj)
   rw [hx]
   exact cell_ownB h2 ((h3 j hj).trans hx) hg hr
theorem ldY_own {L:List (List UInt8 × Vt)} {G B:Nat} (r c:Nat) (y:List UInt8 × Nat × Array Value):OwnFrom B (fun (_:Unit) W=>LdY L G r c y W):=fun _ W W' row h hg hr=>by
 obtain ⟨t,h1,h2,h3,h4⟩:=h
 exact ⟨t,h1,h2,h3.ownB hg hr,valAt_own h4 hg hr⟩
end Go.Proofs.YtongedjlmohogaaGreatDoor
