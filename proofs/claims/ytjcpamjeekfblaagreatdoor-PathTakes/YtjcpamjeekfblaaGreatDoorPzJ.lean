import Derived.Test.YtjcpamjeekfblaaGreatDoorPack1
import Derived.Test.YtjcpamjeekfblaaGreatDoorPzF
import Derived.Test.YtjcpamjeekfblaaGreatDoorPzC
import Derived.BigQuiet
namespace Go.Proofs.YtjcpamjeekfblaaGreatDoor
open Go.RowKit Go.Shelf
theorem asked_range {W:World} {b:Nat} {x0 x1 x2 x3 x4 x5:Value} {t:TypeId} (h:At W b #[x0,x1,x2,x3,x4,x5] t):W.rangeAt b 0 [x0,x1,x2]:=fun j y hj=>by
  match j,hj with
  | 0,hj=>simp at hj;subst hj;exact h.cell 0
  | 1,hj=>simp at hj;subst hj;exact h.cell 1
  | 2,hj=>simp at hj;subst hj;exact h.cell 2
  | j+3,hj=>simp at hj
theorem asked_cells {W:World} {b:Nat} {x0 x1 x2 x3 x4 x5:Value} {t:TypeId} (h:At W b #[x0,x1,x2,x3,x4,x5] t):W.cell? ⟨b,3,none⟩=some x3∧W.cell? ⟨b,4,none⟩=some x4∧W.cell? ⟨b,5,none⟩=some x5:=⟨h.cell 3,h.cell 4,h.cell 5⟩
set_option maxRecDepth 10000 in
set_option maxHeartbeats 8000000 in
theorem pathTakes_walk (k : Int) (n : ByteArray) (p : Int) (nm : ByteArray) (pl : Int) (ob : Bool) (w : World) (hP : PowT w) (hT : TabU w) (hM : MxI w) :
    Calls Tryz.prog 5 #[.agg #[.int .i64 k,.string n,.int .i64 p,.string nm,.int .i64 pl,.bool ob]] w fun e w'=>e = .returned (.bool true)∧Below w.heap.size w w':=by
  have q1:=hid (fun u=>takes22_calls ⟨k,n,p⟩ nm pl ob u)
  have q2:=hid (fun u=>takesR22_calls ⟨k,n,p⟩ nm pl ob u)
  generalize tkS ⟨k,n,p⟩ nm pl ob=T at q1 q2
  have q3:=hid (fun (u:World) h1 h2 h3=>callsIn_wide.1 (awake22_in u h1 h2 h3))
  have hT':=hid hT
  have hP':=hid hP
  have hM':=hid hM
  have A1:=hid (At.new w #[.int .i64 k,.string n,.int .i64 p,.string nm,.int .i64 pl,.bool ob] 36)
  have B1:=hid (show Below w.heap.size w (w.alloc (.cells #[.int .i64 k,.string n,.int .i64 p,.string nm,.int .i64 pl,.bool ob] 36)) from (Below.refl _ w).alloc (Nat.le_refl _) _)
  clear hT hP hM
  go_enter Tryz.func5,Tryz.ntmps5
  go_wp2
  generalize (w.alloc (.cells #[.int .i64 k,.string n,.int .i64 p,.string nm,.int .i64 pl,.bool ob] 36))=W1 at *
  have ee:(T == T)=true:=by simp
  refine wp_region_quiet (C:=(fun w'=>Below W1.heap.size W1 w'∧(w'.cell? ⟨w.heap.size,3,none⟩=some (.string nm)∧w'.cell? ⟨w.heap.size,4,none⟩=some (.int .i64 pl)∧w'.cell? ⟨w.heap.size,5,none⟩=some (.bool ob)))) (by kernel_rfl) (by kernel_rfl) (⟨(Below.refl _ _).drew,asked_cells A1.out.drew⟩) ?_
  dsimp only
  repeat (first
    | (refine wpQuiet_skip (by rfl) ?_;simp only [psA])
    | (refine wpQuiet_load 34 _ (w.heap.size) (0) [.int .i64 k,.string n,.int .i64 p] _ (fun wq hq=>asked_range (A1.out.keptAll hq.1)) Tryz.underlying34 sizeStp rfl rfl rfl (by rfl) ?_;simp only [psA])
    | (refine' wpQuiet_take (by rfl) ?_ ?_
       rotate_left
       · (intro wq hq;(try dsimp only at hq);go_simp
          first
            | done
            | with_reducible rfl
            | (go_at_call 18;have hzz:=q1.out wq;with_reducible refine hzz.mono ?_;clear hzz;rintro e wz ⟨rfl,hb⟩;exact ⟨rfl,Below.trans hq.1 (Below.mono hb hq.1.size),asked_cells (A1.out.keptAll (Below.trans hq.1 (Below.mono hb hq.1.size)))⟩)
            | (go_at_call 19;have hzz:=q2.out wq;with_reducible refine hzz.mono ?_;clear hzz;rintro e wz ⟨rfl,hb⟩;exact ⟨rfl,Below.trans hq.1 (Below.mono hb hq.1.size),asked_cells (A1.out.keptAll (Below.trans hq.1 (Below.mono hb hq.1.size)))⟩)
            | (go_at_call 11;have hzz:=q3.out wq (hT'.out.below (B1.out.trans (Below.mono hq.1 B1.out.size))) (hP'.out.kept (B1.out.trans (Below.mono hq.1 B1.out.size))) (hM'.out.kept (B1.out.trans (Below.mono hq.1 B1.out.size)));with_reducible refine hzz.mono ?_;clear hzz;rintro e wz ⟨rfl,hb⟩;exact ⟨rfl,Below.trans hq.1 (Below.mono hb hq.1.size),asked_cells (A1.out.keptAll (Below.trans hq.1 (Below.mono hb hq.1.size)))⟩)
         )
       simp only [psA]))
  refine wpQuiet_nil ?_
  intro wz hwz
  have hfin:=hid (B1.out.trans (Below.mono hwz.1 B1.out.size))
  clear hwz
  go_wp2
  go_ret
  exact ⟨rfl,hfin.out⟩
end Go.Proofs.YtjcpamjeekfblaaGreatDoor
