import Derived.Test.YtongedjlmohogaaGreatDoorPack7
import Derived.Test.YtongedjlmohogaaGreatDoorPack18
import Derived.BigQuiet
namespace Go.Proofs.YtongedjlmohogaaGreatDoor
open Go.RowKit Go.Shelf
set_option maxRecDepth 10000 in
set_option maxHeartbeats 8000000 in
theorem sameS_calls (ss : List Stp) (ao bo : Option Addr) (N cap cap' : Nat) (hN : Hid (ss.length = N)) (hNi : N ≤ 1073741824) (w : World) (hL : Hid (StepsAt w ao ss)) (hk : Hid (StepsAt w bo ss)) :
    Calls Tryz.prog 10 #[.slice ao N cap,.slice bo N cap'] w fun e w'=>e = .returned (.bool true)∧Below w.heap.size w w':=by
  have hNi':(N:Int)≤1073741824:=by omega
  go_enter Tryz.func10,Tryz.ntmps10
  go_wp2
  go_loopw [5] (fun ii wr=>∃ i:Nat,i≤N∧ii = .int .i64 (i:Int)∧Hid (Below w.heap.size w wr)) (fun ii _=>N-(intOf ii).toNat)
  case atStart=>exact ⟨0,Nat.zero_le _,rfl,hid (Below.refl _ _)⟩
  case round =>
    obtain ⟨i,hi,rfl,hb⟩:=hrel
    by_cases hlt:i<N
    · have hlt':=hid (show i+1≤N by omega)
      have hli:(i:Int)<(N:Int):=by omega
      obtain ⟨s,hs⟩:∃ s,Hid (ss[i]? = some s):=⟨_,List.getElem?_eq_getElem (by rw [hN.out];exact hlt)⟩
      obtain ⟨g1,o1,rfl,-,hr1⟩:=steps_at (hL.out.kept hb.out) hs.out
      obtain ⟨g2,o2,rfl,-,hr2⟩:=steps_at (hk.out.kept hb.out) hs.out
      obtain ⟨k,nm,pl⟩:=s
      have R1:=hid (show wr.rangeAt g1 (o1+i*3) [.int .i64 k,.string nm,.int .i64 pl] from hr1)
      have R2:=hid (show wr.rangeAt g2 (o2+i*3) [.int .i64 k,.string nm,.int .i64 pl] from hr2)
      have eqs:∀ u,(Op.equalIn 10000 34 (.agg #[.int .i64 k,.string nm,.int .i64 pl]) (.agg #[.int .i64 k,.string nm,.int .i64 pl])).run Tryz.prog u = .ok true u:=fun u=>by rw [eqStp];simp
      have e1:decide ((i:Int)<(N:Int))=true:=by simp;omega
      clear hs hr1 hr2 hL hk hN
      go_wp2
      refine wp_region_quiet (C:=(fun w'=>Below wr.heap.size wr w')) (by kernel_rfl) (by kernel_rfl) ((Below.refl _ _).drew) ?_
      dsimp only
      repeat (first
        | go_big_quiet_skip
        | (refine' wpQuiet_take (by rfl) ?_ ?_
           rotate_left
           · (intro wq hq;(try dsimp only at hq);go_simp
              first
                | done
                | with_reducible rfl
             )
           simp only [psA])
        | (refine wpQuiet_load 34 _ (g1) (o1+i*3) [.int .i64 k,.string nm,.int .i64 pl] _ (fun wq hq=>range_kept R1.out hq) Tryz.underlying34 sizeStp rfl rfl rfl (by rfl) ?_;simp only [psA])
        | (refine wpQuiet_load 34 _ (g2) (o2+i*3) [.int .i64 k,.string nm,.int .i64 pl] _ (fun wq hq=>range_kept R2.out hq) Tryz.underlying34 sizeStp rfl rfl rfl (by rfl) ?_;simp only [psA]))
      refine wpQuiet_nil ?_
      intro wz hwz
      have hfin:=hid (hb.out.trans (Below.mono hwz hb.out.size))
      clear hwz
      go_wp2
      go_roundw
      case rel=>exact ⟨i+1,hlt'.out,by simp,hfin⟩
      case measure=>simp [intOf];have:=hlt'.out;omega
    · obtain rfl:i=N:=by omega
      clear hL hk hN
      go_wp2
      go_ret
      exact ⟨rfl,hb.out⟩
end Go.Proofs.YtongedjlmohogaaGreatDoor
