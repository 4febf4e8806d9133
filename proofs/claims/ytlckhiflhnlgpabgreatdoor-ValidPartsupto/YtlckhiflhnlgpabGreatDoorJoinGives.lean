/-
  What bitmap.And, Or, Xor and Minus answer, place by place.
-/
import Derived.Test.YtlckhiflhnlgpabGreatDoorBitsF
namespace Go.Proofs.YtlckhiflhnlgpabGreatDoor
open Go.RowKit

theorem and_gives (n m : Int) (ao bo : Option Addr) (k l cap cap' : Nat) (X Y : Nat → Nat) (E q : Int) (r : Nat) (hn : (Lit.int .i64 n).wf = true) (hm : (Lit.int .i64 m).wf = true) (hk : k ≤ 17592186044416) (hl : l ≤ 17592186044416) (hE : Hid (joinE n m k l X Y E q r)) (w : World) (hW : Wds w ao k X) (hV : Wds w bo l Y) :
    Calls Tryz.prog 42 #[bv n ao k cap, bv m bo l cap'] w fun e w' => Gives E q r (rowOf (fun i => bitAt X i && bitAt Y i) n.toNat) w e w' := by
  refine (and_calls n m ao bo k l cap cap' X Y hn hm hk hl w hW hV).mono ?_
  intro e w' h
  refine (h.gives hE.out).congr (fun j hj => ?_)
  rcases hE.out with ⟨_, _, _, rfl⟩ | ⟨_, _, _, _, rfl⟩ | ⟨⟨h1, h2⟩, rfl, _, _, rfl⟩
  · omega
  · omega
  · obtain ⟨N, rfl⟩ := Int.eq_ofNat_of_zero_le h1.1
    have hkl : r = l := by rw [h1.2.1, h2.2.1]
    subst hkl
    rw [Int.toNat_natCast]
    exact join_row (o := fun x y => x &&& y) (ob := fun x y => x && y) rfl (fun x y t hx hy ht => by simp) (fun x y hx hy => Nat.lt_of_le_of_lt Nat.and_le_left hx) h1 h2 hj (hW j hj).1 (hV j hj).1

theorem or_gives (n m : Int) (ao bo : Option Addr) (k l cap cap' : Nat) (X Y : Nat → Nat) (E q : Int) (r : Nat) (hn : (Lit.int .i64 n).wf = true) (hm : (Lit.int .i64 m).wf = true) (hk : k ≤ 17592186044416) (hl : l ≤ 17592186044416) (hE : Hid (joinE n m k l X Y E q r)) (w : World) (hW : Wds w ao k X) (hV : Wds w bo l Y) :
    Calls Tryz.prog 43 #[bv n ao k cap, bv m bo l cap'] w fun e w' => Gives E q r (rowOf (fun i => bitAt X i || bitAt Y i) n.toNat) w e w' := by
  refine (or_calls n m ao bo k l cap cap' X Y hn hm hk hl w hW hV).mono ?_
  intro e w' h
  refine (h.gives hE.out).congr (fun j hj => ?_)
  rcases hE.out with ⟨_, _, _, rfl⟩ | ⟨_, _, _, _, rfl⟩ | ⟨⟨h1, h2⟩, rfl, _, _, rfl⟩
  · omega
  · omega
  · obtain ⟨N, rfl⟩ := Int.eq_ofNat_of_zero_le h1.1
    have hkl : r = l := by rw [h1.2.1, h2.2.1]
    subst hkl
    rw [Int.toNat_natCast]
    exact join_row (o := fun x y => x ||| y) (ob := fun x y => x || y) rfl (fun x y t hx hy ht => by simp) (fun x y hx hy => Nat.or_lt_two_pow (n := 64) hx hy) h1 h2 hj (hW j hj).1 (hV j hj).1

end Go.Proofs.YtlckhiflhnlgpabGreatDoor
