import Derived.Test.YtjcpamjeekfblaaGreatDoorPack19
import Derived.Test.YtjcpamjeekfblaaGreatDoorPtN
import Derived.Test.YtjcpamjeekfblaaGreatDoorPtL
namespace Go.Proofs.YtjcpamjeekfblaaGreatDoor
open Go.RowKit Go.Shelf
theorem dec_len:∀ (k u:Nat),u<10 ^ (k+1)→(Lib.decDigits u).length≤k+1
 | 0,u,h=>by rw [Lib.decDigits,dif_pos (by simpa using h)];simp
 | k+1,u,h=>by
  rw [Lib.decDigits]
  split
  ·simp
  ·have:=dec_len k (u / 10) (by rw [Nat.pow_succ] at h;omega)
   rw [List.length_append,List.length_singleton]
   omega
theorem itoa_nat (i:Nat):Lib.itoa (i:Int)=Lib.decDigits i:=by
 unfold Lib.itoa
 rw [if_neg (by omega),Int.toNat_natCast]
end Go.Proofs.YtjcpamjeekfblaaGreatDoor
