import Derived.Test.YtjcpamjeekfblaaGreatDoorPtH
namespace Go.Proofs.YtjcpamjeekfblaaGreatDoor
open Go.RowKit Go.Shelf
theorem KeysG.keys {B:Nat} {W:World} {so:Option Addr} {n cap:Nat} {ks:List ByteArray} (h:KeysG B W (.slice so n cap) ks):KeysAt W so ks:=(h.row.2).at
theorem ptN_len (l:List UInt8):(ptN l).length≤l.length:=by
 unfold ptN
 cases l with
 | nil=>simp [ptrL]
 | cons d t =>
  by_cases h:d=47
  ·rw [ptrL,if_pos h]
   have hc:=cuL_count t
   cases hm:mnAll (cuL t) with
   | none=>simp
   | some L =>
    have:=mnAll_len hm
    simp
    omega
  ·rw [ptrL,if_neg h];simp
where
 mnAll_len:∀ {R L:List (List UInt8)},mnAll R=some L→L.length=R.length
 | [],L,h=>by cases h;rfl
 | a :: R,L,h=>by
  rw [mnAll] at h
  cases ha:mnL a with
  | none=>rw [ha] at h;simp at h
  | some b =>
   cases hR:mnAll R with
   | none=>rw [ha,hR] at h;simp at h
   | some c =>
    rw [ha,hR] at h
    cases h
    simp [mnAll_len hR]
end Go.Proofs.YtjcpamjeekfblaaGreatDoor
