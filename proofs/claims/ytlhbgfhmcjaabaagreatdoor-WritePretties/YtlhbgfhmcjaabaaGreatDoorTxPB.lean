/-
 What an escape means, held against the piece of the reference; strings.Builder's WriteRune.
-/
import Derived.Test.YtlhbgfhmcjaabaaGreatDoorTxPA
import Derived.Test.YtlhbgfhmcjaabaaGreatDoorPack1
import Derived.Shelf.Utf8.AppendRunePlain
import Derived.Shelf.LaysM
import Derived.Test.YtlhbgfhmcjaabaaGreatDoorProg
namespace Go.Proofs.YtlhbgfhmcjaabaaGreatDoor
open Go.RowKit Go.Shelf
theorem plain_step {l : List Nat} (hp : plB (lb l 0) = true) : stepL l = some (1, [lb l 0]) := by
 unfold plB at hp
 simp only [decide_eq_true_eq] at hp
 have e : nextL l = ⟨1, lb l 0, false⟩ := by
  unfold nextL nextP
  rw [if_neg (by omega), if_pos (by omega)]
 unfold stepL
 rw [e, if_neg (by simp), if_neg (by simp [highP]), if_neg (by simp [highP, lowP]), if_neg (by simp)]
/-- A row of bytes that stand for themselves. -/
theorem UnR.plain {s : ByteArray} : ∀ (k : Nat) {r r' : ByteArray} {o : List Nat}, UnR s r o → k ≤ r.size → (∀ i, i < k → plB (bAt r i) = true) → byts r' = (byts r).drop k → UnR s r' (o ++ (byts r).take k)
 | 0, r, r', o, h, _, _, hr' => by
  rw [List.drop_zero] at hr'
  obtain rfl : r' = r := byts_inj hr'
  simpa using h
 | k + 1, r, r', o, h, hk, hp, hr' => by
  have hb : byts (r.extract 1 r.size) = (byts r).drop 1 := (byts_from r 1).1
  have hz : (r.extract 1 r.size).size = r.size - 1 := (byts_from r 1).2
  have hne : byts r ≠ [] := fun e => by
   have := byts_length r
   rw [e] at this
   simp at this
   omega
  have hs := plain_step (l := byts r) (by rw [← bAt_lb]; exact hp 0 (by omega))
  have h1 := (UnR.step h (by omega) hs hb).1
  have h2 := UnR.plain k (r' := r') h1 (by omega) (fun i hi => by rw [bAt_lb, hb, lb_drop, ← bAt_lb]; exact hp (1 + i) (by omega)) (by rw [hb, List.drop_drop, hr', Nat.add_comm])
  have e : o ++ [lb (byts r) 0] ++ (byts (r.extract 1 r.size)).take k = o ++ (byts r).take (k + 1) := by
   rw [hb]
   cases hl : byts r with
   | nil => exact absurd hl hne
   | cons x t => simp [lb]
  rw [e] at h2
  exact h2
end Go.Proofs.YtlhbgfhmcjaabaaGreatDoor
