/-
 The law TrieBuilds, walked.
-/
import Derived.Test.YtbabdhepnjacdaaDoorTjO
namespace Go.Proofs.YtbabdhepnjacdaaDoor
open Go.ChangeShapes Go.WideShapes Go.ChangeAt Go.RowKit Go.Shelf
theorem isBld_mid {L : List (List Stp)} {T : List Nod} {E : Int} (h : IsBld L T E) (hm : MidP L) : Mid T := by
 rcases h with ⟨-, rfl, -⟩ | ⟨-, -, rfl, -⟩ | ⟨h1, -, h3, -⟩
 ·exact ⟨by simp, by simp [toA], by simp [enA], fun n hn => by simp at hn⟩
 ·exact ⟨by simp, by simp [toA], by simp [enA], fun n hn => by simp at hn⟩
 ·exact (bld_mid h3 hm h1).1
set_option maxRecDepth 10000 in
set_option maxHeartbeats 8000000 in
theorem trieBuilds_walk (ao : Option Addr) (cap : Nat) (L : List (List Stp)) (hl : L.length ≤ 1048576) (hm : MidP L) (w : World) (hT : TabU w) (hk : PthsAt w ao L) :
  Calls Tryd.prog 3 #[.slice ao L.length cap] w fun e w' => e = .returned (.bool true) ∧ Below w.heap.size w w' := by
 obtain ⟨N, hN⟩ : ∃ N, Hid (L.length = N) := ⟨_, rfl⟩
 rw [hN.out]
 rw [hN.out] at hl
 have hNi : (N : Int) ≤ 1048576 := by omega
 have hm' := hid hm
 have hT' := hid hT
 have hk' := hid hk
 have hsm := hid (fun u => smallT_calls u)
 have hsp := hid (fun u => smallP_calls u)
 have hbl := hid (fun (u : World) (hu : Below w.heap.size w u) => build23_calls L ao N cap hN hl (hid hm) u (hid (hk'.out.kept hu)) (hid (hT'.out.below hu)))
 have hbr := hid (fun (u : World) (hu : Below w.heap.size w u) => buildR23_calls L ao N cap hN hl (hid hm) u (hid (hk'.out.kept hu)))
 have hva := hid (fun (u : World) (hu : Below w.heap.size w u) => vastP_calls L ao N cap hN hl (hid hm) u (hid (hk'.out.kept hu)))
 clear hm hT hk
 go_enter Tryd.func3, Tryd.ntmps3
 go_wp2_with fail
 refine Calls.mono (hsp.out _) ?_
 rintro e w1 ⟨⟨b, rfl, hs1⟩, b1⟩
 have B1 := hid b1
 have hbs := hid (build23_calls smP (some ⟨b, 0, none⟩) 2 2 (hid rfl) (by omega) (hid smP_mid) w1 (hid hs1) (hid (hT'.out.below b1)))
 clear b1 hs1 hsp
 go_wp2_with fail
 refine Calls.mono hbs.out ?_
 rintro e w2 ⟨⟨ro, rc, T, E, rfl, hn2, hI2⟩, b2⟩
 obtain ⟨rfl, rfl⟩ := smP_is hI2
 have B2 := hid (B1.out.trans (b2.mono B1.out.size))
 have hn2' := hid hn2
 clear b2 hbs hn2 hI2
 rw [show smT.length = 3 from rfl]
 go_wp2_with fail
 refine Calls.mono (hsm.out _) ?_
 rintro e w3 ⟨⟨b', rfl, hs3⟩, b3⟩
 have B3 := hid (B2.out.trans (b3.mono B2.out.size))
 have hst := hid (sameTrie_calls smT ro (some ⟨b', 0, none⟩) 3 rc 3 (hid rfl) (hid smT_mid) w3 (hid (hn2'.out.kept b3)) (hid hs3))
 clear b3 hs3 hn2' hsm
 go_wp2_with fail
 refine Calls.mono hst.out ?_
 rintro e w4 ⟨rfl, b4⟩
 have B4 := hid (B3.out.trans (b4.mono B3.out.size))
 clear b4 hst
 go_wp2_with fail
 refine Calls.mono (hva.out _ B4.out) ?_
 rintro e w5 ⟨⟨V, rfl⟩, b5⟩
 have B5 := hid (B4.out.trans (b5.mono B4.out.size))
 clear b5 hva
 cases V with
 | true =>
  go_wp2_with fail
  refine Calls.mono (hbl.out _ B5.out) ?_
  rintro e w6 ⟨⟨ro6, rc6, T6, E6, rfl, -, hI6⟩, b6⟩
  have B6 := hid (B5.out.trans (b6.mono B5.out.size))
  clear b6 hbl hbr
  rcases hI6 with ⟨h1, rfl, rfl⟩ | ⟨-, -, rfl, rfl⟩ | ⟨-, -, -, rfl⟩
  ·have f1 : decide ((256 : Int) < (N : Int)) = true := decide_eq_true (by rw [hN.out] at h1; omega)
   have f2 : decide (256 < N) = true := decide_eq_true (by rw [hN.out] at h1; exact h1)
   clear h1
   go_wp2
   go_ret
   exact ⟨rfl, B6.out⟩
  ·go_wp2
   go_ret
   exact ⟨rfl, B6.out⟩
  ·go_wp2
   go_ret
   exact ⟨rfl, B6.out⟩
 | false =>
  go_wp2_with fail
  refine Calls.mono (hbl.out _ B5.out) ?_
  rintro e w6 ⟨⟨ro6, rc6, T6, E6, rfl, hn6, hI6⟩, b6⟩
  have B6 := hid (B5.out.trans (b6.mono B5.out.size))
  have hn6' := hid hn6
  have hI6' := hid hI6
  obtain ⟨NT, hNT⟩ : ∃ NT, Hid (T6.length = NT) := ⟨_, rfl⟩
  rw [hNT.out]
  clear b6 hbl hn6 hI6
  go_wp2_with fail
  refine Calls.mono (hbr.out _ B6.out) ?_
  rintro e w7 ⟨⟨ro7, rc7, T7, E7, rfl, hn7, hI7⟩, b7⟩
  obtain ⟨rfl, rfl⟩ := isBld_uniq hI6'.out hI7
  have B7 := hid (B6.out.trans (b7.mono B6.out.size))
  have hst := hid (sameTrie_calls T6 ro6 ro7 NT rc6 rc7 hNT (hid (isBld_mid hI7 hm'.out)) w7 (hid (hn6'.out.kept b7)) (hid hn7))
  rw [hNT.out]
  have ee : (E6 == E6) = true := by simp
  clear b7 hbr hn7 hI7 hn6'
  go_wp2_with fail
  refine Calls.mono hst.out ?_
  rintro e w8 ⟨rfl, b8⟩
  have B8 := hid (B7.out.trans (b8.mono B7.out.size))
  clear b8 hst
  go_wp2
  go_ret
  exact ⟨rfl, B8.out⟩
end Go.Proofs.YtbabdhepnjacdaaDoor
