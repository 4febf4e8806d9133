/-
 quarryref17.text: the text whose quote stands at a place.
-/
import Derived.Test.YtkejlejhnnjdkaaGreatDoorTrR
import Derived.Test.YtkejlejhnnjdkaaGreatDoorPack8
namespace Go.Proofs.YtkejlejhnnjdkaaGreatDoor
open Go.RowKit Go.Shelf
set_option maxRecDepth 10000 in
set_option maxHeartbeats 4000000 in
theorem text17_calls (s : ByteArray) (hs : s.size ≤ 1048576) (a e : Nat) (he : Hid (QE s (a + 1) e)) (T : ByteArray) (E : Int) (hU : Hid (unS (s.extract (a + 1) e) = (T, E))) (w : World) :
  Calls Tryz.prog 38 #[.string s, .int .i64 (a : Int)] w fun r w' => r = .returned (.tuple #[.string T, .int .i64 ((e : Int) + 1)]) ∧ Below w.heap.size w w' := by
 have hsi : (s.size : Int) ≤ 1048576 := by omega
 obtain ⟨l1, l2⟩ := he.out.le
 have hei : (e : Int) < (s.size : Int) := by omega
 have hun := hid (fun u => refUn_calls (s.extract (a + 1) e) (by rw [ByteArray.size_extract]; omega) T E hU u)
 have hae : (a : Int) + 1 ≤ (e : Int) := by omega
 clear hU
 go_enter Tryz.func38, Tryz.ntmps38
 go_wp2
 go_loopw [6] (fun ii wr => ∃ q : Nat, a + 1 ≤ q ∧ ii = .int .i64 (q : Int) ∧ Hid (QE s q e) ∧ wr = w) (fun ii _ => e + 1 - (intOf ii).toNat)
 case atStart => exact ⟨a + 1, Nat.le_refl _, by simp, he, rfl⟩
 case round =>
  obtain ⟨q, hq1, rfl, hQ, rfl⟩ := hrel
  obtain ⟨q1, q2⟩ := hQ.out.le
  have hqi : (q : Int) < (s.size : Int) := by omega
  have hqs : q < s.size := by omega
  obtain ⟨y, hY⟩ : ∃ y, Hid (byteAt s q = y) := ⟨_, rfl⟩
  have hy := byteAt_eq s q hqs
  rw [hY.out] at hy
  have hyl : y < 256 := by rw [← hy]; exact (s[q]'hqs).toNat_lt
  by_cases hy34 : y = 34
  ·subst hy34
   have hqe : q = e := by
    cases hQ.out with
    | stop _ h hq => rfl
    | esc _ _ h hq hn => have := hY.out; omega
    | step _ _ h h1 h2 hn => exact absurd hY.out h1
   subst hqe
   go_wp2_with fail
   refine Calls.mono (hun.out _) ?_
   rintro r w1 ⟨rfl, hb⟩
   have hb' := hid hb
   clear hb hun
   go_wp2
   exact bodyPost_ret (v := .tuple #[.string T, .int .i64 ((q : Int) + 1)]) (by simp [results, Tryz.results38, go_sem]; try decide) rfl ⟨rfl, hb'.out⟩
  ·by_cases hy92 : y = 92
   ·subst hy92
    have hn : Hid (QE s (q + 2) e) := by
     cases hQ.out with
     | stop _ h hq => have := hY.out; omega
     | esc _ _ h hq hn => exact hn
     | step _ _ h h1 h2 hn => exact absurd hY.out h2
    go_wp2
    go_roundw
    case rel => exact ⟨q + 2, by omega, by simp; omega, hn, by trivial⟩
    case measure => have := hn.out.le; simp [intOf]; omega
   ·have e1 : ((y : Int) == 92) = false := by simp; omega
    have e2 : ((y : Int) != 34) = true := by simp; omega
    have hn : Hid (QE s (q + 1) e) := by
     cases hQ.out with
     | stop _ h hq => have := hY.out; omega
     | esc _ _ h hq hn => have := hY.out; omega
     | step _ _ h h1 h2 hn => exact hn
    go_wp2
    go_roundw
    case rel => exact ⟨q + 1, by omega, by simp, hn, by trivial⟩
    case measure => have := hn.out.le; simp [intOf]; omega
end Go.Proofs.YtkejlejhnnjdkaaGreatDoor
