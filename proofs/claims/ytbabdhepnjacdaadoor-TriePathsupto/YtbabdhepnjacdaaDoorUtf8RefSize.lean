/-
 What quarryref05.Size answers: how many bytes a character takes.
-/
import Derived.Test.YtbabdhepnjacdaaDoorUtf8Size
namespace Go.Proofs.YtbabdhepnjacdaaDoor
open Go.RowKit
set_option maxRecDepth 10000 in
set_option maxHeartbeats 1000000 in
theorem refSize_calls (r : Int) (w : World) : Calls Tryd.prog 87 #[.int .i32 r] w fun e w' => e = .returned (.int .i64 (sizeZ r : Int)) ∧ w' = w := by
 by_cases h0 : r < 0
 ·have e : sizeZ r = 0 := by unfold sizeZ; rw [if_pos (by omega)]
  have i0 : (r < 0) := by omega
  have i1 : ¬ ((55296 : Int) ≤ r) := by omega
  have i2 : (r ≤ 57343) := by omega
  have i3 : ¬ ((1114111 : Int) < r) := by omega
  have i4 : (r < 128) := by omega
  have i5 : (r < 2048) := by omega
  have i6 : (r < 65536) := by omega
  rw [e]
  clear e h0
  go_enter Tryd.func87, Tryd.ntmps87
  go_wp2
  go_ret
  exact ⟨rfl, rfl⟩
 by_cases h1 : r < 128
 ·have e : sizeZ r = 1 := by unfold sizeZ sizeN; rw [if_neg (by omega), if_neg (by omega), if_pos (by omega)]
  have i0 : ¬ (r < 0) := by omega
  have i1 : ¬ ((55296 : Int) ≤ r) := by omega
  have i2 : (r ≤ 57343) := by omega
  have i3 : ¬ ((1114111 : Int) < r) := by omega
  have i4 : (r < 128) := by omega
  have i5 : (r < 2048) := by omega
  have i6 : (r < 65536) := by omega
  rw [e]
  clear e h0 h1
  go_enter Tryd.func87, Tryd.ntmps87
  go_wp2
  go_ret
  exact ⟨rfl, rfl⟩
 by_cases h2 : r < 2048
 ·have e : sizeZ r = 2 := by unfold sizeZ sizeN; rw [if_neg (by omega), if_neg (by omega), if_neg (by omega), if_pos (by omega)]
  have i0 : ¬ (r < 0) := by omega
  have i1 : ¬ ((55296 : Int) ≤ r) := by omega
  have i2 : (r ≤ 57343) := by omega
  have i3 : ¬ ((1114111 : Int) < r) := by omega
  have i4 : ¬ (r < 128) := by omega
  have i5 : (r < 2048) := by omega
  have i6 : (r < 65536) := by omega
  rw [e]
  clear e h0 h1 h2
  go_enter Tryd.func87, Tryd.ntmps87
  go_wp2
  go_ret
  exact ⟨rfl, rfl⟩
 by_cases h3 : r < 55296
 ·have e : sizeZ r = 3 := by unfold sizeZ sizeN; rw [if_neg (by omega), if_neg (by omega), if_neg (by omega), if_neg (by omega), if_pos (by omega)]
  have i0 : ¬ (r < 0) := by omega
  have i1 : ¬ ((55296 : Int) ≤ r) := by omega
  have i2 : (r ≤ 57343) := by omega
  have i3 : ¬ ((1114111 : Int) < r) := by omega
  have i4 : ¬ (r < 128) := by omega
  have i5 : ¬ (r < 2048) := by omega
  have i6 : (r < 65536) := by omega
  rw [e]
  clear e h0 h1 h2 h3
  go_enter Tryd.func87, Tryd.ntmps87
  go_wp2
  go_ret
  exact ⟨rfl, rfl⟩
 by_cases h4 : r < 57344
 ·have e : sizeZ r = 0 := by unfold sizeZ sizeN; rw [if_neg (by omega), if_pos (by omega)]
  have i0 : ¬ (r < 0) := by omega
  have i1 : ((55296 : Int) ≤ r) := by omega
  have i2 : (r ≤ 57343) := by omega
  have i3 : ¬ ((1114111 : Int) < r) := by omega
  have i4 : ¬ (r < 128) := by omega
  have i5 : ¬ (r < 2048) := by omega
  have i6 : (r < 65536) := by omega
  rw [e]
  clear e h0 h1 h2 h3 h4
  go_enter Tryd.func87, Tryd.ntmps87
  go_wp2
  go_ret
  exact ⟨rfl, rfl⟩
 by_cases h5 : r < 65536
 ·have e : sizeZ r = 3 := by unfold sizeZ sizeN; rw [if_neg (by omega), if_neg (by omega), if_neg (by omega), if_neg (by omega), if_pos (by omega)]
  have i0 : ¬ (r < 0) := by omega
  have i1 : ((55296 : Int) ≤ r) := by omega
  have i2 : ¬ (r ≤ 57343) := by omega
  have i3 : ¬ ((1114111 : Int) < r) := by omega
  have i4 : ¬ (r < 128) := by omega
  have i5 : ¬ (r < 2048) := by omega
  have i6 : (r < 65536) := by omega
  rw [e]
  clear e h0 h1 h2 h3 h4 h5
  go_enter Tryd.func87, Tryd.ntmps87
  go_wp2
  go_ret
  exact ⟨rfl, rfl⟩
 by_cases h6 : r ≤ 1114111
 ·have e : sizeZ r = 4 := by unfold sizeZ sizeN; rw [if_neg (by omega), if_neg (by omega), if_neg (by omega), if_neg (by omega), if_neg (by omega)]
  have i0 : ¬ (r < 0) := by omega
  have i1 : ((55296 : Int) ≤ r) := by omega
  have i2 : ¬ (r ≤ 57343) := by omega
  have i3 : ¬ ((1114111 : Int) < r) := by omega
  have i4 : ¬ (r < 128) := by omega
  have i5 : ¬ (r < 2048) := by omega
  have i6 : ¬ (r < 65536) := by omega
  rw [e]
  clear e h0 h1 h2 h3 h4 h5 h6
  go_enter Tryd.func87, Tryd.ntmps87
  go_wp2
  go_ret
  exact ⟨rfl, rfl⟩
 have e : sizeZ r = 0 := by unfold sizeZ sizeN; rw [if_neg (by omega), if_pos (by omega)]
 have i0 : ¬ (r < 0) := by omega
 have i1 : ((55296 : Int) ≤ r) := by omega
 have i2 : ¬ (r ≤ 57343) := by omega
 have i3 : ((1114111 : Int) < r) := by omega
 have i4 : ¬ (r < 128) := by omega
 have i5 : ¬ (r < 2048) := by omega
 have i6 : ¬ (r < 65536) := by omega
 rw [e]
 clear e h0 h1 h2 h3 h4 h5 h6
 go_enter Tryd.func87, Tryd.ntmps87
 go_wp2
 go_ret
 exact ⟨rfl, rfl⟩
end Go.Proofs.YtbabdhepnjacdaaDoor
