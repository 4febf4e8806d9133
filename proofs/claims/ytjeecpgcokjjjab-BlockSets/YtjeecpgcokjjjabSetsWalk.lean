/-
  The law BlockSets as a call: true, and nothing old has turned.
-/
import Derived.Test.YtjeecpgcokjjjabBlockAwake
import Derived.Test.YtjeecpgcokjjjabBlockEq
import Derived.Test.YtjeecpgcokjjjabBlockOpen2
import Derived.Test.YtjeecpgcokjjjabThreeThree
namespace Go.Proofs.Ytjeecpgcokjjjab
open Go.RowKit

theorem kept10 {w wx w1 : World} {c d : Nat → Nat} {s : ByteArray} {x : Nat} (h : (wx.cell? ⟨w.heap.size, 0, none⟩ = some (.int .u64 ((c 0 : Nat) : Int)) ∧ wx.cell? ⟨w.heap.size, 1, none⟩ = some (.int .u64 ((c 1 : Nat) : Int)) ∧ wx.cell? ⟨w.heap.size, 2, none⟩ = some (.int .u64 ((c 2 : Nat) : Int)) ∧ wx.cell? ⟨w.heap.size, 3, none⟩ = some (.int .u64 ((c 3 : Nat) : Int)) ∧ wx.cell? ⟨w.heap.size, 4, none⟩ = some (.int .u64 ((d 0 : Nat) : Int)) ∧ wx.cell? ⟨w.heap.size, 5, none⟩ = some (.int .u64 ((d 1 : Nat) : Int)) ∧ wx.cell? ⟨w.heap.size, 6, none⟩ = some (.int .u64 ((d 2 : Nat) : Int)) ∧ wx.cell? ⟨w.heap.size, 7, none⟩ = some (.int .u64 ((d 3 : Nat) : Int)) ∧ wx.cell? ⟨w.heap.size, 8, none⟩ = some (.string s) ∧ wx.cell? ⟨w.heap.size, 9, none⟩ = some (.int .u8 (x : Int))) ∧ Below w.heap.size w wx) (hb : Below wx.heap.size wx w1) : (w1.cell? ⟨w.heap.size, 0, none⟩ = some (.int .u64 ((c 0 : Nat) : Int)) ∧ w1.cell? ⟨w.heap.size, 1, none⟩ = some (.int .u64 ((c 1 : Nat) : Int)) ∧ w1.cell? ⟨w.heap.size, 2, none⟩ = some (.int .u64 ((c 2 : Nat) : Int)) ∧ w1.cell? ⟨w.heap.size, 3, none⟩ = some (.int .u64 ((c 3 : Nat) : Int)) ∧ w1.cell? ⟨w.heap.size, 4, none⟩ = some (.int .u64 ((d 0 : Nat) : Int)) ∧ w1.cell? ⟨w.heap.size, 5, none⟩ = some (.int .u64 ((d 1 : Nat) : Int)) ∧ w1.cell? ⟨w.heap.size, 6, none⟩ = some (.int .u64 ((d 2 : Nat) : Int)) ∧ w1.cell? ⟨w.heap.size, 7, none⟩ = some (.int .u64 ((d 3 : Nat) : Int)) ∧ w1.cell? ⟨w.heap.size, 8, none⟩ = some (.string s) ∧ w1.cell? ⟨w.heap.size, 9, none⟩ = some (.int .u8 (x : Int))) ∧ Below w.heap.size w w1 := by
  obtain ⟨⟨h0, h1, h2, h3, h4, h5, h6, h7, h8, h9⟩, hw⟩ := h
  have key : ∀ i v, wx.cell? ⟨w.heap.size, i, none⟩ = some v → w1.cell? ⟨w.heap.size, i, none⟩ = some v := fun i v hv => by
    rw [hb.cell (p := ⟨w.heap.size, i, none⟩) (block_lt_of_cell hv)]; exact hv
  exact ⟨⟨key _ _ h0, key _ _ h1, key _ _ h2, key _ _ h3, key _ _ h4, key _ _ h5, key _ _ h6, key _ _ h7, key _ _ h8, key _ _ h9⟩, hw.trans (hb.mono hw.size)⟩
theorem at10 {w wx : World} {c d : Nat → Nat} {s : ByteArray} {x : Nat} {t : TypeId} (h : At wx w.heap.size (clsesArr c d s x) t) : (wx.cell? ⟨w.heap.size, 0, none⟩ = some (.int .u64 ((c 0 : Nat) : Int)) ∧ wx.cell? ⟨w.heap.size, 1, none⟩ = some (.int .u64 ((c 1 : Nat) : Int)) ∧ wx.cell? ⟨w.heap.size, 2, none⟩ = some (.int .u64 ((c 2 : Nat) : Int)) ∧ wx.cell? ⟨w.heap.size, 3, none⟩ = some (.int .u64 ((c 3 : Nat) : Int)) ∧ wx.cell? ⟨w.heap.size, 4, none⟩ = some (.int .u64 ((d 0 : Nat) : Int)) ∧ wx.cell? ⟨w.heap.size, 5, none⟩ = some (.int .u64 ((d 1 : Nat) : Int)) ∧ wx.cell? ⟨w.heap.size, 6, none⟩ = some (.int .u64 ((d 2 : Nat) : Int)) ∧ wx.cell? ⟨w.heap.size, 7, none⟩ = some (.int .u64 ((d 3 : Nat) : Int)) ∧ wx.cell? ⟨w.heap.size, 8, none⟩ = some (.string s) ∧ wx.cell? ⟨w.heap.size, 9, none⟩ = some (.int .u8 (x : Int))) :=
  ⟨h.cell 0, h.cell 1, h.cell 2, h.cell 3, h.cell 4, h.cell 5, h.cell 6, h.cell 7, h.cell 8, h.cell 9⟩

theorem mk_sets {w wx : World} {c d K : Nat → Nat} {s : ByteArray} {x k n0 : Nat} (h1 : At wx w.heap.size (clsesArr c d s x) 27) (h2 : At wx k (clsArr K) 25) (hb : Below w.heap.size w wx) (hn : n0 ≤ wx.heap.size) : ((wx.cell? ⟨w.heap.size, 0, none⟩ = some (.int .u64 ((c 0 : Nat) : Int)) ∧ wx.cell? ⟨w.heap.size, 1, none⟩ = some (.int .u64 ((c 1 : Nat) : Int)) ∧ wx.cell? ⟨w.heap.size, 2, none⟩ = some (.int .u64 ((c 2 : Nat) : Int)) ∧ wx.cell? ⟨w.heap.size, 3, none⟩ = some (.int .u64 ((c 3 : Nat) : Int)) ∧ wx.cell? ⟨w.heap.size, 4, none⟩ = some (.int .u64 ((d 0 : Nat) : Int)) ∧ wx.cell? ⟨w.heap.size, 5, none⟩ = some (.int .u64 ((d 1 : Nat) : Int)) ∧ wx.cell? ⟨w.heap.size, 6, none⟩ = some (.int .u64 ((d 2 : Nat) : Int)) ∧ wx.cell? ⟨w.heap.size, 7, none⟩ = some (.int .u64 ((d 3 : Nat) : Int)) ∧ wx.cell? ⟨w.heap.size, 8, none⟩ = some (.string s) ∧ wx.cell? ⟨w.heap.size, 9, none⟩ = some (.int .u8 (x : Int))) ∧ (wx.cell? ⟨k, 0, none⟩ = some (.int .u64 ((K 0 : Nat) : Int)) ∧ wx.cell? ⟨k, 1, none⟩ = some (.int .u64 ((K 1 : Nat) : Int)) ∧ wx.cell? ⟨k, 2, none⟩ = some (.int .u64 ((K 2 : Nat) : Int)) ∧ wx.cell? ⟨k, 3, none⟩ = some (.int .u64 ((K 3 : Nat) : Int)))) ∧ At wx w.heap.size (clsesArr c d s x) 27 ∧ At wx k (clsArr K) 25 ∧ Below w.heap.size w wx ∧ n0 ≤ wx.heap.size :=
  ⟨⟨at10 h1, h2.four.1⟩, h1, h2, hb, hn⟩
theorem kept_sets {w wx w1 : World} {c d K : Nat → Nat} {s : ByteArray} {x k n0 : Nat} (h : ((wx.cell? ⟨w.heap.size, 0, none⟩ = some (.int .u64 ((c 0 : Nat) : Int)) ∧ wx.cell? ⟨w.heap.size, 1, none⟩ = some (.int .u64 ((c 1 : Nat) : Int)) ∧ wx.cell? ⟨w.heap.size, 2, none⟩ = some (.int .u64 ((c 2 : Nat) : Int)) ∧ wx.cell? ⟨w.heap.size, 3, none⟩ = some (.int .u64 ((c 3 : Nat) : Int)) ∧ wx.cell? ⟨w.heap.size, 4, none⟩ = some (.int .u64 ((d 0 : Nat) : Int)) ∧ wx.cell? ⟨w.heap.size, 5, none⟩ = some (.int .u64 ((d 1 : Nat) : Int)) ∧ wx.cell? ⟨w.heap.size, 6, none⟩ = some (.int .u64 ((d 2 : Nat) : Int)) ∧ wx.cell? ⟨w.heap.size, 7, none⟩ = some (.int .u64 ((d 3 : Nat) : Int)) ∧ wx.cell? ⟨w.heap.size, 8, none⟩ = some (.string s) ∧ wx.cell? ⟨w.heap.size, 9, none⟩ = some (.int .u8 (x : Int))) ∧ (wx.cell? ⟨k, 0, none⟩ = some (.int .u64 ((K 0 : Nat) : Int)) ∧ wx.cell? ⟨k, 1, none⟩ = some (.int .u64 ((K 1 : Nat) : Int)) ∧ wx.cell? ⟨k, 2, none⟩ = some (.int .u64 ((K 2 : Nat) : Int)) ∧ wx.cell? ⟨k, 3, none⟩ = some (.int .u64 ((K 3 : Nat) : Int)))) ∧ At wx w.heap.size (clsesArr c d s x) 27 ∧ At wx k (clsArr K) 25 ∧ Below w.heap.size w wx ∧ n0 ≤ wx.heap.size) (hb : Below wx.heap.size wx w1) : ((w1.cell? ⟨w.heap.size, 0, none⟩ = some (.int .u64 ((c 0 : Nat) : Int)) ∧ w1.cell? ⟨w.heap.size, 1, none⟩ = some (.int .u64 ((c 1 : Nat) : Int)) ∧ w1.cell? ⟨w.heap.size, 2, none⟩ = some (.int .u64 ((c 2 : Nat) : Int)) ∧ w1.cell? ⟨w.heap.size, 3, none⟩ = some (.int .u64 ((c 3 : Nat) : Int)) ∧ w1.cell? ⟨w.heap.size, 4, none⟩ = some (.int .u64 ((d 0 : Nat) : Int)) ∧ w1.cell? ⟨w.heap.size, 5, none⟩ = some (.int .u64 ((d 1 : Nat) : Int)) ∧ w1.cell? ⟨w.heap.size, 6, none⟩ = some (.int .u64 ((d 2 : Nat) : Int)) ∧ w1.cell? ⟨w.heap.size, 7, none⟩ = some (.int .u64 ((d 3 : Nat) : Int)) ∧ w1.cell? ⟨w.heap.size, 8, none⟩ = some (.string s) ∧ w1.cell? ⟨w.heap.size, 9, none⟩ = some (.int .u8 (x : Int))) ∧ (w1.cell? ⟨k, 0, none⟩ = some (.int .u64 ((K 0 : Nat) : Int)) ∧ w1.cell? ⟨k, 1, none⟩ = some (.int .u64 ((K 1 : Nat) : Int)) ∧ w1.cell? ⟨k, 2, none⟩ = some (.int .u64 ((K 2 : Nat) : Int)) ∧ w1.cell? ⟨k, 3, none⟩ = some (.int .u64 ((K 3 : Nat) : Int)))) ∧ At w1 w.heap.size (clsesArr c d s x) 27 ∧ At w1 k (clsArr K) 25 ∧ Below w.heap.size w w1 ∧ n0 ≤ w1.heap.size :=
  mk_sets (h.2.1.keptAll hb) (h.2.2.1.keptAll hb) (h.2.2.2.1.trans (hb.mono h.2.2.2.1.size)) (Nat.le_trans h.2.2.2.2 hb.size)
theorem size_setCell (w : World) (p : Addr) (v : Value) : (w.setCell p v).heap.size = w.heap.size := by simp [World.setCell]
theorem put_sets {w wx : World} {c d K : Nat → Nat} {s : ByteArray} {x k n0 g i : Nat} {v : Value} (h : ((wx.cell? ⟨w.heap.size, 0, none⟩ = some (.int .u64 ((c 0 : Nat) : Int)) ∧ wx.cell? ⟨w.heap.size, 1, none⟩ = some (.int .u64 ((c 1 : Nat) : Int)) ∧ wx.cell? ⟨w.heap.size, 2, none⟩ = some (.int .u64 ((c 2 : Nat) : Int)) ∧ wx.cell? ⟨w.heap.size, 3, none⟩ = some (.int .u64 ((c 3 : Nat) : Int)) ∧ wx.cell? ⟨w.heap.size, 4, none⟩ = some (.int .u64 ((d 0 : Nat) : Int)) ∧ wx.cell? ⟨w.heap.size, 5, none⟩ = some (.int .u64 ((d 1 : Nat) : Int)) ∧ wx.cell? ⟨w.heap.size, 6, none⟩ = some (.int .u64 ((d 2 : Nat) : Int)) ∧ wx.cell? ⟨w.heap.size, 7, none⟩ = some (.int .u64 ((d 3 : Nat) : Int)) ∧ wx.cell? ⟨w.heap.size, 8, none⟩ = some (.string s) ∧ wx.cell? ⟨w.heap.size, 9, none⟩ = some (.int .u8 (x : Int))) ∧ (wx.cell? ⟨k, 0, none⟩ = some (.int .u64 ((K 0 : Nat) : Int)) ∧ wx.cell? ⟨k, 1, none⟩ = some (.int .u64 ((K 1 : Nat) : Int)) ∧ wx.cell? ⟨k, 2, none⟩ = some (.int .u64 ((K 2 : Nat) : Int)) ∧ wx.cell? ⟨k, 3, none⟩ = some (.int .u64 ((K 3 : Nat) : Int)))) ∧ At wx w.heap.size (clsesArr c d s x) 27 ∧ At wx k (clsArr K) 25 ∧ Below w.heap.size w wx ∧ n0 ≤ wx.heap.size) (hg : n0 ≤ g) (h1 : w.heap.size < n0) (h2 : k < n0) : (((wx.setCell ⟨g, i, none⟩ v).cell? ⟨w.heap.size, 0, none⟩ = some (.int .u64 ((c 0 : Nat) : Int)) ∧ (wx.setCell ⟨g, i, none⟩ v).cell? ⟨w.heap.size, 1, none⟩ = some (.int .u64 ((c 1 : Nat) : Int)) ∧ (wx.setCell ⟨g, i, none⟩ v).cell? ⟨w.heap.size, 2, none⟩ = some (.int .u64 ((c 2 : Nat) : Int)) ∧ (wx.setCell ⟨g, i, none⟩ v).cell? ⟨w.heap.size, 3, none⟩ = some (.int .u64 ((c 3 : Nat) : Int)) ∧ (wx.setCell ⟨g, i, none⟩ v).cell? ⟨w.heap.size, 4, none⟩ = some (.int .u64 ((d 0 : Nat) : Int)) ∧ (wx.setCell ⟨g, i, none⟩ v).cell? ⟨w.heap.size, 5, none⟩ = some (.int .u64 ((d 1 : Nat) : Int)) ∧ (wx.setCell ⟨g, i, none⟩ v).cell? ⟨w.heap.size, 6, none⟩ = some (.int .u64 ((d 2 : Nat) : Int)) ∧ (wx.setCell ⟨g, i, none⟩ v).cell? ⟨w.heap.size, 7, none⟩ = some (.int .u64 ((d 3 : Nat) : Int)) ∧ (wx.setCell ⟨g, i, none⟩ v).cell? ⟨w.heap.size, 8, none⟩ = some (.string s) ∧ (wx.setCell ⟨g, i, none⟩ v).cell? ⟨w.heap.size, 9, none⟩ = some (.int .u8 (x : Int))) ∧ ((wx.setCell ⟨g, i, none⟩ v).cell? ⟨k, 0, none⟩ = some (.int .u64 ((K 0 : Nat) : Int)) ∧ (wx.setCell ⟨g, i, none⟩ v).cell? ⟨k, 1, none⟩ = some (.int .u64 ((K 1 : Nat) : Int)) ∧ (wx.setCell ⟨g, i, none⟩ v).cell? ⟨k, 2, none⟩ = some (.int .u64 ((K 2 : Nat) : Int)) ∧ (wx.setCell ⟨g, i, none⟩ v).cell? ⟨k, 3, none⟩ = some (.int .u64 ((K 3 : Nat) : Int)))) ∧ At (wx.setCell ⟨g, i, none⟩ v) w.heap.size (clsesArr c d s x) 27 ∧ At (wx.setCell ⟨g, i, none⟩ v) k (clsArr K) 25 ∧ Below w.heap.size w (wx.setCell ⟨g, i, none⟩ v) ∧ n0 ≤ (wx.setCell ⟨g, i, none⟩ v).heap.size :=
  mk_sets (h.2.1.other (p := ⟨g, i, none⟩) (by show w.heap.size ≠ g; omega) v) (h.2.2.1.other (p := ⟨g, i, none⟩) (by show k ≠ g; omega) v) (h.2.2.2.1.setCell (p := ⟨g, i, none⟩) (by show w.heap.size ≤ g; omega) v) (by rw [size_setCell]; exact h.2.2.2.2)

theorem flip_twice {c : Nat → Nat} (hc : Cls c) : clsArr (fun j => flip (flip (c j))) = clsArr c := clsArr_congr fun j _ => by
  have := hc j
  unfold flip
  omega
/-- Is y among the first n of the bytes? -/
def anyTo (f : Nat → Nat) (y : Nat) : Nat → Bool
  | 0 => false
  | n + 1 => anyTo f y n || decide (f n = y)
theorem has_of (f : Nat → Nat) (y n : Nat) : hasC (ofTo f n) y = anyTo f y n := by
  induction n with
  | zero => simp [ofTo_zero, hasC, anyTo]
  | succ n ih => rw [ofTo_succ, has_join, ih, has_only]; rfl
/-- What is held of the world all through the rounds. -/
def Laid (w : World) (c d O : Nat → Nat) (s : ByteArray) (x k g4 g5 g6 : Nat) (w' : World) : Prop :=
  At w' w.heap.size (clsesArr c d s x) 27 ∧ At w' k (clsArr O) 25 ∧ At w' g4 (clsArr (fun j => c j ||| d j)) 25 ∧ At w' g5 (clsArr (fun j => less (c j) (d j))) 25 ∧ At w' g6 (clsArr (fun j => flip (c j))) 25 ∧ Below w.heap.size w w'
theorem Laid.kept {w wx w1 : World} {c d O : Nat → Nat} {s : ByteArray} {x k g4 g5 g6 : Nat} (h : Laid w c d O s x k g4 g5 g6 wx) (hb : Below wx.heap.size wx w1) : Laid w c d O s x k g4 g5 g6 w1 :=
  ⟨h.1.keptAll hb, h.2.1.keptAll hb, h.2.2.1.keptAll hb, h.2.2.2.1.keptAll hb, h.2.2.2.2.1.keptAll hb, h.2.2.2.2.2.trans (hb.mono h.2.2.2.2.2.size)⟩
theorem Laid.drew {w wx : World} {c d O : Nat → Nat} {s : ByteArray} {x k g4 g5 g6 : Nat} (h : Laid w c d O s x k g4 g5 g6 wx) : Laid w c d O s x k g4 g5 g6 wx.drew := ⟨h.1, h.2.1, h.2.2.1, h.2.2.2.1, h.2.2.2.2.1, h.2.2.2.2.2.drew⟩
theorem Laid.ten {w wx : World} {c d O : Nat → Nat} {s : ByteArray} {x k g4 g5 g6 : Nat} (h : Laid w c d O s x k g4 g5 g6 wx) : (wx.cell? ⟨w.heap.size, 0, none⟩ = some (.int .u64 ((c 0 : Nat) : Int)) ∧ wx.cell? ⟨w.heap.size, 1, none⟩ = some (.int .u64 ((c 1 : Nat) : Int)) ∧ wx.cell? ⟨w.heap.size, 2, none⟩ = some (.int .u64 ((c 2 : Nat) : Int)) ∧ wx.cell? ⟨w.heap.size, 3, none⟩ = some (.int .u64 ((c 3 : Nat) : Int)) ∧ wx.cell? ⟨w.heap.size, 4, none⟩ = some (.int .u64 ((d 0 : Nat) : Int)) ∧ wx.cell? ⟨w.heap.size, 5, none⟩ = some (.int .u64 ((d 1 : Nat) : Int)) ∧ wx.cell? ⟨w.heap.size, 6, none⟩ = some (.int .u64 ((d 2 : Nat) : Int)) ∧ wx.cell? ⟨w.heap.size, 7, none⟩ = some (.int .u64 ((d 3 : Nat) : Int)) ∧ wx.cell? ⟨w.heap.size, 8, none⟩ = some (.string s) ∧ wx.cell? ⟨w.heap.size, 9, none⟩ = some (.int .u8 (x : Int))) := at10 h.1
theorem Laid.six {w wx : World} {c d O : Nat → Nat} {s : ByteArray} {x k g4 g5 g6 : Nat} (h : Laid w c d O s x k g4 g5 g6 wx) : (wx.cell? ⟨g6, 0, none⟩ = some (.int .u64 ((flip (c 0) : Nat) : Int)) ∧ wx.cell? ⟨g6, 1, none⟩ = some (.int .u64 ((flip (c 1) : Nat) : Int)) ∧ wx.cell? ⟨g6, 2, none⟩ = some (.int .u64 ((flip (c 2) : Nat) : Int)) ∧ wx.cell? ⟨g6, 3, none⟩ = some (.int .u64 ((flip (c 3) : Nat) : Int))) := by
  obtain ⟨_, _, _, _, h6, _⟩ := h
  exact h6.four.1
theorem Laid.below {w wx : World} {c d O : Nat → Nat} {s : ByteArray} {x k g4 g5 g6 : Nat} (h : Laid w c d O s x k g4 g5 g6 wx) : Below w.heap.size w wx := by
  obtain ⟨_, _, _, _, _, hb⟩ := h
  exact hb
/-- The same, with the ten cells told one by one. -/
theorem laid_kept {w wx w1 : World} {c d O : Nat → Nat} {s : ByteArray} {x k g4 g5 g6 : Nat} (h : (wx.cell? ⟨w.heap.size, 0, none⟩ = some (.int .u64 ((c 0 : Nat) : Int)) ∧ wx.cell? ⟨w.heap.size, 1, none⟩ = some (.int .u64 ((c 1 : Nat) : Int)) ∧ wx.cell? ⟨w.heap.size, 2, none⟩ = some (.int .u64 ((c 2 : Nat) : Int)) ∧ wx.cell? ⟨w.heap.size, 3, none⟩ = some (.int .u64 ((c 3 : Nat) : Int)) ∧ wx.cell? ⟨w.heap.size, 4, none⟩ = some (.int .u64 ((d 0 : Nat) : Int)) ∧ wx.cell? ⟨w.heap.size, 5, none⟩ = some (.int .u64 ((d 1 : Nat) : Int)) ∧ wx.cell? ⟨w.heap.size, 6, none⟩ = some (.int .u64 ((d 2 : Nat) : Int)) ∧ wx.cell? ⟨w.heap.size, 7, none⟩ = some (.int .u64 ((d 3 : Nat) : Int)) ∧ wx.cell? ⟨w.heap.size, 8, none⟩ = some (.string s) ∧ wx.cell? ⟨w.heap.size, 9, none⟩ = some (.int .u8 (x : Int))) ∧ Laid w c d O s x k g4 g5 g6 wx) (hb : Below wx.heap.size wx w1) : (w1.cell? ⟨w.heap.size, 0, none⟩ = some (.int .u64 ((c 0 : Nat) : Int)) ∧ w1.cell? ⟨w.heap.size, 1, none⟩ = some (.int .u64 ((c 1 : Nat) : Int)) ∧ w1.cell? ⟨w.heap.size, 2, none⟩ = some (.int .u64 ((c 2 : Nat) : Int)) ∧ w1.cell? ⟨w.heap.size, 3, none⟩ = some (.int .u64 ((c 3 : Nat) : Int)) ∧ w1.cell? ⟨w.heap.size, 4, none⟩ = some (.int .u64 ((d 0 : Nat) : Int)) ∧ w1.cell? ⟨w.heap.size, 5, none⟩ = some (.int .u64 ((d 1 : Nat) : Int)) ∧ w1.cell? ⟨w.heap.size, 6, none⟩ = some (.int .u64 ((d 2 : Nat) : Int)) ∧ w1.cell? ⟨w.heap.size, 7, none⟩ = some (.int .u64 ((d 3 : Nat) : Int)) ∧ w1.cell? ⟨w.heap.size, 8, none⟩ = some (.string s) ∧ w1.cell? ⟨w.heap.size, 9, none⟩ = some (.int .u8 (x : Int))) ∧ Laid w c d O s x k g4 g5 g6 w1 :=
  ⟨(h.2.kept hb).ten, h.2.kept hb⟩

set_option maxRecDepth 100000 in
set_option maxHeartbeats 4000000 in
theorem sets_nat (c d : Nat → Nat) (hc : Cls c) (hd : Cls d) (s : ByteArray) (hs : s.size ≤ 9223372036854775807) (x : Nat) (O : Nat → Nat) (hO : Cls O) (HO : Hid (ofTo (byteAt s) s.size = O)) (w : World) :
    Calls Try.prog 3 #[.agg (clsesArr c d s x)] w fun e w' => e = .returned (.bool true) ∧ Below w.heap.size w w' := by
  go_enter Try.func3, Try.ntmps3
  have hA0 := At.new w (clsesArr c d s x) 27
  have hB0 : Below w.heap.size w (w.alloc (.cells (clsesArr c d s x) 27)) := (Below.refl _ _).alloc (Nat.le_refl _) _
  go_wp2_with fail
  refine (awake_calls _).mono ?_
  rintro e w1 ⟨rfl, hb1⟩
  have hA1 := hA0.keptAll hb1
  have hB1 := hB0.trans (hb1.mono hB0.size)
  have hc8 := hA1.cell 8
  simp only [clsesArr, List.getElem?_toArray, List.getElem?_cons_succ, List.getElem?_cons_zero] at hc8
  clear hA0 hB0 hb1
  go_wp2_with fail
  refine (of_calls s hs _).mono ?_
  rintro e w2 ⟨rfl, hb2⟩
  rw [HO.out, clsArr_lit O]
  have hA2 := hA1.keptAll hb2
  have hB2 := hB1.trans (hb2.mono hB1.size)
  clear hA1 hB1 hb2 hc8
  go_wp2
  rw [← clsArr_lit O]
  have hA3 := hA2.alloc (.cells (clsArr O) 25)
  have hG3 := At.new w2 (clsArr O) 25
  have hB3 : Below w.heap.size w (w2.alloc (.cells (clsArr O) 25)) := hB2.alloc hB2.size _
  have hz3 : (w2.alloc (.cells (clsArr O) 25)).heap.size = w2.heap.size + 1 := by simp
  have hlw : w.heap.size < w2.heap.size := hA2.lt
  generalize w2.alloc (.cells (clsArr O) 25) = W3 at *
  clear hA2 hB2
  refine wp_region_held_drew (S := fun w' => ((w'.cell? ⟨w.heap.size, 0, none⟩ = some (.int .u64 ((c 0 : Nat) : Int)) ∧ w'.cell? ⟨w.heap.size, 1, none⟩ = some (.int .u64 ((c 1 : Nat) : Int)) ∧ w'.cell? ⟨w.heap.size, 2, none⟩ = some (.int .u64 ((c 2 : Nat) : Int)) ∧ w'.cell? ⟨w.heap.size, 3, none⟩ = some (.int .u64 ((c 3 : Nat) : Int)) ∧ w'.cell? ⟨w.heap.size, 4, none⟩ = some (.int .u64 ((d 0 : Nat) : Int)) ∧ w'.cell? ⟨w.heap.size, 5, none⟩ = some (.int .u64 ((d 1 : Nat) : Int)) ∧ w'.cell? ⟨w.heap.size, 6, none⟩ = some (.int .u64 ((d 2 : Nat) : Int)) ∧ w'.cell? ⟨w.heap.size, 7, none⟩ = some (.int .u64 ((d 3 : Nat) : Int)) ∧ w'.cell? ⟨w.heap.size, 8, none⟩ = some (.string s) ∧ w'.cell? ⟨w.heap.size, 9, none⟩ = some (.int .u8 (x : Int))) ∧ (w'.cell? ⟨w2.heap.size, 0, none⟩ = some (.int .u64 ((O 0 : Nat) : Int)) ∧ w'.cell? ⟨w2.heap.size, 1, none⟩ = some (.int .u64 ((O 1 : Nat) : Int)) ∧ w'.cell? ⟨w2.heap.size, 2, none⟩ = some (.int .u64 ((O 2 : Nat) : Int)) ∧ w'.cell? ⟨w2.heap.size, 3, none⟩ = some (.int .u64 ((O 3 : Nat) : Int)))) ∧ At w' w.heap.size (clsesArr c d s x) 27 ∧ At w' w2.heap.size (clsArr O) 25 ∧ Below w.heap.size w w' ∧ w2.heap.size + 1 ≤ w'.heap.size) (by kernel_rfl) (mk_sets hA3.drew hG3.drew hB3.drew (by show _ ≤ W3.heap.size; omega)) (fun hHeld => ?_)
  clear hA3 hG3 hB3
  (refine' wpAnyH_take (i := 0) rfl (by kernel_rfl) (by kernel_rfl) (by kernel_rfl) (fun _ _ _ h => h) (Or.inl ⟨by rfl, ?_⟩) (by assumption) ?_; rotate_left; (· (intro wq hq; (try dsimp only at hq); go_simp; first | done | with_reducible rfl)); simp only [Act.put, List.getElem_toArray, List.getElem_cons_zero, List.setIfInBounds_toArray, List.set_cons_zero, List.set_cons_succ])
  (refine' wpAnyH_take (i := 1) rfl (by kernel_rfl) (by kernel_rfl) (by kernel_rfl) (fun _ _ _ h => h) (Or.inl ⟨by rfl, ?_⟩) (by assumption) ?_; rotate_left; (· (intro wq hq; (try dsimp only at hq); go_simp; first | done | with_reducible rfl)); simp only [Act.put, List.getElem_toArray, List.getElem_cons_zero, List.getElem_cons_succ, List.setIfInBounds_toArray, List.set_cons_zero, List.set_cons_succ])
  (refine' wpAnyH_take (i := 2) rfl (by kernel_rfl) (by kernel_rfl) (by kernel_rfl) (fun _ _ _ h => h) (Or.inl ⟨by rfl, ?_⟩) (by assumption) ?_; rotate_left; (· (intro wq hq; (try dsimp only at hq); go_simp; first | done | with_reducible rfl)); simp only [Act.put, List.getElem_toArray, List.getElem_cons_zero, List.getElem_cons_succ, List.setIfInBounds_toArray, List.set_cons_zero, List.set_cons_succ])
  (refine' wpAnyH_take (i := 3) rfl (by kernel_rfl) (by kernel_rfl) (by kernel_rfl) (fun _ _ _ h => h) (Or.inl ⟨by rfl, ?_⟩) (by assumption) ?_; rotate_left; (· (intro wq hq; (try dsimp only at hq); go_simp; first | done | with_reducible rfl)); simp only [Act.put, List.getElem_toArray, List.getElem_cons_zero, List.getElem_cons_succ, List.setIfInBounds_toArray, List.set_cons_zero, List.set_cons_succ])
  (refine' wpAnyH_take (i := 5) rfl (by kernel_rfl) (by kernel_rfl) (by kernel_rfl) (fun _ _ _ h => h) (Or.inl ⟨by rfl, ?_⟩) (by assumption) ?_; rotate_left; (· (intro wq hq; (try dsimp only at hq); go_simp; first | done | with_reducible rfl)); simp only [Act.put, List.getElem_toArray, List.getElem_cons_zero, List.getElem_cons_succ, List.setIfInBounds_toArray, List.set_cons_zero, List.set_cons_succ])
  (refine' wpAnyH_take (i := 6) rfl (by kernel_rfl) (by kernel_rfl) (by kernel_rfl) (fun _ _ _ h => h) (Or.inl ⟨by rfl, ?_⟩) (by assumption) ?_; rotate_left; (· (intro wq hq; (try dsimp only at hq); go_simp; first | done | with_reducible rfl)); simp only [Act.put, List.getElem_toArray, List.getElem_cons_zero, List.getElem_cons_succ, List.setIfInBounds_toArray, List.set_cons_zero, List.set_cons_succ])
  (refine' wpAnyH_take (i := 7) rfl (by kernel_rfl) (by kernel_rfl) (by kernel_rfl) (fun _ _ _ h => h) (Or.inl ⟨by rfl, ?_⟩) (by assumption) ?_; rotate_left; (· (intro wq hq; (try dsimp only at hq); go_simp; first | done | with_reducible rfl)); simp only [Act.put, List.getElem_toArray, List.getElem_cons_zero, List.getElem_cons_succ, List.setIfInBounds_toArray, List.set_cons_zero, List.set_cons_succ])
  (refine' wpAnyH_take (i := 8) rfl (by kernel_rfl) (by kernel_rfl) (by kernel_rfl) (fun _ _ _ h => h) (Or.inl ⟨by rfl, ?_⟩) (by assumption) ?_; rotate_left; (· (intro wq hq; (try dsimp only at hq); go_simp; first | done | with_reducible rfl)); simp only [Act.put, List.getElem_toArray, List.getElem_cons_zero, List.getElem_cons_succ, List.setIfInBounds_toArray, List.set_cons_zero, List.set_cons_succ])
  (refine' wpAnyH_take (i := 10) rfl (by kernel_rfl) (by kernel_rfl) (by kernel_rfl) (fun _ _ _ h => h) (Or.inl ⟨by rfl, ?_⟩) (by assumption) ?_; rotate_left; (· (intro wq hq; (try dsimp only at hq); go_simp; first | done | with_reducible rfl)); simp only [Act.put, List.getElem_toArray, List.getElem_cons_zero, List.getElem_cons_succ, List.setIfInBounds_toArray, List.set_cons_zero, List.set_cons_succ])
  (refine' wpAnyH_take (i := 11) rfl (by kernel_rfl) (by kernel_rfl) (by kernel_rfl) (fun _ _ _ h => h) (Or.inl ⟨by rfl, ?_⟩) (by assumption) ?_; rotate_left; (· (intro wq hq; (try dsimp only at hq); go_simp; first | done | with_reducible rfl)); simp only [Act.put, List.getElem_toArray, List.getElem_cons_zero, List.getElem_cons_succ, List.setIfInBounds_toArray, List.set_cons_zero, List.set_cons_succ])
  refine three_three_go (fuel := 3) (w2.heap.size + 1) 25 #[.int .u64 0, .int .u64 0, .int .u64 0, .int .u64 0] 22 27 30 4 5 6 (.agg (clsArr (fun j => c j ||| d j))) (.agg (clsArr (fun j => less (c j) (d j)))) (.agg (clsArr (fun j => flip (c j))))
    (fun n b4 b5 b6 => #[true, true, true, true, decide (1 ≤ n), true, true, true, true, decide (2 ≤ n), true, true, decide (3 ≤ n), b4, b5, b6, false, false, false]) 4 9 12 13 14 15 undef undef undef (by decide) rfl rfl ?ready ?l1 ?l2 ?l3 ?m4 ?m5 ?m6
    (fun _ _ h hb => kept_sets h hb) (fun _ h => h.2.2.2.2) hHeld ?c1 ?c2 ?c3 ?a4 ?a5 ?a6 ?tail
  case ready =>
    intro n b4 b5 b6 hn ht
    have : n = 0 ∨ n = 1 ∨ n = 2 ∨ n = 3 := by omega
    rcases this with rfl | rfl | rfl | rfl <;> cases b4 <;> cases b5 <;> cases b6 <;> first | exact absurd rfl ht | (show (_ : List Nat) = _; kernel_rfl)
  case l1 => intro b4 b5 b6; cases b4 <;> cases b5 <;> cases b6 <;> rfl
  case l2 => intro b4 b5 b6; cases b4 <;> cases b5 <;> cases b6 <;> rfl
  case l3 => intro b4 b5 b6; cases b4 <;> cases b5 <;> cases b6 <;> rfl
  case m4 => intro n b5 b6 _; rfl
  case m5 => intro n b4 b6 _; rfl
  case m6 => intro n b4 b5 _; rfl
  case c1 =>
    intro x4 x5 x6 wx hx K' hK'
    refine wpOp_step rfl (fun K2 hK2 => ?_)
    have hK3 := fun wz hb => hK2 _ _ (hK' wz hb)
    clear hK2 hK'
    rw [fput_1] at hK3
    rw [fput_0]
    simp only [Act.put, List.setIfInBounds_toArray, List.set_cons_zero, List.set_cons_succ] at hK3 ⊢
    go_simp
    (go_at_call 6; (try rw [← clsArr_lit c]); (try rw [← clsArr_lit d]); refine (join_calls c d hc hd _).mono ?_; rintro e wz ⟨rfl, hb⟩; (try dsimp only))
    exact hK3 wz hb
  case c2 =>
    intro x4 x5 x6 wx hx K' hK'
    refine wpOp_step rfl (fun K2 hK2 => ?_)
    have hK3 := fun wz hb => hK2 _ _ (hK' wz hb)
    clear hK2 hK'
    rw [fput_2] at hK3
    rw [fput_1]
    simp only [Act.put, List.setIfInBounds_toArray, List.set_cons_zero, List.set_cons_succ] at hK3 ⊢
    go_simp
    (go_at_call 7; (try rw [← clsArr_lit c]); (try rw [← clsArr_lit d]); refine (minus_calls c d hc hd _).mono ?_; rintro e wz ⟨rfl, hb⟩; (try dsimp only))
    exact hK3 wz hb
  case c3 =>
    intro x4 x5 x6 wx hx K' hK'
    refine wpOp_step rfl (fun K2 hK2 => ?_)
    have hK3 := fun wz hb => hK2 _ _ (hK' wz hb)
    clear hK2 hK'
    rw [fput_3] at hK3
    rw [fput_2]
    simp only [Act.put, List.setIfInBounds_toArray, List.set_cons_zero, List.set_cons_succ] at hK3 ⊢
    go_simp
    (go_at_call 8; (try rw [← clsArr_lit c]); refine (not_calls c hc _).mono ?_; rintro e wz ⟨rfl, hb⟩; (try dsimp only))
    exact hK3 wz hb
  case a4 =>
    intro b wx K' hK'
    refine wpOp_step rfl (fun K2 hK2 => ?_)
    have hK3 := hK2 _ _ hK'
    clear hK2 hK'
    go_simp
    exact hK3
  case a5 =>
    intro b wx K' hK'
    refine wpOp_step rfl (fun K2 hK2 => ?_)
    have hK3 := hK2 _ _ hK'
    clear hK2 hK'
    go_simp
    exact hK3
  case a6 =>
    intro b wx K' hK'
    refine wpOp_step rfl (fun K2 hK2 => ?_)
    have hK3 := hK2 _ _ hK'
    clear hK2 hK'
    go_simp
    exact hK3
  case tail =>
    intro w4 g4 g5 g6 hS4 h4 h5 h6 n45 n46 n56 l4 l5 l6
    rw [fput_3]
    simp only [Act.put, List.setIfInBounds_toArray, List.set_cons_zero, List.set_cons_succ]
    rw [clsArr_lit (fun j => c j ||| d j), clsArr_lit (fun j => less (c j) (d j)), clsArr_lit (fun j => flip (c j))]
    rw [← clsArr_zero] at h4 h5 h6
    have hlt1 : w.heap.size < w2.heap.size + 1 := by omega
    have hlt2 : w2.heap.size < w2.heap.size + 1 := by omega
    obtain ⟨p4, q4⟩ := h4.four
    refine wpAnyH_ready (rs := [16]) (by kernel_rfl) (by simp) ?_
    refine AllReadyH.cons rfl (fun K hK => ?_) ?_
    · go_simp
      refine hK.out _ _ (put_sets (put_sets (put_sets (put_sets hS4 l4 hlt1 hlt2) l4 hlt1 hlt2) l4 hlt1 hlt2) l4 hlt1 hlt2) (fun hS5 => ?_)
      have k4 := h4.put (fun j => c j ||| d j)
      have k5 := (((h5.other (p := ⟨g4, 0, none⟩) (Ne.symm n45) (.int .u64 ((c 0 ||| d 0 : Nat) : Int))).other (p := ⟨g4, 1, none⟩) (Ne.symm n45) (.int .u64 ((c 1 ||| d 1 : Nat) : Int))).other (p := ⟨g4, 2, none⟩) (Ne.symm n45) (.int .u64 ((c 2 ||| d 2 : Nat) : Int))).other (p := ⟨g4, 3, none⟩) (Ne.symm n45) (.int .u64 ((c 3 ||| d 3 : Nat) : Int))
      have k6 := (((h6.other (p := ⟨g4, 0, none⟩) (Ne.symm n46) (.int .u64 ((c 0 ||| d 0 : Nat) : Int))).other (p := ⟨g4, 1, none⟩) (Ne.symm n46) (.int .u64 ((c 1 ||| d 1 : Nat) : Int))).other (p := ⟨g4, 2, none⟩) (Ne.symm n46) (.int .u64 ((c 2 ||| d 2 : Nat) : Int))).other (p := ⟨g4, 3, none⟩) (Ne.symm n46) (.int .u64 ((c 3 ||| d 3 : Nat) : Int))
      clear hK hS4 h4 h5 h6 p4 q4
      generalize (((w4.setCell ⟨g4, 0, none⟩ (.int .u64 ((c 0 ||| d 0 : Nat) : Int))).setCell ⟨g4, 1, none⟩ (.int .u64 ((c 1 ||| d 1 : Nat) : Int))).setCell ⟨g4, 2, none⟩ (.int .u64 ((c 2 ||| d 2 : Nat) : Int))).setCell ⟨g4, 3, none⟩ (.int .u64 ((c 3 ||| d 3 : Nat) : Int)) = w5 at *
      obtain ⟨p5, q5⟩ := k5.four
      refine wpAnyH_ready (rs := [17]) (by kernel_rfl) (by simp) ?_
      refine AllReadyH.cons rfl (fun K hK => ?_) ?_
      · go_simp
        refine hK.out _ _ (put_sets (put_sets (put_sets (put_sets hS5 l5 hlt1 hlt2) l5 hlt1 hlt2) l5 hlt1 hlt2) l5 hlt1 hlt2) (fun hS6 => ?_)
        have m5 := k5.put (fun j => less (c j) (d j))
        have m4 := (((k4.other (p := ⟨g5, 0, none⟩) n45 (.int .u64 ((less (c 0) (d 0) : Nat) : Int))).other (p := ⟨g5, 1, none⟩) n45 (.int .u64 ((less (c 1) (d 1) : Nat) : Int))).other (p := ⟨g5, 2, none⟩) n45 (.int .u64 ((less (c 2) (d 2) : Nat) : Int))).other (p := ⟨g5, 3, none⟩) n45 (.int .u64 ((less (c 3) (d 3) : Nat) : Int))
        have m6 := (((k6.other (p := ⟨g5, 0, none⟩) (Ne.symm n56) (.int .u64 ((less (c 0) (d 0) : Nat) : Int))).other (p := ⟨g5, 1, none⟩) (Ne.symm n56) (.int .u64 ((less (c 1) (d 1) : Nat) : Int))).other (p := ⟨g5, 2, none⟩) (Ne.symm n56) (.int .u64 ((less (c 2) (d 2) : Nat) : Int))).other (p := ⟨g5, 3, none⟩) (Ne.symm n56) (.int .u64 ((less (c 3) (d 3) : Nat) : Int))
        clear hK hS5 k4 k5 k6 p5 q5
        generalize (((w5.setCell ⟨g5, 0, none⟩ (.int .u64 ((less (c 0) (d 0) : Nat) : Int))).setCell ⟨g5, 1, none⟩ (.int .u64 ((less (c 1) (d 1) : Nat) : Int))).setCell ⟨g5, 2, none⟩ (.int .u64 ((less (c 2) (d 2) : Nat) : Int))).setCell ⟨g5, 3, none⟩ (.int .u64 ((less (c 3) (d 3) : Nat) : Int)) = w6 at *
        obtain ⟨p6, q6⟩ := m6.four
        refine wpAnyH_ready (rs := [18]) (by kernel_rfl) (by simp) ?_
        refine AllReadyH.cons rfl (fun K hK => ?_) ?_
        · go_simp
          refine hK.out _ _ (put_sets (put_sets (put_sets (put_sets hS6 l6 hlt1 hlt2) l6 hlt1 hlt2) l6 hlt1 hlt2) l6 hlt1 hlt2) (fun hS7 => ?_)
          have r6 := m6.put (fun j => flip (c j))
          have r4 := (((m4.other (p := ⟨g6, 0, none⟩) n46 (.int .u64 ((flip (c 0) : Nat) : Int))).other (p := ⟨g6, 1, none⟩) n46 (.int .u64 ((flip (c 1) : Nat) : Int))).other (p := ⟨g6, 2, none⟩) n46 (.int .u64 ((flip (c 2) : Nat) : Int))).other (p := ⟨g6, 3, none⟩) n46 (.int .u64 ((flip (c 3) : Nat) : Int))
          have r5 := (((m5.other (p := ⟨g6, 0, none⟩) n56 (.int .u64 ((flip (c 0) : Nat) : Int))).other (p := ⟨g6, 1, none⟩) n56 (.int .u64 ((flip (c 1) : Nat) : Int))).other (p := ⟨g6, 2, none⟩) n56 (.int .u64 ((flip (c 2) : Nat) : Int))).other (p := ⟨g6, 3, none⟩) n56 (.int .u64 ((flip (c 3) : Nat) : Int))
          clear hK hS6 m4 m5 m6 p6 q6
          generalize (((w6.setCell ⟨g6, 0, none⟩ (.int .u64 ((flip (c 0) : Nat) : Int))).setCell ⟨g6, 1, none⟩ (.int .u64 ((flip (c 1) : Nat) : Int))).setCell ⟨g6, 2, none⟩ (.int .u64 ((flip (c 2) : Nat) : Int))).setCell ⟨g6, 3, none⟩ (.int .u64 ((flip (c 3) : Nat) : Int)) = w7 at *
          refine wpAnyH_done (by kernel_rfl) ?_ _
          have hL7 : Laid w c d O s x w2.heap.size g4 g5 g6 w7 := ⟨hS7.2.1, hS7.2.2.1, r4, r5, r6, hS7.2.2.2.1⟩
          clear hS7 r4 r5 r6 hHeld
          go_wp2
          go_loopw [7] (fun i wr => ∃ k : Nat, k ≤ 256 ∧ i = .int .i64 k ∧ Laid w c d O s x w2.heap.size g4 g5 g6 wr) (fun i _ => 256 - (intOf i).toNat)
          case atStart => exact ⟨0, by omega, rfl, hL7⟩
          case round =>
            obtain ⟨k, hk, rfl, hLr⟩ := hrel
            by_cases hlt : k < 256
            · have hk8 : (k : Int) < 256 := by omega
              have hten := hLr.ten
              have hc8 := hten.2.2.2.2.2.2.2.2.1
              clear hten
              go_wp2
              go_loop [9, 10] (fun st i => ∃ j : Nat, j ≤ s.size ∧ i = .int .i64 j ∧ st = .bool (anyTo (byteAt s) k j)) (fun _ i => s.size - (intOf i).toNat)
              case atStart => exact ⟨0, by omega, rfl, rfl⟩
              case round =>
                obtain ⟨j, hj, rfl, rfl⟩ := hrel
                by_cases hjl : j < s.size
                · have hji : (j : Int) < (s.size : Int) := by omega
                  have hbt := byteAt_eq s j hjl
                  have hst : anyTo (byteAt s) k (j + 1) = (anyTo (byteAt s) k j || decide (byteAt s j = k)) := rfl
                  cases hv : anyTo (byteAt s) k j
                  · rw [hv] at hst
                    by_cases hy : byteAt s j = k
                    · have hyi : ((byteAt s j : Nat) : Int) = (k : Int) := by omega
                      rw [decide_eq_true hy] at hst
                      go_wp2
                      exact ⟨⟨j + 1, by omega, by go_num, by rw [hst]; rfl⟩, by simp [intOf]; omega⟩
                    · have hyi : (((byteAt s j : Nat) : Int) == (k : Int)) = false := by simp; omega
                      rw [decide_eq_false hy] at hst
                      go_wp2
                      exact ⟨⟨j + 1, by omega, by go_num, by rw [hst]; rfl⟩, by simp [intOf]; omega⟩
                  · rw [hv] at hst
                    go_wp2
                    exact ⟨⟨j + 1, by omega, by go_num, by rw [hst]; rfl⟩, by simp [intOf]; omega⟩
                · have hjs : j = s.size := by omega
                  subst hjs
                  have hsum : anyTo (byteAt s) k s.size = hasC O k := by rw [← has_of, HO.out]
                  rw [hsum]
                  clear hsum
                  go_wp2
                  have hLd := hLr.drew
                  have hq0 : (wr.drew.cell? ⟨w.heap.size, 0, none⟩ = some (.int .u64 ((c 0 : Nat) : Int)) ∧ wr.drew.cell? ⟨w.heap.size, 1, none⟩ = some (.int .u64 ((c 1 : Nat) : Int)) ∧ wr.drew.cell? ⟨w.heap.size, 2, none⟩ = some (.int .u64 ((c 2 : Nat) : Int)) ∧ wr.drew.cell? ⟨w.heap.size, 3, none⟩ = some (.int .u64 ((c 3 : Nat) : Int)) ∧ wr.drew.cell? ⟨w.heap.size, 4, none⟩ = some (.int .u64 ((d 0 : Nat) : Int)) ∧ wr.drew.cell? ⟨w.heap.size, 5, none⟩ = some (.int .u64 ((d 1 : Nat) : Int)) ∧ wr.drew.cell? ⟨w.heap.size, 6, none⟩ = some (.int .u64 ((d 2 : Nat) : Int)) ∧ wr.drew.cell? ⟨w.heap.size, 7, none⟩ = some (.int .u64 ((d 3 : Nat) : Int)) ∧ wr.drew.cell? ⟨w.heap.size, 8, none⟩ = some (.string s) ∧ wr.drew.cell? ⟨w.heap.size, 9, none⟩ = some (.int .u8 (x : Int))) ∧ Laid w c d O s x w2.heap.size g4 g5 g6 wr.drew := ⟨hLd.ten, hLd⟩
                  clear hLr hLd hc8
                  refine wp_region_quiet (C := (fun w' => (w'.cell? ⟨w.heap.size, 0, none⟩ = some (.int .u64 ((c 0 : Nat) : Int)) ∧ w'.cell? ⟨w.heap.size, 1, none⟩ = some (.int .u64 ((c 1 : Nat) : Int)) ∧ w'.cell? ⟨w.heap.size, 2, none⟩ = some (.int .u64 ((c 2 : Nat) : Int)) ∧ w'.cell? ⟨w.heap.size, 3, none⟩ = some (.int .u64 ((c 3 : Nat) : Int)) ∧ w'.cell? ⟨w.heap.size, 4, none⟩ = some (.int .u64 ((d 0 : Nat) : Int)) ∧ w'.cell? ⟨w.heap.size, 5, none⟩ = some (.int .u64 ((d 1 : Nat) : Int)) ∧ w'.cell? ⟨w.heap.size, 6, none⟩ = some (.int .u64 ((d 2 : Nat) : Int)) ∧ w'.cell? ⟨w.heap.size, 7, none⟩ = some (.int .u64 ((d 3 : Nat) : Int)) ∧ w'.cell? ⟨w.heap.size, 8, none⟩ = some (.string s) ∧ w'.cell? ⟨w.heap.size, 9, none⟩ = some (.int .u8 (x : Int))) ∧ Laid w c d O s x w2.heap.size g4 g5 g6 w')) (by kernel_rfl) (by kernel_rfl) (hq0) ?_
                  dsimp only
                  repeat (first
                    | (refine wpQuiet_skip (by rfl) ?_; simp only [Act.put, List.setIfInBounds_toArray, List.set_cons_zero, List.set_cons_succ])
                    | (refine' wpQuiet_take (by rfl) ?_ ?_
                       rotate_left
                       · (intro wq hq; (try dsimp only at hq); go_simp
                          first
                            | done
                            | with_reducible rfl
                            | (go_at_call 9; (try rw [← clsArr_lit c]); with_reducible refine (has_calls c hc k hlt _).mono ?_; rintro e wz ⟨rfl, hb⟩; exact ⟨rfl, laid_kept hq hb⟩)
                            | (go_at_call 9; (try rw [← clsArr_lit d]); with_reducible refine (has_calls d hd k hlt _).mono ?_; rintro e wz ⟨rfl, hb⟩; exact ⟨rfl, laid_kept hq hb⟩)
                         )
                       simp only [Act.put, List.setIfInBounds_toArray, List.set_cons_zero, List.set_cons_succ]))
                  refine wpQuiet_nil ?_
                  intro w8 hq8
                  obtain ⟨_, hL8⟩ := hq8
                  clear hq0
                  have hj := has_join c d k
                  have hm := has_less c d k
                  have hn := has_flip hc k
                  cases h1 : hasC c k <;> cases h2 : hasC d k
                  all_goals
                    rw [h1, h2] at hj hm
                    rw [h1] at hn
                    simp only [Bool.or_false, Bool.or_true, Bool.and_true, Bool.and_false, Bool.not_false, Bool.not_true] at hj hm hn
                    have k1 : ∀ wq : World, Calls Try.prog 9 #[.agg #[.int .u64 ((O 0 : Nat) : Int), .int .u64 ((O 1 : Nat) : Int), .int .u64 ((O 2 : Nat) : Int), .int .u64 ((O 3 : Nat) : Int)], .int .u8 ((k : Nat) : Int)] wq fun e w' => e = .returned (.bool (hasC O k)) ∧ Below wq.heap.size wq w' := fun wq => has_calls O hO k hlt wq
                    have k2 : ∀ wq : World, Calls Try.prog 9 #[.agg #[.int .u64 ((c 0 ||| d 0 : Nat) : Int), .int .u64 ((c 1 ||| d 1 : Nat) : Int), .int .u64 ((c 2 ||| d 2 : Nat) : Int), .int .u64 ((c 3 ||| d 3 : Nat) : Int)], .int .u8 ((k : Nat) : Int)] wq fun e w' => e = .returned (.bool (hasC (fun j => c j ||| d j) k)) ∧ Below wq.heap.size wq w' := fun wq => has_calls (fun j => c j ||| d j) (cls_join hc hd) k hlt wq
                    have k3 : ∀ wq : World, Calls Try.prog 9 #[.agg #[.int .u64 ((less (c 0) (d 0) : Nat) : Int), .int .u64 ((less (c 1) (d 1) : Nat) : Int), .int .u64 ((less (c 2) (d 2) : Nat) : Int), .int .u64 ((less (c 3) (d 3) : Nat) : Int)], .int .u8 ((k : Nat) : Int)] wq fun e w' => e = .returned (.bool (hasC (fun j => less (c j) (d j)) k)) ∧ Below wq.heap.size wq w' := fun wq => has_calls (fun j => less (c j) (d j)) (cls_less hc d) k hlt wq
                    have k4 : ∀ wq : World, Calls Try.prog 9 #[.agg #[.int .u64 ((flip (c 0) : Nat) : Int), .int .u64 ((flip (c 1) : Nat) : Int), .int .u64 ((flip (c 2) : Nat) : Int), .int .u64 ((flip (c 3) : Nat) : Int)], .int .u8 ((k : Nat) : Int)] wq fun e w' => e = .returned (.bool (hasC (fun j => flip (c j)) k)) ∧ Below wq.heap.size wq w' := fun wq => has_calls (fun j => flip (c j)) (cls_flip c) k hlt wq
                    rw [hj] at k2
                    rw [hm] at k3
                    rw [hn] at k4
                    clear hj hm hn
                    obtain ⟨f9, _⟩ := hL8.2.1.four
                    go_wp2_with fail
                    refine (k1 _).mono ?_
                    rintro e w9 ⟨rfl, hb9⟩
                    have hL9 := hL8.kept hb9
                    clear f9 hb9 hL8
                    obtain ⟨f10, _⟩ := hL9.2.2.1.four
                    go_wp2_with fail
                    refine (k2 _).mono ?_
                    rintro e w10 ⟨rfl, hb10⟩
                    have hL10 := hL9.kept hb10
                    clear f10 hb10 hL9
                    obtain ⟨f11, _⟩ := hL10.2.2.2.1.four
                    go_wp2_with fail
                    refine (k3 _).mono ?_
                    rintro e w11 ⟨rfl, hb11⟩
                    have hL11 := hL10.kept hb11
                    clear f11 hb11 hL10
                    obtain ⟨f12, _⟩ := hL11.2.2.2.2.1.four
                    go_wp2_with fail
                    refine (k4 _).mono ?_
                    rintro e w12 ⟨rfl, hb12⟩
                    have hL12 := hL11.kept hb12
                    clear f12 hb12 hL11
                    go_wp2
                    go_roundw
                    case rel => exact ⟨k + 1, by omega, by go_num, hL12⟩
                    case measure => simp [intOf]; omega
            · have hk' : k = 256 := by omega
              subst hk'
              have hLd := hLr.drew
              obtain ⟨f6, _⟩ := hLd.2.2.2.2.1.four
              have hq0 : ((wr.drew.cell? ⟨w.heap.size, 0, none⟩ = some (.int .u64 ((c 0 : Nat) : Int)) ∧ wr.drew.cell? ⟨w.heap.size, 1, none⟩ = some (.int .u64 ((c 1 : Nat) : Int)) ∧ wr.drew.cell? ⟨w.heap.size, 2, none⟩ = some (.int .u64 ((c 2 : Nat) : Int)) ∧ wr.drew.cell? ⟨w.heap.size, 3, none⟩ = some (.int .u64 ((c 3 : Nat) : Int)) ∧ wr.drew.cell? ⟨w.heap.size, 4, none⟩ = some (.int .u64 ((d 0 : Nat) : Int)) ∧ wr.drew.cell? ⟨w.heap.size, 5, none⟩ = some (.int .u64 ((d 1 : Nat) : Int)) ∧ wr.drew.cell? ⟨w.heap.size, 6, none⟩ = some (.int .u64 ((d 2 : Nat) : Int)) ∧ wr.drew.cell? ⟨w.heap.size, 7, none⟩ = some (.int .u64 ((d 3 : Nat) : Int)) ∧ wr.drew.cell? ⟨w.heap.size, 8, none⟩ = some (.string s) ∧ wr.drew.cell? ⟨w.heap.size, 9, none⟩ = some (.int .u8 (x : Int))) ∧ (wr.drew.cell? ⟨g6, 0, none⟩ = some (.int .u64 ((flip (c 0) : Nat) : Int)) ∧ wr.drew.cell? ⟨g6, 1, none⟩ = some (.int .u64 ((flip (c 1) : Nat) : Int)) ∧ wr.drew.cell? ⟨g6, 2, none⟩ = some (.int .u64 ((flip (c 2) : Nat) : Int)) ∧ wr.drew.cell? ⟨g6, 3, none⟩ = some (.int .u64 ((flip (c 3) : Nat) : Int)))) ∧ Laid w c d O s x w2.heap.size g4 g5 g6 wr.drew := ⟨⟨hLd.ten, f6⟩, hLd⟩
              clear hLr hLd f6
              have hnn : ∀ wq : World, Calls Try.prog 8 #[.agg #[.int .u64 ((flip (c 0) : Nat) : Int), .int .u64 ((flip (c 1) : Nat) : Int), .int .u64 ((flip (c 2) : Nat) : Int), .int .u64 ((flip (c 3) : Nat) : Int)]] wq fun e w' => e = .returned (.agg #[.int .u64 ((c 0 : Nat) : Int), .int .u64 ((c 1 : Nat) : Int), .int .u64 ((c 2 : Nat) : Int), .int .u64 ((c 3 : Nat) : Int)]) ∧ Below wq.heap.size wq w' := fun wq => by
                have h := not_calls (fun j => flip (c j)) (cls_flip c) wq
                rw [flip_twice hc, clsArr_lit c] at h
                exact h
              have hee : ∀ wq : World, (binOp .eql 25 (.agg #[.int .u64 ((c 0 : Nat) : Int), .int .u64 ((c 1 : Nat) : Int), .int .u64 ((c 2 : Nat) : Int), .int .u64 ((c 3 : Nat) : Int)]) (.agg #[.int .u64 ((c 0 : Nat) : Int), .int .u64 ((c 1 : Nat) : Int), .int .u64 ((c 2 : Nat) : Int), .int .u64 ((c 3 : Nat) : Int)])).run Try.prog wq = .ok (.bool true) wq := eql_same c
              go_wp2
              refine wp_region_quiet (C := (fun w' => ((w'.cell? ⟨w.heap.size, 0, none⟩ = some (.int .u64 ((c 0 : Nat) : Int)) ∧ w'.cell? ⟨w.heap.size, 1, none⟩ = some (.int .u64 ((c 1 : Nat) : Int)) ∧ w'.cell? ⟨w.heap.size, 2, none⟩ = some (.int .u64 ((c 2 : Nat) : Int)) ∧ w'.cell? ⟨w.heap.size, 3, none⟩ = some (.int .u64 ((c 3 : Nat) : Int)) ∧ w'.cell? ⟨w.heap.size, 4, none⟩ = some (.int .u64 ((d 0 : Nat) : Int)) ∧ w'.cell? ⟨w.heap.size, 5, none⟩ = some (.int .u64 ((d 1 : Nat) : Int)) ∧ w'.cell? ⟨w.heap.size, 6, none⟩ = some (.int .u64 ((d 2 : Nat) : Int)) ∧ w'.cell? ⟨w.heap.size, 7, none⟩ = some (.int .u64 ((d 3 : Nat) : Int)) ∧ w'.cell? ⟨w.heap.size, 8, none⟩ = some (.string s) ∧ w'.cell? ⟨w.heap.size, 9, none⟩ = some (.int .u8 (x : Int))) ∧ (w'.cell? ⟨g6, 0, none⟩ = some (.int .u64 ((flip (c 0) : Nat) : Int)) ∧ w'.cell? ⟨g6, 1, none⟩ = some (.int .u64 ((flip (c 1) : Nat) : Int)) ∧ w'.cell? ⟨g6, 2, none⟩ = some (.int .u64 ((flip (c 2) : Nat) : Int)) ∧ w'.cell? ⟨g6, 3, none⟩ = some (.int .u64 ((flip (c 3) : Nat) : Int)))) ∧ Laid w c d O s x w2.heap.size g4 g5 g6 w')) (by kernel_rfl) (by kernel_rfl) (hq0) ?_
              dsimp only
              repeat (first
                | (refine wpQuiet_skip (by rfl) ?_; simp only [Act.put, List.setIfInBounds_toArray, List.set_cons_zero, List.set_cons_succ])
                | (refine' wpQuiet_take (by rfl) ?_ ?_
                   rotate_left
                   · (intro wq hq; (try dsimp only at hq); go_simp
                      first
                        | done
                        | with_reducible rfl
                        | (go_at_call 8; with_reducible refine (hnn _).mono ?_; rintro e wz ⟨rfl, hb⟩; exact ⟨rfl, ⟨(hq.2.kept hb).ten, (hq.2.kept hb).six⟩, hq.2.kept hb⟩)
                     )
                   simp only [Act.put, List.setIfInBounds_toArray, List.set_cons_zero, List.set_cons_succ]))
              refine wpQuiet_nil ?_
              intro w9 hq9
              go_wp2
              go_ret
              exact ⟨rfl, hq9.2.below⟩
        · exact AllReadyH.nil
      · exact AllReadyH.nil
    · exact AllReadyH.nil

theorem blockSets_walk (c d : Nat → Nat) (s : ByteArray) (x : Nat) (hc : Cls c) (hd : Cls d) (hs : s.size ≤ maxLen) (_hx : x < 256) (w : World) :
    Calls Try.prog 3 #[.agg (clsesArr c d s x)] w fun e w' => e = .returned (.bool true) ∧ Below w.heap.size w w' :=
  sets_nat c d hc hd s (by unfold maxLen at hs; omega) x _ (cls_of _ _) rfl w
end Go.Proofs.Ytjeecpgcokjjjab
