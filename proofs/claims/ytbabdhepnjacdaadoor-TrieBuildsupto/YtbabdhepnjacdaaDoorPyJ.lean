/-
 path.Formed.
-/
import Derived.Test.YtbabdhepnjacdaaDoorPyI
namespace Go.Proofs.YtbabdhepnjacdaaDoor
open Go.RowKit Go.Shelf
/-- A list of steps in memory. -/
def StepsAt (w : World) (ao : Option Addr) (ss : List Stp) : Prop := ∀ (i : Nat) (s : Stp), ss[i]? = some s → s.name.size ≤ capT ∧ ∃ b off, ao = some ⟨b, off, none⟩ ∧ b < w.heap.size ∧
 w.rangeAt b (off + i * 3) [.int .i64 s.kind, .string s.name, .int .i64 s.place]
theorem StepsAt.kept {w w' : World} {ao : Option Addr} {ss : List Stp} (h : StepsAt w ao ss) (hb : Below w.heap.size w w') : StepsAt w' ao ss := fun i s hi => by
 obtain ⟨h0, b, off, h1, h2, h3⟩ := h i s hi
 exact ⟨h0, b, off, h1, Nat.lt_of_lt_of_le h2 hb.size, range_kept h3 hb⟩
theorem steps_at {w : World} {ao : Option Addr} {ss : List Stp} {i : Nat} {s : Stp} (h : StepsAt w ao ss) (hi : ss[i]? = some s) : ∃ b off, ao = some ⟨b, off, none⟩ ∧ b < w.heap.size ∧ w.rangeAt b (off + i * 3) [.int .i64 s.kind, .string s.name, .int .i64 s.place] := (h i s hi).2
set_option maxRecDepth 10000 in
set_option maxHeartbeats 4000000 in
theorem formedL_calls (ss : List Stp) (ao : Option Addr) (N cap : Nat) (hN : Hid (ss.length = N)) (hNi : N ≤ 140737488351232) (w : World) (hk : Hid (StepsAt w ao ss)) (hT : Hid (TabU w)) :
  Calls Tryd.prog 25 #[.slice ao N cap] w fun e w' => e = .returned (.bool (ss.all fmS)) ∧ Below w.heap.size w w' := by
 have hNi' : (N : Int) ≤ 140737488351232 := by omega
 go_enter Tryd.func25, Tryd.ntmps25
 go_wp2
 go_loopw [7] (fun ii wr => ∃ i : Nat, i ≤ N ∧ ii = .int .i64 (i : Int) ∧ Hid ((ss.take i).all fmS = true) ∧ Hid (Below w.heap.size w wr)) (fun ii _ => N - (intOf ii).toNat)
 case atStart => exact ⟨0, Nat.zero_le _, rfl, hid (by simp), hid (Below.refl _ _)⟩
 case round =>
  obtain ⟨i, hi, rfl, hall, hb⟩ := hrel
  by_cases hlt : i < N
  ·have hli : (i : Int) < (N : Int) := by omega
   obtain ⟨s, hs⟩ : ∃ s, Hid (ss[i]? = some s) := ⟨_, List.getElem?_eq_getElem (by rw [hN.out]; exact hlt)⟩
   have hk2 := hk.out.kept hb.out
   have hsz := (hk2 i s hs.out).1
   obtain ⟨g, o, rfl, hg, hrg⟩ := steps_at hk2 hs.out
   have htk := hid (show (ss.take (i + 1)).all fmS = ((ss.take i).all fmS && fmS s) by rw [List.take_add_one, hs.out]; simp)
   have hf := hid (fun u h => formed22_calls s (by unfold capT at hsz; omega) u h)
   have hfin := hid (fun (h : fmS s = false) => (show ss.all fmS = false by rw [List.all_eq_false]; exact ⟨s, List.mem_of_getElem? hs.out, by rw [h]; simp⟩))
   obtain ⟨k, nm, pl⟩ := s
   have hrg' := hid hrg
   have A1 := hid (At.new wr #[.int .i64 k, .string nm, .int .i64 pl] 53)
   have B1 := hid (show Below w.heap.size w (wr.alloc (.cells #[.int .i64 k, .string nm, .int .i64 pl] 53)) from hb.out.alloc hb.out.size _)
   have T1 := hid (hT.out.below B1.out)
   have z1 : (Tryd.prog.info? 53).map (·.size) = some ([.int .i64 k, .string nm, .int .i64 pl] : List Value).length := sizeStp
   obtain ⟨q, hq⟩ : ∃ q, wr.heap.size = q := ⟨_, rfl⟩
   rw [hq] at A1
   obtain ⟨W1, hW1⟩ : ∃ W, wr.alloc (.cells #[.int .i64 k, .string nm, .int .i64 pl] 53) = W := ⟨_, rfl⟩
   rw [hW1] at A1 B1 T1
   have c0 := A1.out.cell 0
   have c1 := A1.out.cell 1
   have c2 := A1.out.cell 2
   simp only [List.getElem?_toArray, List.getElem?_cons_zero, List.getElem?_cons_succ] at c0 c1 c2
   dsimp only at hf
   have hlt' := hid (show i + 1 ≤ N by omega)
   cases hfm : fmS ⟨k, nm, pl⟩ with
   | true =>
    rw [hfm] at hf htk
    clear hs hk2 hsz hg hrg hb hfin
    go_wp2_with (first | refine wpList_load_want 53 _ g (o + i * 3) [.int .i64 k, .string nm, .int .i64 pl] _ hrg'.out Tryd.underlying53 z1 rfl rfl rfl (by rfl) ?_ | fail)
    refine Calls.mono (hf.out _ T1.out) ?_
    rintro e w3 ⟨rfl, b3⟩
    have B3 := hid (B1.out.trans (b3.mono B1.out.size))
    clear b3 hf A1 B1 T1 c0 c1 c2 hW1
    go_wp2
    go_roundw
    case rel => exact ⟨i + 1, hlt'.out, by simp, hid (by rw [htk.out, hall.out]; rfl), B3⟩
    case measure => simp [intOf]; have := hlt'.out; omega
   | false =>
    rw [hfm] at hf
    have hres := hid (hfin.out hfm)
    clear hs hk2 hsz hg hrg hb hfin htk
    go_wp2_with (first | refine wpList_load_want 53 _ g (o + i * 3) [.int .i64 k, .string nm, .int .i64 pl] _ hrg'.out Tryd.underlying53 z1 rfl rfl rfl (by rfl) ?_ | fail)
    refine Calls.mono (hf.out _ T1.out) ?_
    rintro e w3 ⟨rfl, b3⟩
    have B3 := hid (B1.out.trans (b3.mono B1.out.size))
    clear b3 hf A1 B1 T1 c0 c1 c2 hW1
    go_wp2
    go_ret
    exact ⟨by rw [hres.out]; rfl, B3.out⟩
  ·obtain rfl : i = N := by omega
   have hfin : Hid (ss.all fmS = true) := hid (by have := hall.out; rwa [List.take_of_length_le (by rw [hN.out]; exact Nat.le_refl _)] at this)
   go_wp2
   go_ret
   exact ⟨by rw [hfin.out]; rfl, hb.out⟩
end Go.Proofs.YtbabdhepnjacdaaDoor
