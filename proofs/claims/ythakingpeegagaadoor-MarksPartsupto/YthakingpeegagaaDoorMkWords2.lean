/-
  What marks.Words answers; the sequence, as a caller takes it.
-/
import Derived.Test.YthakingpeegagaaDoorMkWords
namespace Go.Proofs.YthakingpeegagaaDoor
open Go.RowKit Go.Shelf

theorem PtsAt.kept {W W' : World} {s : ByteArray} {Bl g cap : Nat} {cur : Array Value} (h : PtsAt W s Bl g cap cur) (hb : Below W.heap.size W W') : PtsAt W' s Bl g cap cur := ⟨h.1.keptAll hb, h.2.1.keptAll hb, h.2.2⟩
theorem words_tellF (n : Nat) (hn : 1 ≤ n) (Bl n0 g cap : Nat) (s : ByteArray) (hs : s.size ≤ 1099511627776) (cur : Array Value) (w : World) (hP : PtsAt w s Bl g cap cur) (hT : Tab w) (h0 : 0 < n0) (hn0 : n0 ≤ w.heap.size) :
    SeqTellF n Tryd.prog 32 #[.pointer (some ⟨Bl, 0, none⟩)] (encW (trT s)) (fun b => HeldT n0 b g) ((trT s).length / 2) w :=
  fun l J Jx W hW hJ hJx hY hJ0 => words1_t n hn l Bl n0 g cap s hs cur h0 J Jx W (Nat.le_trans hn0 hW.size) hJ hJx hY (hT.below hW (by omega)) (hP.kept hW) hJ0
theorem rowOf_none8 {G : Nat → Bool} {n j : Nat} (h : n ≤ 64 * j) : rowOf G n j = 0 := (rowOf_eq (by decide) fun r hr => by rw [decide_eq_false (by omega)]; simp).symm
theorem ptV_out (s : ByteArray) (f : Nat) : ptV s (need s.size) f = 0 := by
  have h : s.size ≤ 64 * need s.size := by unfold need; omega
  unfold ptV
  rw [rowOf_none8 h, rowOf_none8 h, rowOf_none8 h, rowOf_none8 h, rowOf_none8 h]
  simp

set_option maxRecDepth 10000 in
set_option maxHeartbeats 2000000 in
theorem words8_calls (s : ByteArray) (hs : s.size ≤ 1099511627776) (w : World) (hT : Tab w) (hM : TabM w) (hw0 : 1 < w.heap.size) :
    Calls Tryd.prog 10 #[.string s] w fun e w' => ∃ Bl g cap cur, e = .returned (.func (.func 32) #[] #[.pointer (some ⟨Bl, 0, none⟩)]) ∧ w.heap.size ≤ g ∧ PtsAt w' s Bl g cap cur ∧ Below w.heap.size w w' := by
  have hmf : ∀ (fn : Fn) (first cap : Array Value) (w : World), (Instr.makeFunc fn first cap).run Tryd.prog w = .ok (.func fn first cap) w := fun _ _ _ _ => rfl
  obtain ⟨i0, hi0, hz0, hz1, hz2⟩ := info_parts infoP
  have hpc := hid (parts_calls s (by omega) w hT hM hw0)
  obtain ⟨K, hK⟩ : ∃ K, Hid (need s.size = K) := ⟨_, rfl⟩
  have hKl : K ≤ 17179869185 := by have := hK.out; unfold need at this; omega
  rw [hK.out] at hpc
  clear hT hM
  go_enter Tryd.func10, Tryd.ntmps10
  go_wp2_with fail
  refine Calls.mono hpc.out ?_
  rintro e w1 ⟨g, hg, rfl, hA, hb⟩
  have hown : Hid (w1.ownsRow w.heap.size 67 5 (.slice (some ⟨g, 0, none⟩) K K) K (rowCells (K * 5) (ptZ s)).toList) :=
    ⟨by rw [Array.length_toList, rowCells_size], .inr ⟨g, K, rowCells (K * 5) (ptZ s), rfl, hg, hA, Nat.le_refl _, by unfold maxLen; omega, by rw [rowCells_size], List.take_of_length_le (by rw [Array.length_toList, rowCells_size]; exact Nat.le_refl _)⟩⟩
  have hsz := hb.size
  have hb' := hid hb
  clear hpc hA hb
  go_wp2_with (first
    | (at_builtin; refine wpList_append_own _ rfl _ _ 64 rfl w.heap.size 67 i0 (.agg #[.int .u64 0, .int .u64 0, .int .u64 0, .int .u64 0, .int .u64 0]) 5 40 Tryd.underlying64 hi0 hz0 hz1 hz2 rfl (by decide) _ _ _ rfl (World.ownsRow.alloc hown.out _) ⟨w1.heap.size, 0, none⟩ 1 1 [.int .u64 0, .int .u64 0, .int .u64 0, .int .u64 0, .int .u64 0] rfl rfl (fun j u hj => by match j, hj with | 0, hj => simp at hj; subst hj; simp [Addr.add] | 1, hj => simp at hj; subst hj; simp [Addr.add] | 2, hj => simp at hj; subst hj; simp [Addr.add] | 3, hj => simp at hj; subst hj; simp [Addr.add] | 4, hj => simp at hj; subst hj; simp [Addr.add]) (fun u hu => by simp at hu; subst hu; rfl) (by unfold maxLen; omega) (by omega) (by simp; omega) ?_)
    | go_in)
  intro v' w2 hown1 hgr _
  have hB2 : Below w.heap.size w w2 := (hb'.out.alloc hsz _).grown hgr (by simp; omega) (fun b e => by cases e; exact hg)
  obtain ⟨g2, cap2, cur, rfl, hg2, hA2, hcur⟩ : ∃ g cap cur, v' = .slice (some ⟨g, 0, none⟩) (K + 1) cap ∧ w.heap.size ≤ g ∧ At w2 g cur 67 ∧ ∀ c, c < (K + 1) * 5 → cur[c]? = some (.int .u64 ((ptZ s c : Nat) : Int)) := by
    rcases hown1.2 with ⟨_, h⟩ | ⟨g', cap', cur, hv, hbg, hga, -, -, -, htk⟩
    · omega
    · refine ⟨g', cap', cur, hv, hbg, hga, fun c hc => ?_⟩
      have e1 : cur[c]? = (cur.toList.take ((K + 1) * 5))[c]? := by rw [List.getElem?_take, if_pos hc, Array.getElem?_toList]
      rw [e1, htk]
      by_cases hl : c < K * 5
      · rw [List.getElem?_append_left (by rw [Array.length_toList, rowCells_size]; exact hl), Array.getElem?_toList, rowCells_get _ hl]
      · rw [List.getElem?_append_right (by rw [Array.length_toList, rowCells_size]; omega), Array.length_toList, rowCells_size]
        have hz : ptZ s c = 0 := by rw [ptZ, show c / 5 = need s.size by rw [hK.out]; omega]; exact ptV_out s _
        rw [hz]
        obtain ⟨d, hd⟩ : ∃ d, c - K * 5 = d := ⟨_, rfl⟩
        rw [hd]
        obtain rfl | rfl | rfl | rfl | rfl : d = 0 ∨ d = 1 ∨ d = 2 ∨ d = 3 ∨ d = 4 := by omega
        all_goals rfl
  have hA2' := hid hA2
  have hcur' := hid hcur
  have hs2 := hB2.size
  clear hgr hown1 hown hA2 hcur
  go_wp2
  go_ret
  refine ⟨_, g2, cap2, cur, rfl, hg2, ⟨?_, hA2'.out.alloc _, ?_⟩, hB2.alloc hs2 _⟩
  · rw [hK.out]; exact At.new w2 _ _
  · rw [hK.out]; exact hcur'.out
end Go.Proofs.YthakingpeegagaaDoor
