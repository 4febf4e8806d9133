/-
  What quarryref02.Cut answers.
-/
import Derived.Test.YtjeecpgcokjjjaaBlockCut2
namespace Go.Proofs.Ytjeecpgcokjjjaa
open Go.RowKit

/-- The first k bytes are f's, the others g's. -/
def mixF (f g : Nat → Nat) (k i : Nat) : Nat := if i < k then f i else g i
theorem arr64_set (f : Nat → Nat) (k v : Nat) : (arr64 f).setIfInBounds k (.int .u8 ((v : Nat) : Int)) = arr64 (fun i => if i = k then v else f i) := by
  apply Array.ext
  · simp [arr64]
  · intro i h1 h2
    have hi : i < 64 := by simpa [arr64] using h2
    by_cases e : k = i
    · subst e; simp [arr64]
    · rw [Array.getElem_setIfInBounds_ne (by simp [arr64]; omega) e]
      simp only [arr64, Array.getElem_ofFn]
      rw [if_neg (fun h => e h.symm)]
theorem mix_zero (f g : Nat → Nat) : arr64 (mixF f g 0) = arr64 g := arr64_congr fun j _ => by simp [mixF]
theorem mix_full (f g : Nat → Nat) : arr64 (mixF f g 64) = arr64 f := arr64_congr fun j hj => by simp [mixF, hj]
theorem mix_at (f g : Nat → Nat) (k : Nat) (h : k < 64) : (arr64 (mixF f g k))[k]? = some (.int .u8 ((g k : Nat) : Int)) := by
  rw [arr64_at _ _ h]; simp [mixF]
theorem mix_set (f g : Nat → Nat) (k : Nat) : arr64 (fun i => if i = k then f k else mixF f g k i) = arr64 (mixF f g (k + 1)) := by
  refine arr64_congr fun j _ => ?_
  unfold mixF
  by_cases e : j = k
  · subst e; simp
  · by_cases l : j < k
    · simp [l, e, Nat.lt_succ_of_lt l]
    · have : ¬ j < k + 1 := by omega
      simp [l, e, this]
theorem mix_set2 (f g : Nat → Nat) (k v : Nat) : (arr64 (fun i => if i = k then v else mixF f g k i)).setIfInBounds k (.int .u8 ((f k : Nat) : Int)) = arr64 (mixF f g (k + 1)) := by
  rw [arr64_set, ← mix_set]
  refine arr64_congr fun j _ => ?_
  by_cases e : j = k <;> simp [e]

set_option maxRecDepth 100000 in
set_option maxHeartbeats 2000000 in
theorem refCut_nat (s : ByteArray) (hs : s.size ≤ 9223372036854775807) (a : Int) (ha : -9223372036854775808 ≤ a) (ha' : a < 9223372036854775808) (p : Nat) (n : Nat) (Hn : Hid (cutN s a = n)) (w : World) :
    Calls Try.prog 24 #[.string s, .int .i64 a, .int .u8 (p : Int)] w fun e w' => e = .returned (.tuple #[.agg (arr64 (cutF s a p)), .int .i64 (n : Int)]) ∧ Below w.heap.size w w' := by
  have hcase : (0 ≤ a ∧ a < s.size ∧ (((64 : Int) < s.size - a ∧ n = 64) ∨ ((s.size : Int) - a ≤ 64 ∧ (n : Int) = s.size - a))) ∨ (¬ (0 ≤ a ∧ a < s.size) ∧ n = 0) := by
    have h := Hn.out
    unfold cutN at h
    by_cases hin : 0 ≤ a ∧ a < s.size
    · rw [if_pos hin] at h
      have hm : Nat.min (s.size - a.toNat) 64 = if s.size - a.toNat ≤ 64 then s.size - a.toNat else 64 := Nat.min_def
      rw [hm] at h
      split at h <;> omega
    · rw [if_neg hin] at h
      exact .inr ⟨hin, h.symm⟩
  have hn64 : n ≤ 64 := by omega
  have hnk : ∀ k : Nat, k < n → 0 ≤ a ∧ a + k < s.size := by intro k hk; omega
  have hnk' : ∀ k : Nat, k < 64 → ¬ k < n → ¬ (0 ≤ a ∧ a + k < s.size) := by intro k h1 h2; omega
  have Hc : Hid _ := hcase
  have Hk : Hid _ := hnk
  have Hk' : Hid _ := hnk'
  clear hcase hnk hnk'
  go_enter Try.func24, Try.ntmps24
  go_wp2
  all_goals
    rw [zero64]
    go_loopw [10] (fun i wr => ∃ k : Nat, k ≤ 64 ∧ i = .int .i64 k ∧ wr = (w.alloc (.cells (arr64 fun _ => 0) 33)).alloc (.cells (arr64 (mixF (cutF s a p) (fun _ => 0) k)) 33)) (fun i _ => 64 - (intOf i).toNat)
    case atStart =>
      exact ⟨0, by omega, rfl, by rw [mix_zero]⟩
    case round =>
      obtain ⟨k, hk, rfl, rfl⟩ := hrel
      by_cases hlt : k < 64
      · have hk8 : (k : Int) < 64 := by omega
        have hc := mix_at (cutF s a p) (fun _ => 0) k hlt
        have hs1 := arr64_set (mixF (cutF s a p) (fun _ => 0) k) k p
        have hc2 : (arr64 (fun i => if i = k then p else mixF (cutF s a p) (fun _ => 0) k i))[k]? = some (.int .u8 ((p : Nat) : Int)) := by rw [arr64_at _ _ hlt]; simp
        by_cases hkn : k < n
        · obtain ⟨q1, q2⟩ := Hk.out k hkn
          obtain ⟨A, rfl⟩ := Int.eq_ofNat_of_zero_le q1
          have hkni : (k : Int) < (n : Int) := by omega
          have hAk : A + k < s.size := by omega
          have hbt := byteAt_eq s (A + k) hAk
          have hf : byteAt s (A + k) = cutF s A p k := by rw [cutF, if_pos ⟨q1, q2⟩, Int.toNat_natCast]
          rw [hf] at hbt
          have hs2 := mix_set2 (cutF s A p) (fun _ => 0) k p
          have hx1 : (k : Int) < (s.size : Int) - (A : Int) := by omega
          have hcase := Hc.out
          have hx0 : (0 : Int) ≤ (A : Int) + (k : Int) := by omega
          first
            | (exfalso; omega)
            | (clear hcase
               go_wp2
               exact ⟨⟨k + 1, by omega, by go_num, rfl⟩, by simp [intOf]; omega⟩)
        · have hkni : ¬ (k : Int) < (n : Int) := by omega
          have hf : cutF s a p k = p := by rw [cutF, if_neg (Hk'.out k hlt hkn)]
          have hs2 := mix_set (cutF s a p) (fun _ => 0) k
          rw [hf] at hs2
          have hcase := Hc.out
          have hx3 : ¬ (k : Int) < 0 := by omega
          first
            | (exfalso; omega)
            | (have hx2 : ¬ (k : Int) < (s.size : Int) - a := by omega
               clear hcase
               go_wp2
               exact ⟨⟨k + 1, by omega, by go_num, rfl⟩, by simp [intOf]; omega⟩)
            | (clear hcase
               go_wp2
               exact ⟨⟨k + 1, by omega, by go_num, rfl⟩, by simp [intOf]; omega⟩)
      · have hk' : k = 64 := by omega
        subst hk'
        rw [mix_full]
        have hA1 := At.new (w.alloc (.cells (arr64 fun _ => 0) 33)) (arr64 (cutF s a p)) 33
        have hR1 := (At.new w (arr64 fun _ => 0) 33).alloc (.cells (arr64 (cutF s a p)) 33)
        have hB1 : Below w.heap.size w ((w.alloc (.cells (arr64 fun _ => 0) 33)).alloc (.cells (arr64 (cutF s a p)) 33)) := by repeat (first | with_reducible exact Below.refl _ _ | with_reducible refine Below.setCell ?_ (by first | (simp; done) | (simp; omega)) _ | with_reducible refine below_drewN ?_ _ | with_reducible refine Below.alloc ?_ (by first | (simp; done) | (simp; omega)) _ | with_reducible refine Below.drew ?_)
        simp only [World.size_alloc] at hA1
        generalize (w.alloc (.cells (arr64 fun _ => 0) 33)).alloc (.cells (arr64 (cutF s a p)) 33) = w1 at *
        obtain ⟨L, hLt, hLl⟩ := arr64_list (cutF s a p)
        have hL1 := arr64_one _ hLt
        have hiL : (Try.prog.info? 33).map (·.size) = some L.length := by rw [hLl]; exact info64
        have hrg := hA1.range hLt
        have hth := At.there hR1 64 (arr64_size _)
        have hth' : w1.there w.heap.size 0 L.toArray.size := by simpa [hLl] using hth
        have hiL' : (Try.prog.info? 33).map (·.size) = some L.toArray.size := by simpa using hiL
        have hR3 := hR1.setCells L (by rw [arr64_size, hLl])
        have hB3 := below_setCells hB1 (Nat.le_refl _) L 0
        generalize hW3 : (w1).setCells w.heap.size 0 L = W3 at hR3 hB3
        have hLt' : Hid (L.toArray = arr64 (cutF s a p)) := hLt
        clear hLt
        go_wp2_with (first
          | (refine wpList_load_mid rfl 33 _ rfl (w.heap.size + 1) 0 rfl L _ hrg Try.underlying33 rfl hiL ?_)
          | (refine wpList_store_mid rfl 33 _ _ rfl w.heap.size 0 L.toArray rfl rfl hth' hiL' (all_oneCell_toArray hL1) ?_))
        refine bodyPost_ret (v := .tuple #[.agg (arr64 (cutF s a p)), .int .i64 (n : Int)]) ?_ rfl ⟨rfl, hB3⟩
        rw [results_cell_tmp rfl]
        have hl3 := run_loadVar_mid (P := Try.prog) W3 w.heap.size 0 33 L _ (hR3.range rfl) Try.underlying33 rfl hiL
        rw [hLt'.out] at hl3
        have hcase := Hc.out
        simp [asAddr, hl3]
        try omega
end Go.Proofs.Ytjeecpgcokjjjaa
