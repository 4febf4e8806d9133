/-
  What quarrylaw08.awake answers; what quarryref00.CopyInts answers.
-/
import Derived.Test.YtomeaejjdjidlaaDoorMIndexes
import Derived.Test.YtomeaejjdjidlaaDoorMMins
namespace Go.Proofs.YtomeaejjdjidlaaDoor
open Go.RowKit Go.Shelf

set_option maxRecDepth 10000 in
set_option maxHeartbeats 4000000 in
theorem awake8_calls (w : World) (hT : Tab w) (hM : TabM w) (h0 : 1 < w.heap.size) :
    Calls Tryd.prog 10 #[] w fun e w' => e = .returned (.bool true) ∧ Below w.heap.size w w' := by
  have hC := hid (indexC_calls w hT hM h0)
  have hI := hid (fun (w1 : World) (hb : Below w.heap.size w w1) => minC_calls w1 (hT.below hb (by omega)) (hM.below hb h0) (by have := hb.size; omega))
  have hQ := hid (fun (w1 : World) (hb : Below w.heap.size w w1) => marksQ_calls ⟨#[34, 34]⟩ (by decide) w1 (hT.below hb (by omega)) (by have := hb.size; omega))
  have hfl0 : ∀ (x y : Value) (u : World), (Instr.field 34 (.agg #[x, y]) 0).run Tryd.prog u = .ok x u := fun _ _ _ => by kernel_rfl
  have hsz : ((ByteArray.size ⟨#[34, 34]⟩ : Nat) : Int) = 2 := rfl
  clear hT hM
  go_enter Tryd.func10, Tryd.ntmps10
  go_wp2_with fail
  refine Calls.mono hC.out ?_
  rintro e w1 ⟨ao1, cap1, rfl, hi1, hb1⟩
  have hi1' := hid hi1
  have hb1' := hid hb1
  clear hi1 hb1 hC
  go_wp2_with fail
  refine Calls.mono (sameI_calls [0, 1, 7, 9, 10, 11, 12, 16, 17] 9 rfl (by decide) ao1 _ cap1 _ _ (hi1'.out.kept (Nat.le_refl _) (by repeat (first | with_reducible exact Below.refl _ _ | with_reducible refine Below.setCell ?_ (by first | (simp; done) | (simp; omega)) _ | with_reducible refine below_drewN ?_ _ | with_reducible refine Below.alloc ?_ (by first | (simp; done) | (simp; omega)) _ | with_reducible refine Below.drew ?_))) (small_at (At.new w1 _ _))) ?_
  rintro e w2 ⟨rfl, hb2⟩
  have hB2 : Below w.heap.size w w2 := (hb1'.out.alloc hb1'.out.size _).trans (hb2.mono (hb1'.out.alloc hb1'.out.size _).size)
  clear hi1' hb1' hb2
  go_wp2_with fail
  refine Calls.mono (hI.out _ hB2) ?_
  rintro e w3 ⟨rfl, hb3⟩
  have hB3 := hB2.trans (hb3.mono hB2.size)
  clear hB2 hb3 hI
  go_wp2_with fail
  refine Calls.mono (hQ.out _ hB3) ?_
  rintro e w4 ⟨g4, -, rfl, -, hb4⟩
  have hB4 := hB3.trans (hb4.mono hB3.size)
  clear hB3 hb4 hQ
  go_wp2
  go_ret
  exact ⟨rfl, hB4⟩

set_option maxRecDepth 10000 in
set_option maxHeartbeats 1000000 in
theorem copyI_calls (L : List Nat) (n : Nat) (hn : Hid (L.length = n)) (hl : n ≤ 17592186044000) (ao : Option Addr) (cap : Nat) (w : World) (hA : IntsAt w ao L) :
    Calls Tryd.prog 15 #[.slice ao n cap] w fun e w' => ∃ v, e = .returned v ∧ w'.ownsRow w.heap.size 3 1 v n (ints L) ∧ Below w.heap.size w w' := by
  obtain ⟨i0, hi0, hz0, hz1, hz2⟩ := info_parts infoI8
  have hA' := hid hA
  have hnl : (n : Int) ≤ 17592186044000 := by omega
  clear hA
  go_enter Tryd.func15, Tryd.ntmps15
  go_wp2
  go_loopw [3, 4] (fun v ii wr => ∃ i : Nat, i ≤ n ∧ ii = .int .i64 (i : Int) ∧ wr.ownsRow w.heap.size 3 1 v i (ints (L.take i)) ∧ Below w.heap.size w wr) (fun _ ii _ => n - (intOf ii).toNat)
  case atStart => exact ⟨0, Nat.zero_le _, rfl, by simpa [ints] using World.ownsRow_nil w w.heap.size 3 1, Below.refl _ _⟩
  case round =>
    obtain ⟨i, hi, rfl, hown0, hb⟩ := hrel
    have hown := hid hown0
    have hzW := hb.size
    clear hown0
    by_cases hlt : i < n
    · have hli : (i : Int) < (n : Int) := by omega
      obtain ⟨p, hp⟩ : ∃ p, L[i]? = some p := ⟨_, List.getElem?_eq_getElem (by rw [hn.out]; exact hlt)⟩
      obtain ⟨g, rfl, hg, cg⟩ := hA'.out i p hp
      have s1 := (hb.cell (p := ⟨g, i, none⟩) hg).trans cg
      have hnx : Hid (L.take (i + 1) = L.take i ++ [p]) := by show _ = _; rw [List.take_add_one, hp]; rfl
      clear hp cg
      go_wp2_with (first
        | (at_builtin; refine wpList_append_own _ rfl _ _ 23 rfl w.heap.size 3 i0 (.int .i64 0) 1 8 Tryd.underlying23 hi0 hz0 hz1 hz2 rfl (by decide) _ _ _ rfl (World.ownsRow.alloc hown.out _) ⟨wr.heap.size, 0, none⟩ 1 1 [.int .i64 (p : Int)] rfl rfl (fun j u hj => by match j, hj with | 0, hj => simp at hj; subst hj; simp [Addr.add]) (fun u hu => by simp at hu; subst hu; rfl) (by unfold maxLen; omega) (by omega) (by simp; omega) ?_)
        | go_in)
      intro v' wn hown1 hgrow _
      have hbn := (hb.alloc hb.size (.cells #[.int .i64 (p : Int)] 3)).grown hgrow (by simp; omega) (fun b e => by have := (hown.out.lt b e).1; omega)
      have hown2 : Hid (wn.ownsRow w.heap.size 3 1 v' (i + 1) (ints (L.take (i + 1)))) := by
        show World.ownsRow _ _ _ _ _ _ _
        rw [hnx.out, ints_snoc]
        exact hown1
      clear hgrow hown1 hown
      go_wp2
      go_roundw
      case rel => exact ⟨i + 1, by omega, by simp, hown2.out, hbn⟩
      case measure => simp [intOf]; omega
    · obtain rfl : i = n := by omega
      go_wp2
      go_ret
      refine ⟨_, rfl, ?_, hb⟩
      have h := hown.out
      rw [← hn.out, List.take_length, hn.out] at h
      exact h
end Go.Proofs.YtomeaejjdjidlaaDoor
