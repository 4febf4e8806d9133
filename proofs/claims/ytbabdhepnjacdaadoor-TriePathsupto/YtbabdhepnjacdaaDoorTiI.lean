/-
 quarryref23.Count, times.
-/
import Derived.Test.YtbabdhepnjacdaaDoorTiG
namespace Go.Proofs.YtbabdhepnjacdaaDoor
open Go.RowKit Go.Shelf
/-- A node's lists, in each world that keeps what lies below. -/
theorem node_at {w : World} {t : List Nod} {ao : Option Addr} (hk : NodesAt w ao t) {i : Nat} {n : Nod} (hn : t[i]? = some n) : ∃ g o sa sc ta tc ea ec, ao = some ⟨g, o, none⟩ ∧ StepsAt w sa n.steps ∧ stpB n.steps ∧ IntsZ w ta n.tos ∧ IntsZ w ea n.ends ∧
  (∀ u, Below w.heap.size w u → u.cell? ⟨g, o + i * 3, none⟩ = some (.slice sa n.steps.length sc) ∧ u.cell? ⟨g, o + i * 3 + 1, none⟩ = some (.slice ta n.tos.length tc) ∧ u.cell? ⟨g, o + i * 3 + 2, none⟩ = some (.slice ea n.ends.length ec) ∧ u.rangeAt g (o + i * 3) [.slice sa n.steps.length sc, .slice ta n.tos.length tc, .slice ea n.ends.length ec]) := by
 obtain ⟨g, o, cs, rfl, hg, hrg0, sa, sc, ta, tc, ea, ec, rfl, hS, hSB, hT, hE⟩ := hk i n hn
 refine ⟨g, o, sa, sc, ta, tc, ea, ec, rfl, hS, hSB, hT, hE, fun u hu => ?_⟩
 have hr := range_kept hrg0 hu
 exact ⟨by have := hr 0 _ rfl; rwa [Nat.add_zero] at this, hr 1 _ rfl, hr 2 _ rfl, hr⟩
theorem ints_at {w : World} {ao : Option Addr} {L : List Int} (h : IntsZ w ao L) {i : Nat} {x : Int} (hi : L[i]? = some x) : ∃ g o, ao = some ⟨g, o, none⟩ ∧ ∀ u, Below w.heap.size w u → u.cell? ⟨g, o + i, none⟩ = some (.int .i64 x) := by
 obtain ⟨-, g, o, rfl, hg, hc⟩ := h i x hi
 exact ⟨g, o, rfl, fun u hu => (hu.cell (p := ⟨g, o + i, none⟩) hg).trans hc⟩
set_option maxRecDepth 10000 in
set_option maxHeartbeats 4000000 in
theorem count23_calls (t : List Nod) (ao : Option Addr) (N cap : Nat) (hN : Hid (t.length = N)) (hm : Hid (Mid t)) (w : World) (hk : Hid (NodesAt w ao t)) :
  Calls Tryd.prog 42 #[.slice ao N cap] w fun e w' => e = .returned (.int .i64 ((enA t).length : Nat)) ∧ Below w.heap.size w w' := by
 have hNi : N ≤ 1048576 := by have := hm.out.1; have := hN.out; omega
 have hNi' : (N : Int) ≤ 1048576 := by omega
 go_enter Tryd.func42, Tryd.ntmps42
 go_wp2
 go_loopw [3, 4] (fun cc ii wr => ∃ i c : Nat, i ≤ N ∧ ii = .int .i64 (i : Int) ∧ cc = .int .i64 (c : Int) ∧ c ≤ 1048576 ∧ Hid (c = (enA (t.take i)).length) ∧ Hid (Below w.heap.size w wr)) (fun _ ii _ => N - (intOf ii).toNat)
 case atStart => exact ⟨0, 0, Nat.zero_le _, rfl, rfl, by omega, hid (by simp [enA]), hid (Below.refl _ _)⟩
 case round =>
  obtain ⟨i, c, hi, rfl, rfl, hcb, hc, hb⟩ := hrel
  by_cases hlt : i < N
  ·have hli : (i : Int) < (N : Int) := by omega
   obtain ⟨n, hn⟩ : ∃ n, Hid (t[i]? = some n) := ⟨_, List.getElem?_eq_getElem (by rw [hN.out]; exact hlt)⟩
   obtain ⟨g, o, sa, sc, ta, tc, ea, ec, rfl, -, -, -, -, hcl⟩ := node_at hk.out hn.out
   have d2 := (hcl wr hb.out).2.2.1
   have hlt' := hid (show i + 1 ≤ N by omega)
   have hsu := hid (flat_succ Nod.ends hn.out)
   have hpre := hid (flat_pre Nod.ends hn.out n.ends.length)
   have hM1 := hid (show c + n.ends.length = (enA (t.take (i + 1))).length by unfold enA; rw [hsu.out, List.length_append, hc.out]; rfl)
   have hM2 : c + n.ends.length ≤ 1048576 := by
    have h1 := hpre.out.length_le
    have h2 := hm.out.2.2.1
    have h3 := hc.out
    unfold enA at h2 h3
    rw [List.length_append, List.take_length] at h1
    omega
   generalize n.ends.length = M at d2 hM1 hM2
   have hM3 : (c : Int) + (M : Int) ≤ 1048576 := by omega
   have hM4 := hid hM2
   clear hcl
   go_wp2
   go_roundw
   case rel => exact ⟨i + 1, c + M, hlt'.out, by simp, by simp, hM4.out, hM1, hb⟩
   case measure => simp [intOf]; have := hlt'.out; omega
  ·obtain rfl : i = N := by omega
   have htk : Hid (t.take i = t) := hid (List.take_of_length_le (by rw [hN.out]; exact Nat.le_refl _))
   rw [htk.out] at hc
   have hc' := hid hc.out
   clear hc
   go_wp2
   go_ret
   exact ⟨by rw [← hc'.out] <;> rfl, hb.out⟩
theorem count_snoc {A L : List Int} {j : Nat} {y x : Int} (h : L[j]? = some y) : (A ++ L.take (j + 1)).count x = (A ++ L.take j).count x + if y = x then 1 else 0 := by
 rw [take_snoc h, ← List.append_assoc, List.count_append, List.count_singleton]
 simp
set_option maxRecDepth 10000 in
set_option maxHeartbeats 4000000 in
theorem times23_calls (t : List Nod) (ao : Option Addr) (N cap : Nat) (hN : Hid (t.length = N)) (hm : Hid (Mid t)) (x : Int) (w : World) (hk : Hid (NodesAt w ao t)) :
  Calls Tryd.prog 45 #[.slice ao N cap, .int .i64 x] w fun e w' => e = .returned (.tuple #[.int .i64 ((toA t).count x : Nat), .int .i64 ((enA t).count x : Nat)]) ∧ Below w.heap.size w w' := by
 have hNi : N ≤ 1048576 := by have := hm.out.1; have := hN.out; omega
 have hNi' : (N : Int) ≤ 1048576 := by omega
 go_enter Tryd.func45, Tryd.ntmps45
 go_wp2
 go_loopw [6, 7, 8] (fun cc dd ii wr => ∃ i c d : Nat, i ≤ N ∧ ii = .int .i64 (i : Int) ∧ cc = .int .i64 (c : Int) ∧ dd = .int .i64 (d : Int) ∧ c ≤ 1048576 ∧ d ≤ 1048576 ∧ Hid (c = (toA (t.take i)).count x) ∧ Hid (d = (enA (t.take i)).count x) ∧ Hid (Below w.heap.size w wr)) (fun _ _ ii _ => N - (intOf ii).toNat)
 case atStart => exact ⟨0, 0, 0, Nat.zero_le _, rfl, rfl, rfl, by omega, by omega, hid (by simp [toA]), hid (by simp [enA]), hid (Below.refl _ _)⟩
 case round =>
  obtain ⟨i, c, d, hi, rfl, rfl, rfl, hcb, hdb, hc, hd, hb⟩ := hrel
  by_cases hlt : i < N
  ·have hli : (i : Int) < (N : Int) := by omega
   obtain ⟨n, hn⟩ : ∃ n, Hid (t[i]? = some n) := ⟨_, List.getElem?_eq_getElem (by rw [hN.out]; exact hlt)⟩
   obtain ⟨g, o, sa, sc, ta, tc, ea, ec, rfl, -, -, hT, hE, hcl⟩ := node_at hk.out hn.out
   have hT' := hid hT
   have hE' := hid hE
   have hcl' := hid hcl
   have hlt' := hid (show i + 1 ≤ N by omega)
   have hsT := hid (flat_succ Nod.tos hn.out)
   have hsE := hid (flat_succ Nod.ends hn.out)
   have hpT := hid (flat_pre Nod.tos hn.out)
   have hpE := hid (flat_pre Nod.ends hn.out)
   have hbT := hid (fun j => (show (toA (t.take i) ++ n.tos.take j).count x ≤ 1048576 by
    have h1 := (hpT.out j).count_le x
    have h2 : (toA t).count x ≤ (toA t).length := List.count_le_length
    have h3 := hm.out.2.1
    unfold toA at h2 h3 ⊢
    omega))
   have hbE := hid (fun j => (show (enA (t.take i) ++ n.ends.take j).count x ≤ 1048576 by
    have h1 := (hpE.out j).count_le x
    have h2 : (enA t).count x ≤ (enA t).length := List.count_le_length
    have h3 := hm.out.2.2.1
    unfold enA at h2 h3 ⊢
    omega))
   obtain ⟨M, hM⟩ : ∃ M, Hid (n.tos.length = M) := ⟨_, rfl⟩
   obtain ⟨K, hK⟩ : ∃ K, Hid (n.ends.length = K) := ⟨_, rfl⟩
   have hMb : M ≤ 1048576 := by
    have h1 := (hpT.out M).length_le
    have h2 := hm.out.2.1
    have := hM.out
    unfold toA at h2
    rw [List.length_append, List.length_take] at h1
    omega
   have hKb : K ≤ 1048576 := by
    have h1 := (hpE.out K).length_le
    have h2 := hm.out.2.2.1
    have := hK.out
    unfold enA at h2
    rw [List.length_append, List.length_take] at h1
    omega
   have hMi : (M : Int) ≤ 1048576 := by omega
   have hKi : (K : Int) ≤ 1048576 := by omega
   have hck := hid (fun u hu => (hcl'.out u hu).2.1)
   have hek := hid (fun u hu => (hcl'.out u hu).2.2.1)
   rw [hM.out] at hck
   rw [hK.out] at hek
   clear hT hE hcl hcl'
   go_wp2
   go_loopw [6, 9] (fun cc jj wr => ∃ j c : Nat, j ≤ M ∧ jj = .int .i64 (j : Int) ∧ cc = .int .i64 (c : Int) ∧ c ≤ 1048576 ∧ Hid (c = (toA (t.take i) ++ n.tos.take j).count x) ∧ Hid (Below w.heap.size w wr)) (fun _ jj _ => M - (intOf jj).toNat)
   case atStart => exact ⟨0, c, Nat.zero_le _, rfl, rfl, hcb, hid (by simpa using hc.out), hb⟩
   case round =>
    clear hc hcb hb
    obtain ⟨j, c, hj, rfl, rfl, hcb, hc, hb⟩ := hrel
    have d1 := hck.out wr hb.out
    by_cases hjl : j < M
    ·have hji : (j : Int) < (M : Int) := by omega
     obtain ⟨y, hy⟩ : ∃ y, Hid (n.tos[j]? = some y) := ⟨_, List.getElem?_eq_getElem (by rw [hM.out]; exact hjl)⟩
     obtain ⟨g2, o2, rfl, hcy⟩ := ints_at hT'.out hy.out
     have cy := hcy wr hb.out
     have ad1 : (⟨g2, o2, none⟩ : Addr).add j = ⟨g2, o2 + j, none⟩ := by by_cases h : j = 0 <;> simp [Addr.add, h]
     have hj' := hid (show j + 1 ≤ M by omega)
     have hsn := hid (count_snoc (A := toA (t.take i)) (x := x) hy.out)
     have hbn := hid (hbT.out (j + 1))
     clear hcy
     by_cases h : y = x
     ·subst h
      have e0 : (y == y) = true := by simp
      rw [if_pos rfl] at hsn
      have hc1 := hid (show c + 1 = (toA (t.take i) ++ n.tos.take (j + 1)).count y by rw [hsn.out, hc.out])
      have hc2 := hid (show c + 1 ≤ 1048576 by rw [hc1.out]; exact hbn.out)
      clear hsn hbn hc
      go_wp2
      go_roundw
      case rel => exact ⟨j + 1, c + 1, hj'.out, by simp, by simp, hc2.out, hc1, hb⟩
      case measure => simp [intOf]; have := hj'.out; omega
     ·have e0 : (y == x) = false := beq_eq_false_iff_ne.2 h
      rw [if_neg h] at hsn
      have hc1 := hid (show c = (toA (t.take i) ++ n.tos.take (j + 1)).count x by rw [hsn.out, hc.out]; rfl)
      clear hsn hbn hc h
      go_wp2
      go_roundw
      case rel => exact ⟨j + 1, c, hj'.out, by simp, rfl, hcb, hc1, hb⟩
      case measure => simp [intOf]; have := hj'.out; omega
    ·obtain rfl : j = M := by omega
     have hc1 : Hid (c = (toA (t.take (i + 1))).count x) := hid (by
      have h1 := hc.out
      rw [show n.tos.take j = n.tos from List.take_of_length_le (by rw [hM.out]; exact Nat.le_refl _)] at h1
      unfold toA at h1 ⊢
      rw [hsT.out]
      exact h1)
     clear hc
     go_wp2
     go_loopw [7, 10] (fun dd jj wr => ∃ j d : Nat, j ≤ K ∧ jj = .int .i64 (j : Int) ∧ dd = .int .i64 (d : Int) ∧ d ≤ 1048576 ∧ Hid (d = (enA (t.take i) ++ n.ends.take j).count x) ∧ Hid (Below w.heap.size w wr)) (fun _ jj _ => K - (intOf jj).toNat)
     case atStart => exact ⟨0, d, Nat.zero_le _, rfl, rfl, hdb, hid (by simpa using hd.out), hb⟩
     case round =>
      clear hd hdb hb d1
      obtain ⟨q, d, hq, rfl, rfl, hdb, hd, hb⟩ := hrel
      have d2 := hek.out wr hb.out
      by_cases hql : q < K
      ·have hqi : (q : Int) < (K : Int) := by omega
       obtain ⟨y, hy⟩ : ∃ y, Hid (n.ends[q]? = some y) := ⟨_, List.getElem?_eq_getElem (by rw [hK.out]; exact hql)⟩
       obtain ⟨g2, o2, rfl, hcy⟩ := ints_at hE'.out hy.out
       have cy := hcy wr hb.out
       have ad1 : (⟨g2, o2, none⟩ : Addr).add q = ⟨g2, o2 + q, none⟩ := by by_cases h : q = 0 <;> simp [Addr.add, h]
       have hq' := hid (show q + 1 ≤ K by omega)
       have hsn := hid (count_snoc (A := enA (t.take i)) (x := x) hy.out)
       have hbn := hid (hbE.out (q + 1))
       clear hcy
       by_cases h : y = x
       ·subst h
        have e0 : (y == y) = true := by simp
        rw [if_pos rfl] at hsn
        have hd1 := hid (show d + 1 = (enA (t.take i) ++ n.ends.take (q + 1)).count y by rw [hsn.out, hd.out])
        have hd2 := hid (show d + 1 ≤ 1048576 by rw [hd1.out]; exact hbn.out)
        clear hsn hbn hd
        go_wp2
        go_roundw
        case rel => exact ⟨q + 1, d + 1, hq'.out, by simp, by simp, hd2.out, hd1, hb⟩
        case measure => simp [intOf]; have := hq'.out; omega
       ·have e0 : (y == x) = false := beq_eq_false_iff_ne.2 h
        rw [if_neg h] at hsn
        have hd1 := hid (show d = (enA (t.take i) ++ n.ends.take (q + 1)).count x by rw [hsn.out, hd.out]; rfl)
        clear hsn hbn hd h
        go_wp2
        go_roundw
        case rel => exact ⟨q + 1, d, hq'.out, by simp, rfl, hdb, hd1, hb⟩
        case measure => simp [intOf]; have := hq'.out; omega
      ·obtain rfl : q = K := by omega
       have hd1 : Hid (d = (enA (t.take (i + 1))).count x) := hid (by
        have h1 := hd.out
        rw [show n.ends.take q = n.ends from List.take_of_length_le (by rw [hK.out]; exact Nat.le_refl _)] at h1
        unfold enA at h1 ⊢
        rw [hsE.out]
        exact h1)
       clear hd
       go_wp2
       go_roundw
       case rel => exact ⟨i + 1, c, d, hlt'.out, by simp, rfl, rfl, hcb, hdb, hc1, hd1, hb⟩
       case measure => simp [intOf]; have := hlt'.out; omega
  ·obtain rfl : i = N := by omega
   have htk : Hid (t.take i = t) := hid (List.take_of_length_le (by rw [hN.out]; exact Nat.le_refl _))
   rw [htk.out] at hc hd
   have hc' := hid hc.out
   have hd' := hid hd.out
   clear hc hd
   go_wp2
   refine bodyPost_ret (v := .tuple #[.int .i64 (c : Int), .int .i64 (d : Int)]) (by simp [results, Tryd.results45, go_sem]) rfl ?_
   exact ⟨by rw [← hc'.out, ← hd'.out], hb.out⟩
end Go.Proofs.YtbabdhepnjacdaaDoor
