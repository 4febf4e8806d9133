/-
  quarryref00.SameSteps, SamePaths; quarrylaw23.small; the law TriePaths, walked.
-/
import Derived.Test.YtbabdhepnjacdaaDoorTiU
import Derived.Test.YtbabdhepnjacdaaDoorTiN
namespace Go.Proofs.YtbabdhepnjacdaaDoor
open Go.RowKit Go.Shelf
set_option maxRecDepth 10000 in
set_option maxHeartbeats 8000000 in
theorem sameStZ_calls (ss : List Stp) (ao bo : Option Addr) (N cap cap' : Nat) (hN : Hid (ss.length = N)) (hNi : N ≤ 1073741824) (w : World) (hL : Hid (StepsAt w ao ss)) (hk : Hid (StepsAt w bo ss)) :
    Calls Tryd.prog 33 #[.slice ao N cap, .slice bo N cap'] w fun e w' => e = .returned (.bool true) ∧ Below w.heap.size w w' := by
  have hNi' : (N : Int) ≤ 1073741824 := by omega
  go_enter Tryd.func33, Tryd.ntmps33
  go_wp2
  go_loopw [5] (fun ii wr => ∃ i : Nat, i ≤ N ∧ ii = .int .i64 (i : Int) ∧ Hid (Below w.heap.size w wr)) (fun ii _ => N - (intOf ii).toNat)
  case atStart => exact ⟨0, Nat.zero_le _, rfl, hid (Below.refl _ _)⟩
  case round =>
    obtain ⟨i, hi, rfl, hb⟩ := hrel
    by_cases hlt : i < N
    · have hlt' := hid (show i + 1 ≤ N by omega)
      have hli : (i : Int) < (N : Int) := by omega
      obtain ⟨s, hs⟩ : ∃ s, Hid (ss[i]? = some s) := ⟨_, List.getElem?_eq_getElem (by rw [hN.out]; exact hlt)⟩
      obtain ⟨g1, o1, rfl, -, hr1⟩ := steps_at (hL.out.kept hb.out) hs.out
      obtain ⟨g2, o2, rfl, -, hr2⟩ := steps_at (hk.out.kept hb.out) hs.out
      obtain ⟨k, nm, pl⟩ := s
      have R1 := hid (show wr.rangeAt g1 (o1 + i * 3) [.int .i64 k, .string nm, .int .i64 pl] from hr1)
      have R2 := hid (show wr.rangeAt g2 (o2 + i * 3) [.int .i64 k, .string nm, .int .i64 pl] from hr2)
      have eqs : ∀ u, (Op.equalIn 10000 53 (.agg #[.int .i64 k, .string nm, .int .i64 pl]) (.agg #[.int .i64 k, .string nm, .int .i64 pl])).run Tryd.prog u = .ok true u := fun u => by rw [eqStp]; simp
      have e1 : decide ((i : Int) < (N : Int)) = true := by simp; omega
      clear hs hr1 hr2 hL hk hN
      go_wp2
      refine wp_region_quiet (C := (fun w' => Below wr.heap.size wr w')) (by kernel_rfl) (by kernel_rfl) ((Below.refl _ _).drew) ?_
      dsimp only
      repeat (first
        | go_big_quiet_skip
        | (refine' wpQuiet_take (by rfl) ?_ ?_
           rotate_left
           · (intro wq hq; (try dsimp only at hq); go_simp
              first
                | done
                | with_reducible rfl
             )
           simp only [Act.put, List.setIfInBounds_toArray, List.set_cons_zero, List.set_cons_succ])
        | (refine wpQuiet_load 53 _ (g1) (o1 + i * 3) [.int .i64 k, .string nm, .int .i64 pl] _ (fun wq hq => range_kept R1.out hq) Tryd.underlying53 sizeStp rfl rfl rfl (by rfl) ?_; simp only [Act.put, List.setIfInBounds_toArray, List.set_cons_zero, List.set_cons_succ])
        | (refine wpQuiet_load 53 _ (g2) (o2 + i * 3) [.int .i64 k, .string nm, .int .i64 pl] _ (fun wq hq => range_kept R2.out hq) Tryd.underlying53 sizeStp rfl rfl rfl (by rfl) ?_; simp only [Act.put, List.setIfInBounds_toArray, List.set_cons_zero, List.set_cons_succ]))
      refine wpQuiet_nil ?_
      intro wz hwz
      have hfin := hid (hb.out.trans (Below.mono hwz hb.out.size))
      clear hwz
      go_wp2
      go_roundw
      case rel => exact ⟨i + 1, hlt'.out, by simp, hfin⟩
      case measure => simp [intOf]; have := hlt'.out; omega
    · obtain rfl : i = N := by omega
      clear hL hk hN
      go_wp2
      go_ret
      exact ⟨rfl, hb.out⟩
theorem pths_at {w : World} {ao : Option Addr} {L : List (List Stp)} (h : PthsAt w ao L) {i : Nat} {p : List Stp} (hi : L[i]? = some p) : ∃ b off so sc, ao = some ⟨b, off, none⟩ ∧ StepsAt w so p ∧ ∀ u, Below w.heap.size w u → u.cell? ⟨b, off + i, none⟩ = some (.slice so p.length sc) := by
  obtain ⟨b, off, so, sc, h1, h2, h3, h4⟩ := h i p hi
  exact ⟨b, off, so, sc, h1, h4, fun u hu => (hu.cell (p := ⟨b, off + i, none⟩) h2).trans h3⟩
set_option maxRecDepth 10000 in
set_option maxHeartbeats 8000000 in
theorem samePaths_calls (L : List (List Stp)) (ao bo : Option Addr) (N cap cap' : Nat) (hN : Hid (L.length = N)) (hNi : N ≤ 1073741824) (hl : Hid (∀ p ∈ L, p.length ≤ 1073741824)) (w : World) (hL : Hid (PthsAt w ao L)) (hk : Hid (PthsAt w bo L)) :
    Calls Tryd.prog 16 #[.slice ao N cap, .slice bo N cap'] w fun e w' => e = .returned (.bool true) ∧ Below w.heap.size w w' := by
  have hNi' : (N : Int) ≤ 1073741824 := by omega
  go_enter Tryd.func16, Tryd.ntmps16
  go_wp2
  go_loopw [5] (fun ii wr => ∃ i : Nat, i ≤ N ∧ ii = .int .i64 (i : Int) ∧ Hid (Below w.heap.size w wr)) (fun ii _ => N - (intOf ii).toNat)
  case atStart => exact ⟨0, Nat.zero_le _, rfl, hid (Below.refl _ _)⟩
  case round =>
    obtain ⟨i, hi, rfl, hb⟩ := hrel
    by_cases hlt : i < N
    · have hlt' := hid (show i + 1 ≤ N by omega)
      have hli : (i : Int) < (N : Int) := by omega
      obtain ⟨p, hp⟩ : ∃ p, Hid (L[i]? = some p) := ⟨_, List.getElem?_eq_getElem (by rw [hN.out]; exact hlt)⟩
      obtain ⟨g1, o1, so1, sc1, rfl, hs1, hc1⟩ := pths_at hL.out hp.out
      obtain ⟨g2, o2, so2, sc2, rfl, hs2, hc2⟩ := pths_at hk.out hp.out
      obtain ⟨K, hK⟩ : ∃ K, Hid (p.length = K) := ⟨_, rfl⟩
      have hKb : K ≤ 1073741824 := by have := hl.out p (List.mem_of_getElem? hp.out); have := hK.out; omega
      rw [hK.out] at hc1 hc2
      have q1 := hid (fun (u : World) (hu : Below w.heap.size w u) => sameStZ_calls p so1 so2 K sc1 sc2 hK hKb u (hid (hs1.kept hu)) (hid (hs2.kept hu)))
      have ad1 : (⟨g1, o1, none⟩ : Addr).add i = ⟨g1, o1 + i, none⟩ := by by_cases h : i = 0 <;> simp [Addr.add, h]
      have ad2 : (⟨g2, o2, none⟩ : Addr).add i = ⟨g2, o2 + i, none⟩ := by by_cases h : i = 0 <;> simp [Addr.add, h]
      have C1 := hid (fun (u : World) (hu : Below w.heap.size w u) => (show u.cell? ⟨g1, o1 + i, none⟩ = some (.slice so1 K sc1) ∧ u.cell? ⟨g2, o2 + i, none⟩ = some (.slice so2 K sc2) from ⟨hc1 u hu, hc2 u hu⟩))
      have e1 : decide ((i : Int) < (N : Int)) = true := by simp; omega
      have Bd := hid (show Below w.heap.size w wr.drew from hb.out.drew)
      clear hp hs1 hs2 hc1 hc2 hL hk hN hl
      go_wp2
      refine wp_region_quiet (C := (fun w' => Below w.heap.size w w' ∧ (w'.cell? ⟨g1, o1 + i, none⟩ = some (.slice so1 K sc1) ∧ w'.cell? ⟨g2, o2 + i, none⟩ = some (.slice so2 K sc2)))) (by kernel_rfl) (by kernel_rfl) (⟨Bd.out, C1.out _ Bd.out⟩) ?_
      dsimp only
      repeat (first
        | (refine wpQuiet_skip (by rfl) ?_; simp only [Act.put, List.setIfInBounds_toArray, List.set_cons_zero, List.set_cons_succ])
        | (refine' wpQuiet_take (by rfl) ?_ ?_
           rotate_left
           · (intro wq hq; (try dsimp only at hq); go_simp
              first
                | done
                | with_reducible rfl
                | (go_at_call 33; have hzz := q1.out wq hq.1; with_reducible refine hzz.mono ?_; clear hzz; rintro e wz ⟨rfl, hb⟩; exact ⟨rfl, Below.trans hq.1 (Below.mono hb hq.1.size), C1.out _ (Below.trans hq.1 (Below.mono hb hq.1.size))⟩)
             )
           simp only [Act.put, List.setIfInBounds_toArray, List.set_cons_zero, List.set_cons_succ]))
      refine wpQuiet_nil ?_
      intro wz hwz
      have hfin := hid hwz.1
      clear hwz
      go_wp2
      go_roundw
      case rel => exact ⟨i + 1, hlt'.out, by simp, hfin⟩
      case measure => simp [intOf]; have := hlt'.out; omega
    · obtain rfl : i = N := by omega
      clear hL hk hN
      go_wp2
      go_ret
      exact ⟨rfl, hb.out⟩
/-- The law's own paths. -/
def smP : List (List Stp) := [[sA, sB], [sA]]
theorem smT_pths {L : List (List Stp)} {E : Int} (h : IsPths smT L E) : L = smP ∧ E = 0 := by
  refine h.uniq (.inr ⟨smT_frm, rfl, rfl, fun k p hk => ?_⟩)
  have h1 : PthOf smT 1 ([] ++ [sA]) := .step (a := 0) (j := 0) (n := ⟨[sA], [1], []⟩) rfl rfl rfl .root
  have h2 : PthOf smT 2 (([] ++ [sA]) ++ [sB]) := .step (a := 1) (j := 0) (n := ⟨[sB], [2], [1]⟩) rfl rfl rfl h1
  match k, hk with
  | 0, hk => simp [smP] at hk; subst hk; exact ⟨2, _, rfl, by simp, h2⟩
  | 1, hk => simp [smP] at hk; subst hk; exact ⟨1, _, rfl, by simp, h1⟩
  | k + 2, hk => simp [smP] at hk
theorem two_steps {w : World} {b : Nat} {s u : Stp} (h : At w b #[.int .i64 s.kind, .string s.name, .int .i64 s.place, .int .i64 u.kind, .string u.name, .int .i64 u.place] 53) (hs : s.name.size ≤ capT) (hu : u.name.size ≤ capT) : StepsAt w (some ⟨b, 0, none⟩) [s, u] := fun i x hi => by
  match i, hi with
  | 0, hi =>
    simp at hi; subst hi
    refine ⟨hs, b, 0, rfl, h.lt, fun j y hj => ?_⟩
    match j, hj with
    | 0, hj => rw [show (0 + 0 * 3 + 0 : Nat) = 0 from rfl, h.cell 0]; exact hj
    | 1, hj => rw [show (0 + 0 * 3 + 1 : Nat) = 1 from rfl, h.cell 1]; exact hj
    | 2, hj => rw [show (0 + 0 * 3 + 2 : Nat) = 2 from rfl, h.cell 2]; exact hj
    | j + 3, hj => simp at hj
  | 1, hi =>
    simp at hi; subst hi
    refine ⟨hu, b, 0, rfl, h.lt, fun j y hj => ?_⟩
    match j, hj with
    | 0, hj => rw [show (0 + 1 * 3 + 0 : Nat) = 3 from rfl, h.cell 3]; exact hj
    | 1, hj => rw [show (0 + 1 * 3 + 1 : Nat) = 4 from rfl, h.cell 4]; exact hj
    | 2, hj => rw [show (0 + 1 * 3 + 2 : Nat) = 5 from rfl, h.cell 5]; exact hj
    | j + 3, hj => simp at hj
  | i + 2, hi => simp at hi
theorem two_pths {w : World} {b : Nat} {so1 so2 : Option Addr} {sc1 sc2 : Nat} {p q : List Stp} (h : At w b #[.slice so1 p.length sc1, .slice so2 q.length sc2] 45) (hp : StepsAt w so1 p) (hq : StepsAt w so2 q) : PthsAt w (some ⟨b, 0, none⟩) [p, q] := fun i x hi => by
  match i, hi with
  | 0, hi => simp at hi; subst hi; exact ⟨b, 0, so1, sc1, rfl, h.lt, h.cell 0, hp⟩
  | 1, hi => simp at hi; subst hi; exact ⟨b, 0, so2, sc2, rfl, h.lt, h.cell 1, hq⟩
  | i + 2, hi => simp at hi
set_option maxRecDepth 10000 in
set_option maxHeartbeats 4000000 in
theorem smallP_calls (w : World) : Calls Tryd.prog 10 #[] w fun e w' => (∃ b, e = .returned (.slice (some ⟨b, 0, none⟩) 2 2) ∧ PthsAt w' (some ⟨b, 0, none⟩) smP) ∧ Below w.heap.size w w' := by
  go_enter Tryd.func10, Tryd.ntmps10
  go_wp2
  go_ret
  refine ⟨⟨_, rfl, ?_⟩, by repeat (first | with_reducible exact Below.refl _ _ | with_reducible refine Below.setCell ?_ (by first | (simp; done) | (simp; omega)) _ | with_reducible refine below_drewN ?_ _ | with_reducible refine Below.alloc ?_ (by first | (simp; done) | (simp; omega)) _ | with_reducible refine Below.drew ?_)⟩
  refine two_pths (b := w.heap.size + 1 + 1 + 1 + 1) (sc1 := 2) (sc2 := 1) ?_ (two_steps (s := sA) (u := sB) (b := w.heap.size + 1 + 1) ?_ (by decide) (by decide)) (one_steps (s := sA) (b := w.heap.size + 1 + 1 + 1) ?_ (by decide))
  all_goals repeat (first | (refine at_newB ?_; simp only [World.size_alloc]; done) | refine At.alloc ?_ _)
theorem isPths_len {t : List Nod} {L : List (List Stp)} {E : Int} (h : IsPths t L E) (hm : t.length ≤ 1048576) : L.length ≤ 256 ∧ ∀ p ∈ L, p.length ≤ 1073741824 := by
  rcases h with ⟨-, rfl, -⟩ | ⟨hf, -, h1, h2⟩
  · exact ⟨Nat.zero_le _, fun p h => by simp at h⟩
  · refine ⟨by rw [h1]; exact hf.2.1, fun p hp => ?_⟩
    obtain ⟨k, hk, e⟩ := List.mem_iff_getElem.1 hp
    obtain ⟨q, n, h3, -, h5⟩ := h2 k p (by rw [List.getElem?_eq_getElem hk, e])
    have := h5.len hf
    have := (List.getElem?_eq_some_iff.1 h3).1
    omega
set_option maxRecDepth 10000 in
set_option maxHeartbeats 4000000 in
theorem triePaths_walk (ao : Option Addr) (cap : Nat) (t : List Nod) (hs : (t.map blkNd).sum ≤ 1048576) (hz : ∀ n ∈ t, ∀ s ∈ n.steps, s.name.size ≤ 1048576) (w : World) (hT : TabU w) (hk : NodesAt w ao t) :
    Calls Tryd.prog 4 #[.slice ao t.length cap] w fun e w' => e = .returned (.bool true) ∧ Below w.heap.size w w' := by
  obtain ⟨N, hN⟩ : ∃ N, Hid (t.length = N) := ⟨_, rfl⟩
  rw [hN.out]
  have hmid := hid (mid_sum hs)
  have hs' := hid hs
  have hz' := hid hz
  have hT' := hid hT
  have hk' := hid hk
  obtain ⟨F, hF⟩ : ∃ F : Bool, Hid (F = true ↔ FrmR t) := by
    by_cases h : FrmR t
    · exact ⟨true, hid (by simp [h])⟩
    · exact ⟨false, hid (by simp [h])⟩
  have hp := hid (fun (u : World) (hu : Below w.heap.size w u) => paths23_calls t ao N cap hN hmid hz' u (hid (hk'.out.kept hu)) (hid (hT'.out.below hu)))
  have hr := hid (fun (u : World) (hu : Below w.heap.size w u) => pathsR23_calls t ao N cap hN hmid hz' u (hid (hk'.out.kept hu)))
  have hv := hid (fun (u : World) (hu : Below w.heap.size w u) => vast_calls t ao N cap hN hs' u (hid (hk'.out.kept hu)))
  have hfp := hid (fun (u : World) (hu : Below w.heap.size w u) => formed23_calls t ao N cap hN hmid F hF u (hid (hk'.out.kept hu)) (hid (hT'.out.below hu)))
  have hfr := hid (fun (u : World) (hu : Below w.heap.size w u) => formedR23_calls t ao N cap hN hmid hz' F hF u (hid (hk'.out.kept hu)))
  have hsm := hid (fun u => smallT_calls u)
  have hsp := hid (fun u => smallP_calls u)
  clear hs hz hT hk
  go_enter Tryd.func4, Tryd.ntmps4
  go_wp2_with fail
  refine Calls.mono (hsm.out _) ?_
  rintro e w1 ⟨⟨b, rfl, hs1⟩, b1⟩
  have B1 := hid b1
  have hg1 := hid (paths23_calls smT (some ⟨b, 0, none⟩) 3 3 (hid rfl) (hid smT_mid) (hid smT_nm) w1 (hid hs1) (hid (hT'.out.below b1)))
  clear b1 hs1
  go_wp2_with fail
  refine Calls.mono hg1.out ?_
  rintro e w2 ⟨⟨ro, rc, L1, E1, rfl, hi1, hgo⟩, b2⟩
  obtain ⟨rfl, rfl⟩ := smT_pths hgo
  have B2 := hid (B1.out.trans (b2.mono B1.out.size))
  have hi1' := hid hi1
  clear b2 hg1 hi1 hgo
  rw [show smP.length = 2 from rfl]
  go_wp2_with fail
  refine Calls.mono (hsp.out _) ?_
  rintro e w3 ⟨⟨b', rfl, hs3⟩, b3⟩
  have B3 := hid (B2.out.trans (b3.mono B2.out.size))
  have hsa := hid (samePaths_calls smP ro (some ⟨b', 0, none⟩) 2 rc 2 (hid rfl) (by omega) (hid (by decide)) w3 (hid (hi1'.out.kept b3)) (hid hs3))
  clear b3 hs3 hi1' hsp
  go_wp2_with fail
  refine Calls.mono hsa.out ?_
  rintro e w4 ⟨rfl, b4⟩
  have B4 := hid (B3.out.trans (b4.mono B3.out.size))
  clear b4 hsa
  go_wp2_with fail
  refine Calls.mono (hsm.out _) ?_
  rintro e w5 ⟨⟨b'', rfl, hs5⟩, b5⟩
  have B5 := hid (B4.out.trans (b5.mono B4.out.size))
  have hf5 := hid (formed23_calls smT (some ⟨b'', 0, none⟩) 3 3 (hid rfl) (hid smT_mid) true (hid (by simp [smT_frm])) w5 (hid hs5) (hid (hT'.out.below B5.out)))
  clear b5 hs5 hsm
  go_wp2_with fail
  refine Calls.mono hf5.out ?_
  rintro e w6 ⟨rfl, b6⟩
  have B6 := hid (B5.out.trans (b6.mono B5.out.size))
  clear b6 hf5
  go_wp2_with fail
  refine Calls.mono (hv.out _ B6.out) ?_
  rintro e w7 ⟨⟨V, rfl⟩, b7⟩
  have B7 := hid (B6.out.trans (b7.mono B6.out.size))
  clear b7 hv
  cases V with
  | true =>
    go_wp2
    go_ret
    exact ⟨rfl, B7.out⟩
  | false =>
    go_wp2_with fail
    refine Calls.mono (hp.out _ B7.out) ?_
    rintro e w8 ⟨⟨r1, c1, LA, EA, rfl, hiA, hA⟩, b8⟩
    have B8 := hid (B7.out.trans (b8.mono B7.out.size))
    have hiA' := hid hiA
    have hA' := hid hA
    clear b8 hiA hA hp
    go_wp2_with fail
    refine Calls.mono (hr.out _ B8.out) ?_
    rintro e w9 ⟨⟨r2, c2, LB, EB, rfl, hiB, hB⟩, b9⟩
    obtain ⟨rfl, rfl⟩ := hA'.out.uniq hB
    have B9 := hid (B8.out.trans (b9.mono B8.out.size))
    have hlen := isPths_len hB hmid.out.1
    obtain ⟨K, hK⟩ : ∃ K, Hid (LA.length = K) := ⟨_, rfl⟩
    have hsb := hid (samePaths_calls LA r1 r2 K c1 c2 hK (by have := hK.out; omega) (hid hlen.2) w9 (hid (hiA'.out.kept b9)) (hid hiB))
    clear b9 hiA' hiB hB hA' hr hlen
    rw [hK.out]
    go_wp2_with fail
    refine Calls.mono hsb.out ?_
    rintro e w10 ⟨rfl, b10⟩
    have B10 := hid (B9.out.trans (b10.mono B9.out.size))
    have ee : (EA == EA) = true := by simp
    clear b10 hsb
    go_wp2_with fail
    refine Calls.mono (hfp.out _ B10.out) ?_
    rintro e w11 ⟨rfl, b11⟩
    have B11 := hid (B10.out.trans (b11.mono B10.out.size))
    clear b11 hfp
    go_wp2_with fail
    refine Calls.mono (hfr.out _ B11.out) ?_
    rintro e w12 ⟨rfl, b12⟩
    have B12 := hid (B11.out.trans (b12.mono B11.out.size))
    have ff : (F == F) = true := by simp
    clear b12 hfr
    go_wp2
    go_ret
    exact ⟨rfl, B12.out⟩
end Go.Proofs.YtbabdhepnjacdaaDoor
