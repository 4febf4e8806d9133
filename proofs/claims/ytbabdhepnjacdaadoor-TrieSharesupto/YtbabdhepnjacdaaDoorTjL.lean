/-
 The law TrieShares, walked.
-/
import Derived.Test.YtbabdhepnjacdaaDoorTjK
namespace Go.Proofs.YtbabdhepnjacdaaDoor
open Go.ChangeShapes Go.WideShapes Go.ChangeAt Go.RowKit Go.Shelf
/-- A list of paths that grows; the paths themselves lie in the world w0. -/
def PthG (w0 w : World) (v : Value) (X : List (List Stp)) : Prop := ∃ vals : List Value, w.ownsRow w0.heap.size 45 1 v X.length vals ∧ ∀ (i : Nat) (p : List Stp), X[i]? = some p → ∃ so sc, vals[i]? = some (.slice so p.length sc) ∧ StepsAt w0 so p
theorem PthG.nil (w0 w : World) : PthG w0 w (.slice none 0 0) [] := ⟨[], World.ownsRow_nil w w0.heap.size 45 1, fun i p h => by simp at h⟩
theorem PthG.keptB {w0 w w' : World} {v : Value} {X : List (List Stp)} (h : PthG w0 w v X) (hb : Below w.heap.size w w') : PthG w0 w' v X := by
 obtain ⟨vals, h1, h2⟩ := h
 exact ⟨vals, own_on h1 (fun g _ _ hl => (SameOn.below (S := fun _ => True) hb).2 g trivial hl), h2⟩
theorem PthG.shape {w0 w : World} {v : Value} {X : List (List Stp)} (h : PthG w0 w v X) : ∃ so cap, v = .slice so X.length cap := by
 obtain ⟨vals, h1, -⟩ := h
 exact own_shape h1
theorem PthG.row {w0 w : World} {vo : Option Addr} {n vc : Nat} {X : List (List Stp)} (h : PthG w0 w (.slice vo n vc) X) (hb : Below w0.heap.size w0 w) : n = X.length ∧ PthsAt w vo X := by
 obtain ⟨vals, hO, hall⟩ := h
 obtain ⟨so, cap, e⟩ := own_shape hO
 cases e
 refine ⟨rfl, fun i p hi => ?_⟩
 obtain ⟨s1, c1, hv, hS⟩ := hall i p hi
 have hl := (List.getElem?_eq_some_iff.1 hi).1
 rcases hO.2 with ⟨e, h0⟩ | ⟨g, cap, cur, e, hb2, hg, -⟩
 ·omega
 ·cases e
  refine ⟨g, 0, s1, c1, rfl, (hO.lt g rfl).2, ?_, hS.kept hb⟩
  have := hO.cellAt i (by omega)
  rw [Nat.zero_add, this]
  simpa using hv
theorem PthG.app {w0 w : World} {v : Value} {X : List (List Stp)} {p : List Stp} {so : Option Addr} {sc : Nat} (h : PthG w0 w v X) (hS : StepsAt w0 so p) (ad : Addr) (c : Nat) (hC : w.cell? (ad.add 0) = some (.slice so p.length sc)) (hn : X.length < 1099511627776) (hB : w0.heap.size ≤ w.heap.size) :
  ∃ v' w', (∀ ty, (Builtin.append_ #[22, 22] ty #[v, .slice (some ad) 1 c]).run Tryd.prog w = .ok v' w') ∧ PthG w0 w' v' (X ++ [p]) ∧ Below w0.heap.size w w' := by
 obtain ⟨vals, h1, h2⟩ := h
 obtain ⟨v', w', hr, r1, r2, -⟩ := app_gen Tryd.underlying22 infoRw rfl (by decide) h1 ad c [.slice so p.length sc] rfl (fun j u hj => by
  match j, hj with
  | 0, hj => simp at hj; subst hj; exact hC
  | j + 1, hj => simp at hj) (by simp [Value.oneCell']) hn (by decide) hB
 refine ⟨v', w', hr, ⟨vals ++ [.slice so p.length sc], by rw [List.length_append, List.length_singleton]; exact r1, fun i q hi => ?_⟩, (Below.refl _ w).grown r2 hB (fun k hk => (h1.lt k hk).1)⟩
 have hvl : vals.length = X.length := by have := h1.1; omega
 by_cases e : i < X.length
 ·rw [List.getElem?_append_left e] at hi
  obtain ⟨s1, c1, h3, h4⟩ := h2 i q hi
  exact ⟨s1, c1, by rw [List.getElem?_append_left (by omega)]; exact h3, h4⟩
 ·have hl := (List.getElem?_eq_some_iff.1 hi).1
  rw [List.length_append, List.length_singleton] at hl
  obtain rfl : i = X.length := by omega
  rw [List.getElem?_append_right (Nat.le_refl _)] at hi
  simp at hi
  subst hi
  exact ⟨so, sc, by rw [← hvl, List.getElem?_append_right (Nat.le_refl _)]; simp, hS⟩
set_option maxRecDepth 10000 in
set_option maxHeartbeats 8000000 in
theorem trieShares_walk (ao : Option Addr) (cap : Nat) (L : List (List Stp)) (hl : L.length ≤ 1048576) (hm : MidP L) (tn : Int) (_ : (Lit.int .i64 tn).wf = true) (w : World) (hT : TabU w) (hk : PthsAt w ao L) :
  Calls Tryd.prog 7 #[.slice ao L.length cap, .int .i64 tn] w fun e w' => e = .returned (.bool true) ∧ Below w.heap.size w w' := by
 obtain ⟨N, hN⟩ : ∃ N, Hid (L.length = N) := ⟨_, rfl⟩
 rw [hN.out]
 rw [hN.out] at hl
 have hNi : (N : Int) ≤ 1048576 := by omega
 have hm' := hid hm
 have hT' := hid hT
 have hk' := hid hk
 have haw := hid (awake23_calls w (hid hT))
 have hbl := hid (fun (u : World) (hu : Below w.heap.size w u) => build23_calls L ao N cap hN hl (hid hm) u (hid (hk'.out.kept hu)) (hid (hT'.out.below hu)))
 have hplen := hid (fun (i : Nat) (p : List Stp) (hp : L[i]? = some p) => (show p.length ≤ 1048576 by
  have h1 := sum_take2 L (i + 1)
  have h2 := hm.1
  rw [List.take_add_one, hp] at h1
  simp at h1
  omega))
 clear hm hT hk
 go_enter Tryd.func7, Tryd.ntmps7
 go_wp2_with fail
 refine Calls.mono haw.out ?_
 rintro e w1 ⟨rfl, b1⟩
 have B1 := hid b1
 clear b1 haw
 go_wp2_with fail
 refine Calls.mono (hbl.out _ B1.out) ?_
 rintro e w2 ⟨⟨ro, rc, T, E, rfl, hnd, hI⟩, b2⟩
 have B2 := hid (B1.out.trans (b2.mono B1.out.size))
 clear b2 hbl hnd
 rcases hI with ⟨h1, rfl, rfl⟩ | ⟨h1, h2, rfl, rfl⟩ | ⟨h1, h2, h3, rfl⟩
 ·clear h1
  rw [show ([] : List Nod).length = 0 from rfl]
  go_wp2
  go_ret
  exact ⟨rfl, B2.out⟩
 ·clear h1 h2
  rw [show ([] : List Nod).length = 0 from rfl]
  go_wp2
  go_ret
  exact ⟨rfl, B2.out⟩
 ·have hf := hid (h3.frm h1 h2)
  have h1' := hid h1
  have h2' := hid h2
  have h3' := hid h3
  obtain ⟨NT, hNT⟩ : ∃ NT, Hid (T.length = NT) := ⟨_, rfl⟩
  rw [hNT.out]
  have hNTb : NT ≤ 1048576 := by have h5 := bld_len h3; have := hm'.out.1; have := hNT.out; omega
  have hNTi : (NT : Int) ≤ 1048576 := by omega
  clear h1 h2 h3
  by_cases hN0 : N = 0
  ·subst hN0
   have f0 : ((0 : Nat) : Int) = 0 := rfl
   go_wp2
   go_ret
   exact ⟨rfl, B2.out⟩
  ·have hNpos : 0 < N := by omega
   have f0 : ((N : Int) == 0) = false := by simp; omega
   obtain ⟨P, hP⟩ : ∃ P, Hid (pkN tn N = P) := ⟨_, rfl⟩
   have hPlt : Hid (P < N) := hid (by rw [← hP.out]; exact pkN_lt tn hNpos)
   obtain ⟨X, hX⟩ : ∃ X, Hid (rotL L P = X) := ⟨_, rfl⟩
   have hXN : Hid (X.length = N) := hid (by rw [← hX.out, rot_len, hN.out])
   have hXg := hid (fun (i : Nat) (hi : i < N) => (show X[i]? = L[(i + P) % N]? from by
    rw [← hX.out, rot_get (by rw [hN.out]; exact hPlt.out) (by rw [hN.out]; exact hi), hN.out]))
   have hpick := hid (fun u => pick23_calls tn N hNpos (by omega) u)
   rw [hP.out] at hpick
   clear hN0
   go_wp2
   clear f0
   go_loopw [7, 8, 9] (fun cc vv ii wr => ∃ (i c : Nat) (v : Value), i ≤ N ∧ ii = .int .i64 (i : Int) ∧ cc = .int .i64 (c : Int) ∧ v = vv ∧ c ≤ 1048576 ∧ Hid (∃ Ti, BldT (L.take i) Ti ∧ Ti.length = c) ∧ Hid (PthG w2 wr v (X.take i)) ∧ Hid (Below w2.heap.size w2 wr)) (fun _ _ ii _ => N - (intOf ii).toNat)
   case atStart => exact ⟨0, 1, _, Nat.zero_le _, rfl, rfl, rfl, by omega, hid ⟨[nulN], by rw [List.take_zero]; exact .nil, rfl⟩, hid (by rw [List.take_zero]; exact PthG.nil _ _), hid (Below.refl _ _)⟩
   case round =>
    obtain ⟨i, c, v, hi, rfl, rfl, rfl, hcb, hbt, hG, hb⟩ := hrel
    by_cases hlt : i < N
    ·have hli : (i : Int) < (N : Int) := by omega
     have hi' := hid (show i + 1 ≤ N by omega)
     obtain ⟨p, hp⟩ : ∃ p, Hid (L[i]? = some p) := ⟨_, List.getElem?_eq_getElem (by rw [hN.out]; exact hlt)⟩
     obtain ⟨g, o, so3, sc3, rfl, hst, hcl⟩ := pths_at hk'.out hp.out
     have hrows := hid (fun (i : Nat) (p : List Stp) (hp : L[i]? = some p) => (show ∃ so sc, StepsAt w so p ∧ ∀ u, Below w.heap.size w u → u.cell? ⟨g, o + i, none⟩ = some (.slice so p.length sc) from by
      obtain ⟨g', o', so, sc, e, h1, h2⟩ := pths_at hk'.out hp
      cases e
      exact ⟨so, sc, h1, h2⟩))
     have hMPb0 := hplen.out i p hp.out
     obtain ⟨MP, hMP⟩ : ∃ MP, Hid (p.length = MP) := ⟨_, rfl⟩
     rw [hMP.out] at hcl hMPb0
     have hMPi : (MP : Int) ≤ 1048576 := by omega
     have hcl' := hid hcl
     have hst' := hid hst
     obtain ⟨wy, hwy⟩ : ∃ wy, Hid (wy = wr) := ⟨_, rfl⟩
     have hby := hid (show Below w2.heap.size w2 wy by rw [hwy.out]; exact hb.out)
     have hGy := hid (show PthG w2 wy v (X.take i) by rw [hwy.out]; exact hG.out)
     clear hst hcl hG
     go_wp2
     go_loopw [10, 11] (fun mm jj wj => ∃ (j m : Nat), j ≤ i ∧ jj = .int .i64 (j : Int) ∧ mm = .int .i64 (m : Int) ∧ m ≤ 1048576 ∧ Hid (IsMost (L.take j) p m) ∧ Hid (Below wy.heap.size wy wj)) (fun _ jj _ => i - (intOf jj).toNat)
     case atStart => exact ⟨0, 0, Nat.zero_le _, rfl, rfl, by omega, hid (by rw [List.take_zero]; exact most_nil p), hid (by rw [hwy.out]; exact Below.refl _ _)⟩
     case round =>
      clear hb
      obtain ⟨j, m, hj, rfl, rfl, hmb, hmo, hb⟩ := hrel
      have B2w := hid (hby.out.trans (hb.out.mono hby.out.size))
      have Bw := hid (B2.out.trans (B2w.out.mono B2.out.size))
      by_cases hjl : j < i
      ·have hji : (j : Int) < (i : Int) := by omega
       have hjN : (j : Int) < (N : Int) := by omega
       have hj' := hid (show j + 1 ≤ i by omega)
       obtain ⟨q, hq⟩ : ∃ q, Hid (L[j]? = some q) := ⟨_, List.getElem?_eq_getElem (by rw [hN.out]; omega)⟩
       obtain ⟨so4, sc4, hst4, hcl4⟩ := hrows.out j q hq.out
       have hMQb := hplen.out j q hq.out
       obtain ⟨MQ, hMQ⟩ : ∃ MQ, Hid (q.length = MQ) := ⟨_, rfl⟩
       rw [hMQ.out] at hcl4 hMQb
       have hts := hid (take_snoc hq.out)
       have hst4' := hid hst4
       have hbg := hid (fun (u : World) (hu : Below w.heap.size w u) => begins23_calls p q so3 so4 MP MQ sc3 sc4 hMP hMQ (by omega) (by omega) u (hid (hst'.out.kept hu)) (hid (hst4'.out.kept hu)))
       have ad1 : (⟨g, o, none⟩ : Addr).add i = ⟨g, o + i, none⟩ := by by_cases h : i = 0 <;> simp [Addr.add, h]
       have ad2 : (⟨g, o, none⟩ : Addr).add j = ⟨g, o + j, none⟩ := by by_cases h : j = 0 <;> simp [Addr.add, h]
       have hSu := hid (fun (u : World) (hu : Below w.heap.size w u) => (show u.cell? ⟨g, o + i, none⟩ = some (.slice so3 MP sc3) ∧ u.cell? ⟨g, o + j, none⟩ = some (.slice so4 MQ sc4) from ⟨hcl'.out u hu, hcl4 u hu⟩))
       clear hst4 hcl4 hMQb
       go_wp2
       rename_i Kr hKr
       refine wp_region_held_drew (S := fun u => (u.cell? ⟨g, o + i, none⟩ = some (.slice so3 MP sc3) ∧ u.cell? ⟨g, o + j, none⟩ = some (.slice so4 MQ sc4)) ∧ Below w.heap.size w u) (by kernel_rfl) ⟨hSu.out _ Bw.out.drew, Bw.out.drew⟩ (fun hH => ?_)
       (refine' wpAnyH_take (i := 0) rfl (by kernel_rfl) (by kernel_rfl) (by kernel_rfl) (fun _ _ _ h => h) (Or.inl ⟨by rfl, ?_⟩) (by assumption) ?_; rotate_left; (· (intro wq hq; (try dsimp only at hq); go_simp; first | done | with_reducible rfl)); simp only [Act.put, List.getElem_toArray, List.getElem_cons_zero, List.setIfInBounds_toArray, List.set_cons_zero, List.set_cons_succ])
       (refine' wpAnyH_take (i := 1) rfl (by kernel_rfl) (by kernel_rfl) (by kernel_rfl) (fun _ _ _ h => h) (Or.inl ⟨by rfl, ?_⟩) (by assumption) ?_; rotate_left; (· (intro wq hq; (try dsimp only at hq); go_simp; first | done | with_reducible rfl)); simp only [Act.put, List.getElem_toArray, List.getElem_cons_zero, List.getElem_cons_succ, List.setIfInBounds_toArray, List.set_cons_zero, List.set_cons_succ])
       (refine' wpAnyH_take (i := 2) rfl (by kernel_rfl) (by kernel_rfl) (by kernel_rfl) (fun _ _ _ h => h) (Or.inl ⟨by rfl, ?_⟩) (by assumption) ?_; rotate_left; (· (intro wq hq; (try dsimp only at hq); go_simp; first | done | with_reducible rfl)); simp only [Act.put, List.getElem_toArray, List.getElem_cons_zero, List.getElem_cons_succ, List.setIfInBounds_toArray, List.set_cons_zero, List.set_cons_succ])
       (refine' wpAnyH_take (i := 3) rfl (by kernel_rfl) (by kernel_rfl) (by kernel_rfl) (fun _ _ _ h => h) (Or.inl ⟨by rfl, ?_⟩) (by assumption) ?_; rotate_left; (· (intro wq hq; (try dsimp only at hq); go_simp; first | done | with_reducible rfl)); simp only [Act.put, List.getElem_toArray, List.getElem_cons_zero, List.getElem_cons_succ, List.setIfInBounds_toArray, List.set_cons_zero, List.set_cons_succ])
       (refine' wpAnyH_take (i := 4) rfl (by kernel_rfl) (by kernel_rfl) (by kernel_rfl) (fun _ _ _ h => h) (Or.inl ⟨by rfl, ?_⟩) (by assumption) ?_; rotate_left; (· (intro wq hq; (try dsimp only at hq); go_simp; first | done | with_reducible rfl)); simp only [Act.put, List.getElem_toArray, List.getElem_cons_zero, List.getElem_cons_succ, List.setIfInBounds_toArray, List.set_cons_zero, List.set_cons_succ])
       (refine' wpAnyH_take (i := 5) rfl (by kernel_rfl) (by kernel_rfl) (by kernel_rfl) (fun _ _ _ h => h) (Or.inl ⟨by rfl, ?_⟩) (by assumption) ?_; rotate_left; (· (intro wq hq; (try dsimp only at hq); go_simp; first | done | with_reducible rfl)); simp only [Act.put, List.getElem_toArray, List.getElem_cons_zero, List.getElem_cons_succ, List.setIfInBounds_toArray, List.set_cons_zero, List.set_cons_succ])
       (refine' wpAnyH_take (i := 6) rfl (by kernel_rfl) (by kernel_rfl) (by kernel_rfl) (fun _ _ _ h => h) (Or.inl ⟨by rfl, ?_⟩) (by assumption) ?_; rotate_left; (· (intro wq hq; (try dsimp only at hq); go_simp; first | done | with_reducible rfl)); simp only [Act.put, List.getElem_toArray, List.getElem_cons_zero, List.getElem_cons_succ, List.setIfInBounds_toArray, List.set_cons_zero, List.set_cons_succ])
       (refine' wpAnyH_take (i := 7) rfl (by kernel_rfl) (by kernel_rfl) (by kernel_rfl) (fun _ _ _ h => h) (Or.inl ⟨by rfl, ?_⟩) (by assumption) ?_; rotate_left; (· (intro wq hq; (try dsimp only at hq); go_simp; first | done | with_reducible rfl)); simp only [Act.put, List.getElem_toArray, List.getElem_cons_zero, List.getElem_cons_succ, List.setIfInBounds_toArray, List.set_cons_zero, List.set_cons_succ])
       (refine' wpAnyH_take (i := 8) rfl (by kernel_rfl) (by kernel_rfl) (by kernel_rfl) (fun _ _ _ h => h) (Or.inl ⟨by rfl, ?_⟩) (by assumption) ?_; rotate_left; (· (intro wq hq; (try dsimp only at hq); go_simp; first | done | with_reducible rfl)); simp only [Act.put, List.getElem_toArray, List.getElem_cons_zero, List.getElem_cons_succ, List.setIfInBounds_toArray, List.set_cons_zero, List.set_cons_succ])
       refine wpAnyH_ready (rs := [9]) (by kernel_rfl) (by simp) ?_
       refine AllReadyH.cons rfl (fun K hK => ?_) ?_
       rotate_left
       ·exact AllReadyH.nil
       rw [if_pos (by rfl)]
       go_simp
       refine Calls.mono (hbg.out _ Bw.out.drew) ?_
       rintro e w8 ⟨⟨n, rfl, hn⟩, b8⟩
       have b8' : Below wr.heap.size wr w8 := (Below.refl _ wr).drew.trans (b8.mono (Nat.le_refl _))
       have B8 := hid (hb.out.trans (b8'.mono hb.out.size))
       have B8w := hid (Bw.out.trans (b8'.mono Bw.out.size))
       have hmo2 := hid (show IsMost (L.take (j + 1)) p (max m n) by rw [hts.out]; exact most_snoc hmo.out hn)
       have hmx : max m n ≤ 1048576 := by
        have h1 := hmo2.out.1
        have h2 := hMP.out
        omega
       refine hK.out _ _ ⟨hSu.out _ B8w.out, B8w.out⟩ (fun hH8 => ?_)
       clear hK K b8 b8' hSu hbg hn
       (refine' wpAnyH_take (i := 10) rfl (by kernel_rfl) (by kernel_rfl) (by kernel_rfl) (fun _ _ _ h => h) (Or.inl ⟨by rfl, ?_⟩) (by assumption) ?_; rotate_left; (· (intro wq hq; (try dsimp only at hq); go_simp; first | done | with_reducible rfl)); simp only [Act.put, List.getElem_toArray, List.getElem_cons_zero, List.getElem_cons_succ, List.setIfInBounds_toArray, List.set_cons_zero, List.set_cons_succ])
       (refine' wpAnyH_take (i := 11) rfl (by kernel_rfl) (by kernel_rfl) (by kernel_rfl) (fun _ _ _ h => h) (Or.inl ⟨by rfl, ?_⟩) (by assumption) ?_; rotate_left; (· (intro wq hq; (try dsimp only at hq); go_simp; first | done | with_reducible rfl)); simp only [Act.put, List.getElem_toArray, List.getElem_cons_zero, List.getElem_cons_succ, List.setIfInBounds_toArray, List.set_cons_zero, List.set_cons_succ])
       refine wpAnyH_done (by kernel_rfl) ?_ _
       refine hKr _ _ ?_
       go_wp2
       go_roundw
       case rel => exact ⟨j + 1, max m n, hj'.out, by simp, by simp; omega, hmx, hmo2, B8⟩
       case measure => simp [intOf]; have := hj'.out; omega
      ·obtain rfl : i = j := by omega
       obtain ⟨Ti, hTi, hTc⟩ := hbt.out
       have hsn := hid (take_snoc hp.out)
       obtain ⟨T', hT1⟩ := bld_pre h3'.out (i + 1) (by rw [hN.out]; exact hi'.out)
       have hT1' := hid hT1
       rw [hsn.out] at hT1
       have hct := hid (bld_step hTi hT1 hmo.out)
       obtain ⟨c', hc'⟩ : ∃ c', Hid (T'.length = c') := ⟨_, rfl⟩
       have hcb' : c' ≤ 1048576 := by
        have h1 := bld_len hT1'.out
        have h2 := sum_take2 L (i + 1)
        have h3 := hm'.out.1
        have h4 := hc'.out
        omega
       have hce : Hid (c' + m = c + MP) := hid (by
        have h1 := hct.out
        rw [hc'.out, hTc, hMP.out] at h1
        exact h1)
       have hmi : (m : Int) ≤ 1048576 := by omega
       have hci : (c : Int) ≤ 1048576 := by omega
       have hcei : (c : Int) + (MP : Int) - (m : Int) = (c' : Int) := by have := hce.out; omega
       have cp := hcl'.out wr Bw.out
       obtain ⟨Q, hQ⟩ : ∃ Q, Hid ((i + P) % N = Q) := ⟨_, rfl⟩
       have hQN : Q < N := by rw [← hQ.out]; exact Nat.mod_lt _ hNpos
       have hQi : (Q : Int) < (N : Int) := by omega
       have hPi : (P : Int) < (N : Int) := by have := hPlt.out; omega
       have hrm : ((i : Int) + (P : Int)).tmod (N : Int) = (Q : Int) := by
        rw [← hQ.out]
        exact_mod_cast (Int.ofNat_tmod (i + P) N).symm
       have hneN : ((N : Int) == 0) = false := by simp; omega
       obtain ⟨q, hq⟩ : ∃ q, Hid (L[Q]? = some q) := ⟨_, List.getElem?_eq_getElem (by rw [hN.out]; exact hQN)⟩
       obtain ⟨so5, sc5, hst5, hcl5⟩ := hrows.out Q q hq.out
       have cq := hcl5 wr Bw.out
       have hXq := hid (show X.take (i + 1) = X.take i ++ [q] from take_snoc (by rw [hXg.out i hlt, hQ.out]; exact hq.out))
       obtain ⟨MQ, hMQ⟩ : ∃ MQ, Hid (q.length = MQ) := ⟨_, rfl⟩
       rw [hMQ.out] at cq
       obtain ⟨W1, hW1⟩ : ∃ W, wr.alloc (.cells #[.slice so5 MQ sc5] 45) = W := ⟨_, rfl⟩
       have c1 : Below wr.heap.size wr W1 := by rw [← hW1]; exact (Below.refl _ wr).alloc (Nat.le_refl _) _
       have A1 : At W1 wr.heap.size #[.slice so5 MQ sc5] 45 := by rw [← hW1]; exact At.new _ _ _
       have B2x := hid (B2w.out.trans (c1.mono B2w.out.size))
       have hG1 : PthG w2 W1 v (X.take i) := (hGy.out.keptB hb.out).keptB c1
       have hXl : (X.take i).length < 1099511627776 := by
        have := hXN.out
        rw [List.length_take]
        omega
       obtain ⟨v', W7, hr7, G7, b7⟩ := hG1.app (p := q) (hst5.kept B2.out) ⟨wr.heap.size, 0, none⟩ 1 (by rw [hMQ.out]; simpa [Addr.add] using A1.cell 0) hXl B2x.out.size
       have hr7' := hid hr7
       have G7' := hid G7
       have B7 := hid (B2x.out.trans b7)
       have ad1 : (⟨g, o, none⟩ : Addr).add i = ⟨g, o + i, none⟩ := by by_cases h : i = 0 <;> simp [Addr.add, h]
       have ad2 : (⟨g, o, none⟩ : Addr).add Q = ⟨g, o + Q, none⟩ := by by_cases h : Q = 0 <;> simp [Addr.add, h]
       clear hTi hTc hT1 hst5 hcl5 A1 c1 hG1 hXl hr7 G7 b7
       go_wp2_with fail
       refine Calls.mono (hpick.out _) ?_
       rintro e w9 ⟨rfl, rfl⟩
       go_wp2_with (first | (at_builtin; refine wpList_append_run rfl _ _ 22 rfl v (.slice (some ⟨w9.heap.size, 0, none⟩) 1 1) v' W7 rfl rfl hr7'.out ?_) | fail)
       go_wp2
       go_roundw
       case rel => exact ⟨i + 1, c', v', hi'.out, by simp, by simp, rfl, hcb', hid ⟨T', hT1'.out, hc'.out⟩, hid (by rw [hXq.out]; exact G7'.out), B7⟩
       case measure => simp [intOf]; have := hi'.out; omega
    ·obtain rfl : N = i := by omega
     have hXf : X.take N = X := List.take_of_length_le (by rw [hXN.out]; exact Nat.le_refl _)
     have hLf : L.take N = L := List.take_of_length_le (by rw [hN.out]; exact Nat.le_refl _)
     rw [hXf] at hG
     rw [hLf] at hbt
     obtain ⟨Ti, hTi, hTc⟩ := hbt.out
     obtain rfl := bld_fun h3'.out hTi
     obtain rfl : NT = c := by rw [← hNT.out]; exact hTc
     have hXm : ∀ p, p ∈ X ↔ p ∈ L := fun p => by rw [← hX.out]; exact rot_mem L P p
     have hXmid : MidP X := by rw [← hX.out]; exact rot_mid hm'.out
     have Bw := hid (B2.out.trans (hb.out.mono B2.out.size))
     obtain ⟨so, sc, rfl⟩ := hG.out.shape
     have hrw := hid (hG.out.row hb.out).2
     have hb3 := hid (build23_calls X so N sc hXN hl (hid hXmid) wr hrw (hid (hT'.out.below Bw.out)))
     rw [hXN.out]
     have hfin := hid (fun (U : List Nod) (E : Int) (h : IsBld X U E) => (show E = 0 ∧ U.length = NT from by
      rcases h with ⟨g1, -, -⟩ | ⟨g1, ⟨p, hp, hpf⟩, -, -⟩ | ⟨g1, g2, g3, rfl⟩
      ·rw [hXN.out] at g1
       have := h1'.out
       rw [hN.out] at this
       omega
      ·rw [h2'.out p ((hXm p).1 hp)] at hpf
       cases hpf
      ·refine ⟨rfl, ?_⟩
       have k1 := len_le g3 h3'.out (g3.frm g1 g2) (fun p hp => (hXm p).1 hp)
       have k2 := len_le h3'.out g3 hf.out (fun p hp => (hXm p).2 hp)
       have := hNT.out
       omega))
     have f0 : ((NT : Int) == (NT : Int)) = true := by simp
     clear hXf hLf hbt hTi hTc hXm hXmid hG hb
     go_wp2_with fail
     refine Calls.mono hb3.out ?_
     rintro e w5 ⟨⟨uo, uc, U, E, rfl, -, hU⟩, b5⟩
     obtain ⟨rfl, hUl⟩ := hfin.out U E hU
     have B5 := hid (Bw.out.trans (b5.mono Bw.out.size))
     rw [hUl]
     clear b5 hU hUl hb3
     go_wp2
     go_ret
     exact ⟨rfl, B5.out⟩
end Go.Proofs.YtbabdhepnjacdaaDoor
