/-
 The law TrieFollows, walked.
-/
import Derived.Test.YtbabdhepnjacdaaDoorTjG
namespace Go.Proofs.YtbabdhepnjacdaaDoor
open Go.ChangeShapes Go.WideShapes Go.ChangeAt Go.RowKit Go.Shelf
/-- Numbers put behind a list that grows. -/
theorem InG.appM {B : Nat} {W : World} {v : Value} {L Y : List Int} (h : InG B W v L) (ro : Option Addr) (rc : Nat) (hY : IntsZ W ro Y) (hn : L.length + Y.length ≤ 1099511627776) (hB : B ≤ W.heap.size) :
  ∃ v' W', (∀ ty, (Builtin.append_ #[36, 36] ty #[v, .slice ro Y.length rc]).run Tryd.prog W = .ok v' W') ∧ InG B W' v' (L ++ Y) ∧ Below B W W' := by
 obtain ⟨i0, hi, hz0, hz1, hz2⟩ := info_partsV infoIn
 cases ro with
 | none =>
  have hY0 : Y = [] := by
   cases Y with
   | nil => rfl
   | cons y Y =>
    obtain ⟨-, b, off, e, -⟩ := hY 0 y rfl
    cases e
  subst hY0
  rw [List.append_nil]
  have hs := src_empty (w := W) Tryd.underlying36 i0.size none rc
  rcases h.2 with ⟨rfl, -⟩ | ⟨g, cap, cur, rfl, -, -, hnc, -, -, -⟩
  ·exact ⟨_, W, fun ty => run_append_nothing W _ _ ty _ i0 Tryd.underlying36 hi none 0 0 (Nat.le_refl _) _ hs, h, Below.refl _ _⟩
  ·exact ⟨_, W, fun ty => run_append_nothing W _ _ ty _ i0 Tryd.underlying36 hi (some ⟨g, 0, none⟩) L.length cap hnc _ hs, h, Below.refl _ _⟩
 | some a =>
  obtain ⟨v', W', hr, r1, r2⟩ := appendV (P := Tryd.prog) (ty := 0) Tryd.underlying36 hi hz0 hz1 hz2 rfl (by decide) h a Y.length rc (inC Y) (by simp [inC]) (fun j u hj => by
   simp only [inC, List.getElem?_map, Option.map_eq_some_iff] at hj
   obtain ⟨x, hx, rfl⟩ := hj
   obtain ⟨-, b, off, e, -, hc⟩ := hY j x hx
   cases e
   rw [show (⟨b, off, none⟩ : Addr).add j = ⟨b, off + j, none⟩ by by_cases h : j = 0 <;> simp [Addr.add, h]]
   exact hc) (fun u hu => by
   obtain ⟨x, -, rfl⟩ := List.mem_map.1 hu
   rfl) (by unfold maxLen; omega) (by omega) hB
  have hg : W.grownBy W' v.ownBlock := by
   rcases r2 with ⟨g, cap, rfl, rfl, hg⟩ | ⟨-, hg⟩
   ·exact hg
   ·exact grown_weaken hg
  refine ⟨v', W', fun ty => by rw [append_tyZ _ ty 0]; exact hr, ?_, (Below.refl B W).grown hg hB (fun k hk => (h.lt k hk).1)⟩
  unfold InG inC
  rw [List.length_append, List.map_append]
  exact r1
theorem flatF_succ {S : List Int} {f : Int → List Int} {j : Nat} {a : Int} (h : S[j]? = some a) : (S.take (j + 1)).flatMap f = (S.take j).flatMap f ++ f a := by
 rw [List.take_add_one, h]
 simp
theorem one_intsZ {w : World} {b : Nat} {x : Int} (h : At w b #[.int .i64 x] 3) (hx : i64B x) : IntsZ w (some ⟨b, 0, none⟩) [x] := one_ints h hx
set_option maxRecDepth 10000 in
set_option maxHeartbeats 8000000 in
theorem trieFollows_walk (ao : Option Addr) (cap : Nat) (L : List (List Stp)) (hl : L.length ≤ 1048576) (hm : MidP L) (bo : Option Addr) (cap' : Nat) (R : List AskZ) (hr : R.length ≤ 1048576) (w : World) (hT : TabU w) (hk : PthsAt w ao L) (hq : AsksAt w bo R) :
  Calls Tryd.prog 8 #[.slice ao L.length cap, .slice bo R.length cap'] w fun e w' => e = .returned (.bool true) ∧ Below w.heap.size w w' := by
 obtain ⟨N, hN⟩ : ∃ N, Hid (L.length = N) := ⟨_, rfl⟩
 obtain ⟨M, hM⟩ : ∃ M, Hid (R.length = M) := ⟨_, rfl⟩
 rw [hN.out, hM.out]
 rw [hN.out] at hl
 rw [hM.out] at hr
 have hNi : (N : Int) ≤ 1048576 := by omega
 have hMi : (M : Int) ≤ 1048576 := by omega
 have hm' := hid hm
 have hT' := hid hT
 have hk' := hid hk
 have hq' := hid hq
 have haw := hid (awake23_calls w (hid hT))
 have hbl := hid (fun (u : World) (hu : Below w.heap.size w u) => build23_calls L ao N cap hN hl (hid hm) u (hid (hk'.out.kept hu)) (hid (hT'.out.below hu)))
 clear hm hT hk hq
 go_enter Tryd.func8, Tryd.ntmps8
 go_wp2_with fail
 refine Calls.mono haw.out ?_
 rintro e w1 ⟨rfl, b1⟩
 have B1 := hid b1
 clear b1 haw
 go_wp2_with fail
 refine Calls.mono (hbl.out _ B1.out) ?_
 rintro e w2 ⟨⟨ro, rc, T, E, rfl, hnd, hI⟩, b2⟩
 have B2 := hid (B1.out.trans (b2.mono B1.out.size))
 have hnd' := hid hnd
 clear b2 hbl hnd
 rcases hI with ⟨h1, rfl, rfl⟩ | ⟨h1, h2, rfl, rfl⟩ | ⟨h1, h2, h3, rfl⟩
 ·clear h1
  rw [show ([] : List Nod).length = 0 from rfl]
  go_wp2
  go_ret
  exact ⟨rfl, B2.out⟩
 ·clear h1 h2
  rw [show ([] : List Nod).length = 0 from rfl]
  go_wp2
  go_ret
  exact ⟨rfl, B2.out⟩
 ·have hf := hid (h3.frm h1 h2)
  have hip := hid (h3.isPths h1 h2)
  have hmid := hid (bld_mid h3 hm'.out h1).1
  have hen := hid (bld_en h3)
  clear h1 h2 h3
  obtain ⟨NT, hNT⟩ : ∃ NT, Hid (T.length = NT) := ⟨_, rfl⟩
  rw [hNT.out]
  have hNTb : NT ≤ 1048576 := by have := hmid.out.1; have := hNT.out; omega
  have hNTi : (NT : Int) ≤ 1048576 := by omega
  obtain ⟨W3, hW3⟩ : ∃ W, w2.alloc (.cells #[.int .i64 0] 3) = W := ⟨_, rfl⟩
  have b3 : Below w2.heap.size w2 W3 := by rw [← hW3]; exact (Below.refl _ w2).alloc (Nat.le_refl _) _
  have A3 : At W3 w2.heap.size #[.int .i64 0] 3 := by rw [← hW3]; exact At.new _ _ _
  have B3 := hid (B2.out.trans (b3.mono B2.out.size))
  have hi3 := hid (one_intsZ A3 (by unfold i64B; omega))
  have hnd3 := hid (hnd'.out.kept b3)
  have hkd := hid (fun (u : World) (hu : Below W3.heap.size W3 u) => hnd3.out.kept hu)
  clear b3 A3
  go_wp2
  clear hW3
  go_loopw [7, 8] (fun nn ii wr => ∃ (i : Nat) (S : List Int) (so : Option Addr) (sc : Nat), i ≤ M ∧ ii = .int .i64 (i : Int) ∧ nn = .slice so S.length sc ∧ Hid (IntsZ wr so S) ∧ Hid (NowR T (R.take i) S) ∧ Hid (Below W3.heap.size W3 wr)) (fun _ ii _ => M - (intOf ii).toNat)
  case atStart => exact ⟨0, [0], some ⟨w2.heap.size, 0, none⟩, 1, Nat.zero_le _, rfl, rfl, hi3, hid (by rw [List.take_zero]; exact now_zero hf.out), hid (Below.refl _ _)⟩
  case round =>
   obtain ⟨i, S, so, sc, hi, rfl, rfl, hS, hnow, hb⟩ := hrel
   obtain ⟨KS, hKS⟩ : ∃ KS, Hid (S.length = KS) := ⟨_, rfl⟩
   rw [hKS.out]
   have hKb : KS ≤ 1048576 := by have h1 := now_len hnow.out; have := hNT.out; have := hKS.out; omega
   have hKi : (KS : Int) ≤ 1048576 := by omega
   by_cases hlt : i < M
   ·have hli : (i : Int) < (M : Int) := by omega
    have hi' := hid (show i + 1 ≤ M by omega)
    obtain ⟨x, hx⟩ : ∃ x, Hid (R[i]? = some x) := ⟨_, List.getElem?_eq_getElem (by rw [hM.out]; exact hlt)⟩
    obtain ⟨g, o, rfl, hgl, hrg⟩ := hq'.out i x hx.out
    have hrt := hid (show R.take (i + 1) = R.take i ++ [x] by rw [List.take_add_one, hx.out]; rfl)
    have hstep := hid (now_step hf.out hnow.out x)
    have htl := hid (fun j => now_take hf.out hnow.out x j)
    obtain ⟨xn, xm, xp, xo⟩ := x
    dsimp only at hrg
    have hrow := hid (fun (u : World) (hu : Below w.heap.size w u) => (show u.cell? ⟨g, o + i * 4 + 1, none⟩ = some (.string xm) ∧ u.cell? ⟨g, o + i * 4 + 2, none⟩ = some (.int .i64 xp) ∧ u.cell? ⟨g, o + i * 4 + 3, none⟩ = some (.bool xo) from
     ⟨(hu.cell (p := ⟨g, o + i * 4 + 1, none⟩) hgl).trans (hrg 1 _ rfl), (hu.cell (p := ⟨g, o + i * 4 + 2, none⟩) hgl).trans (hrg 2 _ rfl), (hu.cell (p := ⟨g, o + i * 4 + 3, none⟩) hgl).trans (hrg 3 _ rfl)⟩))
    clear hx hgl hrg
    obtain ⟨wo, hwo⟩ : ∃ wo, Hid (wo = wr) := ⟨_, rfl⟩
    have hbo := hid (show Below W3.heap.size W3 wo by rw [hwo.out]; exact hb.out)
    have hSo := hid (show IntsZ wo so S by rw [hwo.out]; exact hS.out)
    have hnowE := hid (show wo.heap.size = wr.heap.size by rw [hwo.out])
    go_wp2
    go_loopw [9, 10] (fun vv jj wj => ∃ (j : Nat) (v : Value), j ≤ KS ∧ jj = .int .i64 (j : Int) ∧ v = vv ∧ Hid (InG wo.heap.size wj v ((S.take j).flatMap (goF T ⟨xn, xm, xp, xo⟩))) ∧ Hid (Below wo.heap.size wo wj)) (fun _ jj _ => KS - (intOf jj).toNat)
    case atStart => exact ⟨0, _, Nat.zero_le _, rfl, rfl, hid (by simpa using InG.nil _ _), hid (by rw [hwo.out]; exact Below.refl _ _)⟩
    case round =>
     clear hb hS
     obtain ⟨j, v, hj, rfl, rfl, hG, hb⟩ := hrel
     by_cases hjl : j < KS
     ·have hji : (j : Int) < (KS : Int) := by omega
      have hj' := hid (show j + 1 ≤ KS by omega)
      obtain ⟨a, ha⟩ : ∃ a, Hid (S[j]? = some a) := ⟨_, List.getElem?_eq_getElem (by rw [hKS.out]; exact hjl)⟩
      obtain ⟨k, n, hak, hn⟩ := now_nat hnow.out (List.mem_of_getElem? ha.out)
      have hn' := hid hn
      obtain ⟨g2, o2, rfl, hcx⟩ := ints_at hSo.out ha.out
      have hcx' := hid hcx
      have hfl := hid (flatF_succ (f := goF T ⟨xn, xm, xp, xo⟩) ha.out)
      rw [hak] at hfl hcx'
      have Bw := hid (B3.out.trans ((hbo.out.trans (hb.out.mono hbo.out.size)).mono B3.out.size))
      have B3w := hid (hbo.out.trans (hb.out.mono hbo.out.size))
      have hcall := hid (fun (u : World) (hu : Below w.heap.size w u) (hu3 : Below W3.heap.size W3 u) => go23_calls T ro NT rc hNT hmid (k : Int) xm xp xo u (hid (hkd.out u hu3)) (hid (hT'.out.below hu)))
      have ad2 : (⟨g2, o2, none⟩ : Addr).add j = ⟨g2, o2 + j, none⟩ := by by_cases h : j = 0 <;> simp [Addr.add, h]
      have ad4 : (⟨g, o, none⟩ : Addr).add (i * 4) = ⟨g, o + i * 4, none⟩ := by by_cases h : i * 4 = 0 <;> simp [Addr.add, h]
      have ad41 : (⟨g, o + i * 4, none⟩ : Addr).add 1 = ⟨g, o + i * 4 + 1, none⟩ := by simp [Addr.add]
      have ad42 : (⟨g, o + i * 4, none⟩ : Addr).add 2 = ⟨g, o + i * 4 + 2, none⟩ := by simp [Addr.add]
      have ad43 : (⟨g, o + i * 4, none⟩ : Addr).add 3 = ⟨g, o + i * 4 + 3, none⟩ := by simp [Addr.add]
      have hSu := hid (fun (u : World) (hu : Below w.heap.size w u) (huo : Below wo.heap.size wo u) => (show u.cell? ⟨g2, o2 + j, none⟩ = some (.int .i64 (k : Int)) ∧ u.cell? ⟨g, o + i * 4 + 1, none⟩ = some (.string xm) ∧ u.cell? ⟨g, o + i * 4 + 2, none⟩ = some (.int .i64 xp) ∧ u.cell? ⟨g, o + i * 4 + 3, none⟩ = some (.bool xo) from ⟨hcx'.out u huo, hrow.out u hu⟩))
      have hlen := hid (htl.out (j + 1))
      clear hcx hak hn
      go_wp2
      rename_i Kr hKr
      refine wp_region_held_drew (S := fun u => (u.cell? ⟨g2, o2 + j, none⟩ = some (.int .i64 (k : Int)) ∧ u.cell? ⟨g, o + i * 4 + 1, none⟩ = some (.string xm) ∧ u.cell? ⟨g, o + i * 4 + 2, none⟩ = some (.int .i64 xp) ∧ u.cell? ⟨g, o + i * 4 + 3, none⟩ = some (.bool xo)) ∧ Below w.heap.size w u ∧ Below wo.heap.size wo u) (by kernel_rfl) ⟨hSu.out _ Bw.out.drew hb.out.drew, Bw.out.drew, hb.out.drew⟩ (fun hH => ?_)
      (refine' wpAnyH_take (i := 0) rfl (by kernel_rfl) (by kernel_rfl) (by kernel_rfl) (fun _ _ _ h => h) (Or.inl ⟨by rfl, ?_⟩) (by assumption) ?_; rotate_left; (· (intro wq hq; (try dsimp only at hq); go_simp; first | done | with_reducible rfl)); simp only [Act.put, List.getElem_toArray, List.getElem_cons_zero, List.setIfInBounds_toArray, List.set_cons_zero, List.set_cons_succ])
      (refine' wpAnyH_take (i := 1) rfl (by kernel_rfl) (by kernel_rfl) (by kernel_rfl) (fun _ _ _ h => h) (Or.inl ⟨by rfl, ?_⟩) (by assumption) ?_; rotate_left; (· (intro wq hq; (try dsimp only at hq); go_simp; first | done | with_reducible rfl)); simp only [Act.put, List.getElem_toArray, List.getElem_cons_zero, List.getElem_cons_succ, List.setIfInBounds_toArray, List.set_cons_zero, List.set_cons_succ])
      (refine' wpAnyH_take (i := 2) rfl (by kernel_rfl) (by kernel_rfl) (by kernel_rfl) (fun _ _ _ h => h) (Or.inl ⟨by rfl, ?_⟩) (by assumption) ?_; rotate_left; (· (intro wq hq; (try dsimp only at hq); go_simp; first | done | with_reducible rfl)); simp only [Act.put, List.getElem_toArray, List.getElem_cons_zero, List.getElem_cons_succ, List.setIfInBounds_toArray, List.set_cons_zero, List.set_cons_succ])
      (refine' wpAnyH_take (i := 3) rfl (by kernel_rfl) (by kernel_rfl) (by kernel_rfl) (fun _ _ _ h => h) (Or.inl ⟨by rfl, ?_⟩) (by assumption) ?_; rotate_left; (· (intro wq hq; (try dsimp only at hq); go_simp; first | done | with_reducible rfl)); simp only [Act.put, List.getElem_toArray, List.getElem_cons_zero, List.getElem_cons_succ, List.setIfInBounds_toArray, List.set_cons_zero, List.set_cons_succ])
      (refine' wpAnyH_take (i := 4) rfl (by kernel_rfl) (by kernel_rfl) (by kernel_rfl) (fun _ _ _ h => h) (Or.inl ⟨by rfl, ?_⟩) (by assumption) ?_; rotate_left; (· (intro wq hq; (try dsimp only at hq); go_simp; first | done | with_reducible rfl)); simp only [Act.put, List.getElem_toArray, List.getElem_cons_zero, List.getElem_cons_succ, List.setIfInBounds_toArray, List.set_cons_zero, List.set_cons_succ])
      (refine' wpAnyH_take (i := 5) rfl (by kernel_rfl) (by kernel_rfl) (by kernel_rfl) (fun _ _ _ h => h) (Or.inl ⟨by rfl, ?_⟩) (by assumption) ?_; rotate_left; (· (intro wq hq; (try dsimp only at hq); go_simp; first | done | with_reducible rfl)); simp only [Act.put, List.getElem_toArray, List.getElem_cons_zero, List.getElem_cons_succ, List.setIfInBounds_toArray, List.set_cons_zero, List.set_cons_succ])
      (refine' wpAnyH_take (i := 6) rfl (by kernel_rfl) (by kernel_rfl) (by kernel_rfl) (fun _ _ _ h => h) (Or.inl ⟨by rfl, ?_⟩) (by assumption) ?_; rotate_left; (· (intro wq hq; (try dsimp only at hq); go_simp; first | done | with_reducible rfl)); simp only [Act.put, List.getElem_toArray, List.getElem_cons_zero, List.getElem_cons_succ, List.setIfInBounds_toArray, List.set_cons_zero, List.set_cons_succ])
      (refine' wpAnyH_take (i := 7) rfl (by kernel_rfl) (by kernel_rfl) (by kernel_rfl) (fun _ _ _ h => h) (Or.inl ⟨by rfl, ?_⟩) (by assumption) ?_; rotate_left; (· (intro wq hq; (try dsimp only at hq); go_simp; first | done | with_reducible rfl)); simp only [Act.put, List.getElem_toArray, List.getElem_cons_zero, List.getElem_cons_succ, List.setIfInBounds_toArray, List.set_cons_zero, List.set_cons_succ])
      (refine' wpAnyH_take (i := 8) rfl (by kernel_rfl) (by kernel_rfl) (by kernel_rfl) (fun _ _ _ h => h) (Or.inl ⟨by rfl, ?_⟩) (by assumption) ?_; rotate_left; (· (intro wq hq; (try dsimp only at hq); go_simp; first | done | with_reducible rfl)); simp only [Act.put, List.getElem_toArray, List.getElem_cons_zero, List.getElem_cons_succ, List.setIfInBounds_toArray, List.set_cons_zero, List.set_cons_succ])
      (refine' wpAnyH_take (i := 9) rfl (by kernel_rfl) (by kernel_rfl) (by kernel_rfl) (fun _ _ _ h => h) (Or.inl ⟨by rfl, ?_⟩) (by assumption) ?_; rotate_left; (· (intro wq hq; (try dsimp only at hq); go_simp; first | done | with_reducible rfl)); simp only [Act.put, List.getElem_toArray, List.getElem_cons_zero, List.getElem_cons_succ, List.setIfInBounds_toArray, List.set_cons_zero, List.set_cons_succ])
      (refine' wpAnyH_take (i := 10) rfl (by kernel_rfl) (by kernel_rfl) (by kernel_rfl) (fun _ _ _ h => h) (Or.inl ⟨by rfl, ?_⟩) (by assumption) ?_; rotate_left; (· (intro wq hq; (try dsimp only at hq); go_simp; first | done | with_reducible rfl)); simp only [Act.put, List.getElem_toArray, List.getElem_cons_zero, List.getElem_cons_succ, List.setIfInBounds_toArray, List.set_cons_zero, List.set_cons_succ])
      (refine' wpAnyH_take (i := 11) rfl (by kernel_rfl) (by kernel_rfl) (by kernel_rfl) (fun _ _ _ h => h) (Or.inl ⟨by rfl, ?_⟩) (by assumption) ?_; rotate_left; (· (intro wq hq; (try dsimp only at hq); go_simp; first | done | with_reducible rfl)); simp only [Act.put, List.getElem_toArray, List.getElem_cons_zero, List.getElem_cons_succ, List.setIfInBounds_toArray, List.set_cons_zero, List.set_cons_succ])
      (refine' wpAnyH_take (i := 12) rfl (by kernel_rfl) (by kernel_rfl) (by kernel_rfl) (fun _ _ _ h => h) (Or.inl ⟨by rfl, ?_⟩) (by assumption) ?_; rotate_left; (· (intro wq hq; (try dsimp only at hq); go_simp; first | done | with_reducible rfl)); simp only [Act.put, List.getElem_toArray, List.getElem_cons_zero, List.getElem_cons_succ, List.setIfInBounds_toArray, List.set_cons_zero, List.set_cons_succ])
      (refine' wpAnyH_take (i := 13) rfl (by kernel_rfl) (by kernel_rfl) (by kernel_rfl) (fun _ _ _ h => h) (Or.inl ⟨by rfl, ?_⟩) (by assumption) ?_; rotate_left; (· (intro wq hq; (try dsimp only at hq); go_simp; first | done | with_reducible rfl)); simp only [Act.put, List.getElem_toArray, List.getElem_cons_zero, List.getElem_cons_succ, List.setIfInBounds_toArray, List.set_cons_zero, List.set_cons_succ])
      (refine' wpAnyH_take (i := 14) rfl (by kernel_rfl) (by kernel_rfl) (by kernel_rfl) (fun _ _ _ h => h) (Or.inl ⟨by rfl, ?_⟩) (by assumption) ?_; rotate_left; (· (intro wq hq; (try dsimp only at hq); go_simp; first | done | with_reducible rfl)); simp only [Act.put, List.getElem_toArray, List.getElem_cons_zero, List.getElem_cons_succ, List.setIfInBounds_toArray, List.set_cons_zero, List.set_cons_succ])
      (refine' wpAnyH_take (i := 15) rfl (by kernel_rfl) (by kernel_rfl) (by kernel_rfl) (fun _ _ _ h => h) (Or.inl ⟨by rfl, ?_⟩) (by assumption) ?_; rotate_left; (· (intro wq hq; (try dsimp only at hq); go_simp; first | done | with_reducible rfl)); simp only [Act.put, List.getElem_toArray, List.getElem_cons_zero, List.getElem_cons_succ, List.setIfInBounds_toArray, List.set_cons_zero, List.set_cons_succ])
      (refine' wpAnyH_take (i := 16) rfl (by kernel_rfl) (by kernel_rfl) (by kernel_rfl) (fun _ _ _ h => h) (Or.inl ⟨by rfl, ?_⟩) (by assumption) ?_; rotate_left; (· (intro wq hq; (try dsimp only at hq); go_simp; first | done | with_reducible rfl)); simp only [Act.put, List.getElem_toArray, List.getElem_cons_zero, List.getElem_cons_succ, List.setIfInBounds_toArray, List.set_cons_zero, List.set_cons_succ])
      (refine' wpAnyH_take (i := 17) rfl (by kernel_rfl) (by kernel_rfl) (by kernel_rfl) (fun _ _ _ h => h) (Or.inl ⟨by rfl, ?_⟩) (by assumption) ?_; rotate_left; (· (intro wq hq; (try dsimp only at hq); go_simp; first | done | with_reducible rfl)); simp only [Act.put, List.getElem_toArray, List.getElem_cons_zero, List.getElem_cons_succ, List.setIfInBounds_toArray, List.set_cons_zero, List.set_cons_succ])
      (refine' wpAnyH_take (i := 18) rfl (by kernel_rfl) (by kernel_rfl) (by kernel_rfl) (fun _ _ _ h => h) (Or.inl ⟨by rfl, ?_⟩) (by assumption) ?_; rotate_left; (· (intro wq hq; (try dsimp only at hq); go_simp; first | done | with_reducible rfl)); simp only [Act.put, List.getElem_toArray, List.getElem_cons_zero, List.getElem_cons_succ, List.setIfInBounds_toArray, List.set_cons_zero, List.set_cons_succ])
      (refine' wpAnyH_take (i := 19) rfl (by kernel_rfl) (by kernel_rfl) (by kernel_rfl) (fun _ _ _ h => h) (Or.inl ⟨by rfl, ?_⟩) (by assumption) ?_; rotate_left; (· (intro wq hq; (try dsimp only at hq); go_simp; first | done | with_reducible rfl)); simp only [Act.put, List.getElem_toArray, List.getElem_cons_zero, List.getElem_cons_succ, List.setIfInBounds_toArray, List.set_cons_zero, List.set_cons_succ])
      refine wpAnyH_ready (rs := [20]) (by kernel_rfl) (by simp) ?_
      refine AllReadyH.cons rfl (fun K hK => ?_) ?_
      rotate_left
      ·exact AllReadyH.nil
      rw [if_pos (by rfl)]
      go_simp
      refine Calls.mono (hcall.out _ Bw.out.drew B3w.out.drew) ?_
      rintro e w5 ⟨⟨yo, yc, Y, E, rfl, hiY, hgoY⟩, b5⟩
      obtain ⟨hYe, rfl⟩ := isGo_eq hf.out hn'.out (x := ⟨xn, xm, xp, xo⟩) hgoY
      have hYe' := hid hYe
      have b5' : Below wr.heap.size wr w5 := (Below.refl _ wr).drew.trans (b5.mono (Nat.le_refl _))
      have B5 := hid (Bw.out.trans (b5'.mono Bw.out.size))
      have Bo5 := hid (hb.out.trans (b5'.mono hb.out.size))
      have G5 := hid (hG.out.keptB b5')
      have hiY' := hid hiY
      refine hK.out _ _ ⟨hSu.out _ B5.out Bo5.out, B5.out, Bo5.out⟩ (fun hH5 => ?_)
      clear hK K hYe b5 b5' hiY hgoY hSu hcall hG hrow hcx'
      (refine' wpAnyH_take (i := 21) rfl (by kernel_rfl) (by kernel_rfl) (by kernel_rfl) (fun _ _ _ h => h) (Or.inl ⟨by rfl, ?_⟩) (by assumption) ?_; rotate_left; (· (intro wq hq; (try dsimp only at hq); go_simp; first | done | with_reducible rfl)); simp only [Act.put, List.getElem_toArray, List.getElem_cons_zero, List.getElem_cons_succ, List.setIfInBounds_toArray, List.set_cons_zero, List.set_cons_succ])
      (refine' wpAnyH_take (i := 22) rfl (by kernel_rfl) (by kernel_rfl) (by kernel_rfl) (fun _ _ _ h => h) (Or.inl ⟨by rfl, ?_⟩) (by assumption) ?_; rotate_left; (· (intro wq hq; (try dsimp only at hq); go_simp; first | done | with_reducible rfl)); simp only [Act.put, List.getElem_toArray, List.getElem_cons_zero, List.getElem_cons_succ, List.setIfInBounds_toArray, List.set_cons_zero, List.set_cons_succ])
      (refine' wpAnyH_take (i := 23) rfl (by kernel_rfl) (by kernel_rfl) (by kernel_rfl) (fun _ _ _ h => h) (Or.inl ⟨by rfl, ?_⟩) (by assumption) ?_; rotate_left; (· (intro wq hq; (try dsimp only at hq); go_simp; first | done | with_reducible rfl)); simp only [Act.put, List.getElem_toArray, List.getElem_cons_zero, List.getElem_cons_succ, List.setIfInBounds_toArray, List.set_cons_zero, List.set_cons_succ])
      (refine' wpAnyH_take (i := 24) rfl (by kernel_rfl) (by kernel_rfl) (by kernel_rfl) (fun _ _ _ h => h) (Or.inl ⟨by rfl, ?_⟩) (by assumption) ?_; rotate_left; (· (intro wq hq; (try dsimp only at hq); go_simp; first | done | with_reducible rfl)); simp only [Act.put, List.getElem_toArray, List.getElem_cons_zero, List.getElem_cons_succ, List.setIfInBounds_toArray, List.set_cons_zero, List.set_cons_succ])
      (refine' wpAnyH_take (i := 25) rfl (by kernel_rfl) (by kernel_rfl) (by kernel_rfl) (fun _ _ _ h => h) (Or.inl ⟨by rfl, ?_⟩) (by assumption) ?_; rotate_left; (· (intro wq hq; (try dsimp only at hq); go_simp; first | done | with_reducible rfl)); simp only [Act.put, List.getElem_toArray, List.getElem_cons_zero, List.getElem_cons_succ, List.setIfInBounds_toArray, List.set_cons_zero, List.set_cons_succ])
      refine wpAnyH_done (by kernel_rfl) ?_ _
      refine hKr _ _ ?_
      obtain ⟨v', W7, hr7, G7, b7⟩ := G5.out.appM yo yc hiY'.out (by
       have h1 := hlen.out
       have h2 := hNT.out
       rw [hfl.out, ← hYe'.out, List.length_append] at h1
       omega) Bo5.out.size
      have hr7' := hid hr7
      have G7' := hid G7
      have B7 := hid (Bo5.out.trans b7)
      clear hr7 G7 b7
      go_wp2_with (first | (at_builtin; refine wpList_append_run rfl _ _ 36 rfl v (.slice yo Y.length yc) v' W7 rfl rfl hr7'.out ?_) | fail)
      go_wp2
      go_roundw
      case rel => exact ⟨j + 1, v', hj'.out, by simp, rfl, hid (by rw [hfl.out, ← hYe'.out]; exact G7'.out), B7⟩
      case measure => simp [intOf]; have := hj'.out; omega
     ·obtain rfl : KS = j := by omega
      obtain ⟨Z, hZ⟩ : ∃ Z, Hid (S.flatMap (goF T ⟨xn, xm, xp, xo⟩) = Z) := ⟨_, rfl⟩
      have hG2 : InG wo.heap.size wr v Z := by
       have h1 := hG.out
       rw [List.take_of_length_le (by rw [hKS.out]; exact Nat.le_refl _), hZ.out] at h1
       exact h1
      rw [hZ.out] at hstep
      obtain ⟨so', sc', rfl⟩ := hG2.shape
      have hrw := hid (hG2.row (fun y hy => by
       have h1 := now_bd hstep.out y hy
       have h2 := hNT.out
       unfold i64B
       omega)).2
      have Bn := hid (hbo.out.trans (hb.out.mono hbo.out.size))
      clear hG2 hG
      go_wp2
      go_roundw
      case rel => exact ⟨i + 1, Z, so', sc', hi'.out, by simp, rfl, hrw, hid (by rw [hrt.out]; exact hstep.out), Bn⟩
      case measure => simp [intOf]; have := hi'.out; omega
   ·obtain rfl : M = i := by omega
    have hnowM : Hid (NowR T R S) := hid (by
     have h1 := hnow.out
     rw [List.take_of_length_le (by rw [hM.out]; exact Nat.le_refl _)] at h1
     exact h1)
    have hXn := hid (ends_nd hf.out hnowM.out)
    have htl := hid (fun j => flat_take_len (N := (enA T).length) j hXn.out.1 hXn.out.2)
    have hem := hid (fun (q : Nat) (p : List Stp) (hp : L[q]? = some p) => ends_mem hip.out hnowM.out hp)
    obtain ⟨wo, hwo⟩ : ∃ wo, Hid (wo = wr) := ⟨_, rfl⟩
    have hbo := hid (show Below W3.heap.size W3 wo by rw [hwo.out]; exact hb.out)
    have hSo := hid (show IntsZ wo so S by rw [hwo.out]; exact hS.out)
    go_wp2
    go_loopw [13, 14] (fun vv jj wj => ∃ (j : Nat) (v : Value), j ≤ KS ∧ jj = .int .i64 (j : Int) ∧ v = vv ∧ Hid (InG wo.heap.size wj v ((S.take j).flatMap (enF T))) ∧ Hid (Below wo.heap.size wo wj)) (fun _ jj _ => KS - (intOf jj).toNat)
    case atStart => exact ⟨0, _, Nat.zero_le _, rfl, rfl, hid (by simpa using InG.nil _ _), hid (by rw [hwo.out]; exact Below.refl _ _)⟩
    case round =>
     clear hb hS
     obtain ⟨j, v, hj, rfl, rfl, hG, hb⟩ := hrel
     by_cases hjl : j < KS
     ·have hji : (j : Int) < (KS : Int) := by omega
      have hj' := hid (show j + 1 ≤ KS by omega)
      obtain ⟨a, ha⟩ : ∃ a, Hid (S[j]? = some a) := ⟨_, List.getElem?_eq_getElem (by rw [hKS.out]; exact hjl)⟩
      obtain ⟨k, n, hak, hn⟩ := now_nat hnowM.out (List.mem_of_getElem? ha.out)
      have hkN : k < NT := by have := (List.getElem?_eq_some_iff.1 hn).1; have := hNT.out; omega
      have hkN' : (k : Int) < (NT : Int) := by omega
      obtain ⟨g2, o2, rfl, hcx⟩ := ints_at hSo.out ha.out
      have cx := hcx _ hb.out
      have hfl := hid (flatF_succ (f := enF T) ha.out)
      rw [hak] at hfl cx
      rw [enF_at hn] at hfl
      obtain ⟨g, o, sa, sc2, ta, tc, ea, ec, rfl, -, -, -, hEn, hcl⟩ := node_at hnd3.out hn
      have B3w := hid (hbo.out.trans (hb.out.mono hbo.out.size))
      have c2 := (hcl wr B3w.out).2.2.1
      have hiY := hid (hEn.kept B3w.out)
      obtain ⟨v', W7, hr7, G7, b7⟩ := hG.out.appM ea ec hiY.out (by
       have h1 := htl.out (j + 1)
       have h2 := hen.out
       rw [hfl.out, List.length_append] at h1
       have h3 := hN.out
       omega) hb.out.size
      have hr7' := hid hr7
      have G7' := hid G7
      have B7 := hid (hb.out.trans b7)
      have f1 : decide ((k : Int) < 0) = false := decide_eq_false (by omega)
      have f2 : decide ((NT : Int) ≤ (k : Int)) = false := decide_eq_false (by omega)
      have f3 : decide (NT ≤ k) = false := decide_eq_false (by omega)
      have ad2 : (⟨g2, o2, none⟩ : Addr).add j = ⟨g2, o2 + j, none⟩ := by by_cases h : j = 0 <;> simp [Addr.add, h]
      clear hr7 G7 b7 hcx hak hn hcl hEn
      go_wp2_with (first | (at_builtin; refine wpList_append_run rfl _ _ 36 rfl v (.slice ea n.ends.length ec) v' W7 rfl rfl hr7'.out ?_) | fail)
      go_wp2
      go_roundw
      case rel => exact ⟨j + 1, v', hj'.out, by simp, rfl, hid (by rw [hfl.out]; exact G7'.out), B7⟩
      case measure => simp [intOf]; have := hj'.out; omega
     ·obtain rfl : KS = j := by omega
      obtain ⟨X, hX⟩ : ∃ X, Hid (S.flatMap (enF T) = X) := ⟨_, rfl⟩
      have hG2 : InG wo.heap.size wr v X := by
       have h1 := hG.out
       rw [List.take_of_length_le (by rw [hKS.out]; exact Nat.le_refl _), hX.out] at h1
       exact h1
      rw [hX.out] at hXn hem
      obtain ⟨eo, ec, rfl⟩ := hG2.shape
      have hrw := hid (hG2.row (fun y hy => by
       have h1 := hXn.out.2 y hy
       have h2 := hen.out
       have h3 := hN.out
       unfold i64B
       omega)).2
      obtain ⟨CX, hCX⟩ : ∃ CX, Hid (X.length = CX) := ⟨_, rfl⟩
      have hcall := hid (cntX_all (N := N) hXn.out.1 (fun y hy => by
       have h1 := hXn.out.2 y hy
       have h2 := hen.out
       have h3 := hN.out
       omega))
      have hCb : CX ≤ 1048576 := by
       have h1 := hcall.out
       have h2 := cntX_le X N
       have h3 := hCX.out
       omega
      have Bw := hid (B3.out.trans ((hbo.out.trans (hb.out.mono hbo.out.size)).mono B3.out.size))
      obtain ⟨wx, hwx⟩ : ∃ wx, Hid (wx = wr) := ⟨_, rfl⟩
      have hrx := hid (show IntsZ wx eo X by rw [hwx.out]; exact hrw.out)
      have hbx := hid (show Below w.heap.size w wx by rw [hwx.out]; exact Bw.out)
      rw [hCX.out]
      clear hG2 hG hb hrw
      go_wp2
      go_loopw [15, 16] (fun cc ii wj => ∃ (i c : Nat), i ≤ N ∧ ii = .int .i64 (i : Int) ∧ cc = .int .i64 (c : Int) ∧ c ≤ 1048576 ∧ Hid (c = cntX X i) ∧ Hid (Below wx.heap.size wx wj)) (fun _ ii _ => N - (intOf ii).toNat)
      case atStart => exact ⟨0, 0, Nat.zero_le _, rfl, rfl, by omega, hid (by simp [cntX]), hid (by rw [hwx.out]; exact Below.refl _ _)⟩
      case round =>
       clear Bw
       obtain ⟨i, c, hi, rfl, rfl, hcb, hc, hb⟩ := hrel
       by_cases hlt : i < N
       ·have hli : (i : Int) < (N : Int) := by omega
        have hi' := hid (show i + 1 ≤ N by omega)
        obtain ⟨p, hp⟩ : ∃ p, Hid (L[i]? = some p) := ⟨_, List.getElem?_eq_getElem (by rw [hN.out]; exact hlt)⟩
        obtain ⟨g, o, so3, sc3, rfl, hst, hcl⟩ := pths_at hk'.out hp.out
        have Bw := hid (hbx.out.trans (hb.out.mono hbx.out.size))
        have ad1 : (⟨g, o, none⟩ : Addr).add i = ⟨g, o + i, none⟩ := by by_cases h : i = 0 <;> simp [Addr.add, h]
        obtain ⟨MP, hMP⟩ : ∃ MP, Hid (p.length = MP) := ⟨_, rfl⟩
        rw [hMP.out] at hcl
        have cp := hcl wr Bw.out
        have hcl' := hid hcl
        have hst' := hid hst
        have hmem := hid (hem.out i p hp.out)
        have hcs := hid (cntX_succ X i)
        have hh := hid (fun (u : World) (hu : Below wx.heap.size wx u) => hasI_calls X eo CX ec hCX (by omega) (i : Int) u (hid (hrx.out.kept hu)))
        obtain ⟨b0, f0⟩ : ∃ b0 : Bool, ((MP : Int) == (M : Int)) = b0 := ⟨_, rfl⟩
        have hb0 := hid (show b0 = true → MP = M from fun h => by rw [h] at f0; have := beq_iff_eq.1 f0; omega)
        have hb1 := hid (show b0 = false → ¬ TkR p R from fun h ht => by
         rw [h] at f0
         have h1 := ht.1
         rw [hMP.out, hM.out] at h1
         subst h1
         simp at f0)
        obtain ⟨wy, hwy⟩ : ∃ wy, Hid (wy = wr) := ⟨_, rfl⟩
        have hby := hid (show Below wx.heap.size wx wy by rw [hwy.out]; exact hb.out)
        clear hst hcl
        go_wp2
        clear f0 cp
        go_loopw [17, 18] (fun tt jj wj => ∃ (j : Nat) (b : Bool), j ≤ M ∧ jj = .int .i64 (j : Int) ∧ tt = .bool b ∧ Hid (b = true → MP = M ∧ ∀ (q : Nat) (s : Stp) (y : AskZ), q < j → p[q]? = some s → R[q]? = some y → tkA s y = true) ∧ Hid (b = false → ¬ TkR p R) ∧ Hid (Below wy.heap.size wy wj)) (fun _ jj _ => M - (intOf jj).toNat)
        case atStart => exact ⟨0, b0, Nat.zero_le _, rfl, rfl, hid (fun h => ⟨hb0.out h, fun q s y hq => by omega⟩), hb1, hid (by rw [hwy.out]; exact Below.refl _ _)⟩
        case round =>
         clear hb Bw hb0 hb1
         obtain ⟨j, b, hj, rfl, rfl, ht, hno, hb⟩ := hrel
         have Bx := hid (hby.out.trans (hb.out.mono hby.out.size))
         have Bw := hid (hbx.out.trans (Bx.out.mono hbx.out.size))
         cases b with
         | false =>
          have hH := hh.out wr Bx.out
          rw [decide_eq_false (fun h => hno.out rfl (hmem.out.1 h))] at hH
          have hH' := hid hH
          have hcs2 := hid (show cntX X (i + 1) = cntX X i by rw [hcs.out, if_neg (fun h => hno.out rfl (hmem.out.1 h))]; rfl)
          clear hH ht hno
          go_wp2_with fail
          refine Calls.mono hH'.out ?_
          rintro e w8 ⟨rfl, b8⟩
          have B8 := hid (Bx.out.trans (b8.mono Bx.out.size))
          clear b8 hH'
          go_wp2
          go_roundw
          case rel => exact ⟨i + 1, c, hi'.out, by simp, rfl, hcb, hid (by rw [hcs2.out]; exact hc.out), B8⟩
          case measure => simp [intOf]; have := hi'.out; omega
         | true =>
          have hMM := hid (ht.out rfl).1
          by_cases hjM : j < M
          ·have hji : (j : Int) < (M : Int) := by omega
           have hjP : (j : Int) < (MP : Int) := by have := hMM.out; omega
           have hj' := hid (show j + 1 ≤ M by omega)
           obtain ⟨s, hs⟩ : ∃ s, Hid (p[j]? = some s) := ⟨_, List.getElem?_eq_getElem (by rw [hMP.out, hMM.out]; exact hjM)⟩
           obtain ⟨y, hy⟩ : ∃ y, Hid (R[j]? = some y) := ⟨_, List.getElem?_eq_getElem (by rw [hM.out]; exact hjM)⟩
           obtain ⟨g2, o2, rfl, hg2, hrg2⟩ := steps_at hst'.out hs.out
           obtain ⟨g4, o4, rfl, hgl, hrg⟩ := hq'.out j y hy.out
           have htt := hid (fun u => takes22_calls s y.name y.place y.obj u)
           obtain ⟨TB, hTB⟩ : ∃ TB, tkS s y.name y.place y.obj = TB := ⟨_, rfl⟩
           rw [hTB] at htt
           have hTB' := hid (show tkA s y = TB from hTB)
           have ht2 := hid (show TB = true → MP = M ∧ ∀ (q : Nat) (s : Stp) (y : AskZ), q < j + 1 → p[q]? = some s → R[q]? = some y → tkA s y = true from fun h => ⟨hMM.out, fun q s' y' hq h1 h2 => by
            by_cases e : q < j
            ·exact (ht.out rfl).2 q s' y' e h1 h2
            ·obtain rfl : q = j := by omega
             have := h1.symm.trans hs.out
             cases this
             have := h2.symm.trans hy.out
             cases this
             rw [hTB'.out, h]⟩)
           have hno2 := hid (show TB = false → ¬ TkR p R from fun h h2 => by
            have h3 := h2.2 j s y hs.out hy.out
            rw [hTB'.out, h] at h3
            cases h3)
           obtain ⟨sk, sn, sp⟩ := s
           obtain ⟨yn, ym, yp, yo⟩ := y
           dsimp only at hrg hrg2 htt
           have hSu := hid (fun (u : World) (hu : Below w.heap.size w u) => (show u.cell? ⟨g, o + i, none⟩ = some (.slice (some ⟨g2, o2, none⟩) MP sc3) ∧ u.rangeAt g2 (o2 + j * 3) [.int .i64 sk, .string sn, .int .i64 sp] ∧ u.cell? ⟨g4, o4 + j * 4 + 1, none⟩ = some (.string ym) ∧ u.cell? ⟨g4, o4 + j * 4 + 2, none⟩ = some (.int .i64 yp) ∧ u.cell? ⟨g4, o4 + j * 4 + 3, none⟩ = some (.bool yo) from
            ⟨hcl'.out u hu, range_kept hrg2 hu, (hu.cell (p := ⟨g4, o4 + j * 4 + 1, none⟩) hgl).trans (hrg 1 _ rfl), (hu.cell (p := ⟨g4, o4 + j * 4 + 2, none⟩) hgl).trans (hrg 2 _ rfl), (hu.cell (p := ⟨g4, o4 + j * 4 + 3, none⟩) hgl).trans (hrg 3 _ rfl)⟩))
           have ad4 : (⟨g4, o4, none⟩ : Addr).add (j * 4) = ⟨g4, o4 + j * 4, none⟩ := by by_cases h : j * 4 = 0 <;> simp [Addr.add, h]
           have ad41 : (⟨g4, o4 + j * 4, none⟩ : Addr).add 1 = ⟨g4, o4 + j * 4 + 1, none⟩ := by simp [Addr.add]
           have ad42 : (⟨g4, o4 + j * 4, none⟩ : Addr).add 2 = ⟨g4, o4 + j * 4 + 2, none⟩ := by simp [Addr.add]
           have ad43 : (⟨g4, o4 + j * 4, none⟩ : Addr).add 3 = ⟨g4, o4 + j * 4 + 3, none⟩ := by simp [Addr.add]
           clear hrg2 hg2 hgl hrg hTB hs hy hTB' hMM ht hno
           go_wp2
           rename_i Kr hKr
           refine wp_region_held_drew (S := fun u => (u.cell? ⟨g, o + i, none⟩ = some (.slice (some ⟨g2, o2, none⟩) MP sc3) ∧ u.rangeAt g2 (o2 + j * 3) [.int .i64 sk, .string sn, .int .i64 sp] ∧ u.cell? ⟨g4, o4 + j * 4 + 1, none⟩ = some (.string ym) ∧ u.cell? ⟨g4, o4 + j * 4 + 2, none⟩ = some (.int .i64 yp) ∧ u.cell? ⟨g4, o4 + j * 4 + 3, none⟩ = some (.bool yo)) ∧ Below w.heap.size w u) (by kernel_rfl) ⟨hSu.out _ Bw.out.drew, Bw.out.drew⟩ (fun hH => ?_)
           (refine' wpAnyH_take (i := 0) rfl (by kernel_rfl) (by kernel_rfl) (by kernel_rfl) (fun _ _ _ h => h) (Or.inl ⟨by rfl, ?_⟩) (by assumption) ?_; rotate_left; (· (intro wq hq; (try dsimp only at hq); go_simp; first | done | with_reducible rfl)); simp only [Act.put, List.getElem_toArray, List.getElem_cons_zero, List.setIfInBounds_toArray, List.set_cons_zero, List.set_cons_succ])
           (refine' wpAnyH_take (i := 1) rfl (by kernel_rfl) (by kernel_rfl) (by kernel_rfl) (fun _ _ _ h => h) (Or.inl ⟨by rfl, ?_⟩) (by assumption) ?_; rotate_left; (· (intro wq hq; (try dsimp only at hq); go_simp; first | done | with_reducible rfl)); simp only [Act.put, List.getElem_toArray, List.getElem_cons_zero, List.getElem_cons_succ, List.setIfInBounds_toArray, List.set_cons_zero, List.set_cons_succ])
           (refine' wpAnyH_take (i := 2) rfl (by kernel_rfl) (by kernel_rfl) (by kernel_rfl) (fun _ _ _ h => h) (Or.inl ⟨by rfl, ?_⟩) (by assumption) ?_; rotate_left; (· (intro wq hq; (try dsimp only at hq); go_simp; first | done | with_reducible rfl)); simp only [Act.put, List.getElem_toArray, List.getElem_cons_zero, List.getElem_cons_succ, List.setIfInBounds_toArray, List.set_cons_zero, List.set_cons_succ])
           (refine' wpAnyH_take (i := 3) rfl (by kernel_rfl) (by kernel_rfl) (by kernel_rfl) (fun _ _ _ h => h) (Or.inl ⟨by rfl, ?_⟩) (by assumption) ?_; rotate_left; (· (intro wq hq; (try dsimp only at hq); go_simp; first | done | with_reducible rfl)); simp only [Act.put, List.getElem_toArray, List.getElem_cons_zero, List.getElem_cons_succ, List.setIfInBounds_toArray, List.set_cons_zero, List.set_cons_succ])
           (refine' wpAnyH_take (i := 4) rfl (by kernel_rfl) (by kernel_rfl) (by kernel_rfl) (fun _ _ _ h => h) (Or.inl ⟨by rfl, ?_⟩) (by assumption) ?_; rotate_left; (· (intro wq hq; (try dsimp only at hq); go_simp; first | done | with_reducible rfl)); simp only [Act.put, List.getElem_toArray, List.getElem_cons_zero, List.getElem_cons_succ, List.setIfInBounds_toArray, List.set_cons_zero, List.set_cons_succ])
           (refine' wpAnyH_take (i := 5) rfl (by kernel_rfl) (by kernel_rfl) (by kernel_rfl) (fun _ _ _ h => h) (Or.inl ⟨by rfl, ?_⟩) (by assumption) ?_; rotate_left; (· (intro wq hq; (try dsimp only at hq); go_simp; first | done | with_reducible rfl)); simp only [Act.put, List.getElem_toArray, List.getElem_cons_zero, List.getElem_cons_succ, List.setIfInBounds_toArray, List.set_cons_zero, List.set_cons_succ])
           (refine wpAnyH_take (i := 6) (v := .agg [.int .i64 sk, .string sn, .int .i64 sp].toArray) rfl (by kernel_rfl) (by kernel_rfl) (by kernel_rfl) (fun _ _ _ h => h) (yieldsIf_load_mid (by rfl) 53 _ rfl (g2) (o2 + j * 3) rfl [.int .i64 sk, .string sn, .int .i64 sp] _ (fun wq hq => hq.1.2.1) Tryd.underlying53 rfl sizeStp) (by assumption) ?_; simp only [Act.put, List.getElem_toArray, List.getElem_cons_zero, List.getElem_cons_succ, List.setIfInBounds_toArray, List.set_cons_zero, List.set_cons_succ])
           (refine' wpAnyH_take (i := 7) rfl (by kernel_rfl) (by kernel_rfl) (by kernel_rfl) (fun _ _ _ h => h) (Or.inl ⟨by rfl, ?_⟩) (by assumption) ?_; rotate_left; (· (intro wq hq; (try dsimp only at hq); go_simp; first | done | with_reducible rfl)); simp only [Act.put, List.getElem_toArray, List.getElem_cons_zero, List.getElem_cons_succ, List.setIfInBounds_toArray, List.set_cons_zero, List.set_cons_succ])
           (refine' wpAnyH_take (i := 8) rfl (by kernel_rfl) (by kernel_rfl) (by kernel_rfl) (fun _ _ _ h => h) (Or.inl ⟨by rfl, ?_⟩) (by assumption) ?_; rotate_left; (· (intro wq hq; (try dsimp only at hq); go_simp; first | done | with_reducible rfl)); simp only [Act.put, List.getElem_toArray, List.getElem_cons_zero, List.getElem_cons_succ, List.setIfInBounds_toArray, List.set_cons_zero, List.set_cons_succ])
           (refine' wpAnyH_take (i := 9) rfl (by kernel_rfl) (by kernel_rfl) (by kernel_rfl) (fun _ _ _ h => h) (Or.inl ⟨by rfl, ?_⟩) (by assumption) ?_; rotate_left; (· (intro wq hq; (try dsimp only at hq); go_simp; first | done | with_reducible rfl)); simp only [Act.put, List.getElem_toArray, List.getElem_cons_zero, List.getElem_cons_succ, List.setIfInBounds_toArray, List.set_cons_zero, List.set_cons_succ])
           (refine' wpAnyH_take (i := 10) rfl (by kernel_rfl) (by kernel_rfl) (by kernel_rfl) (fun _ _ _ h => h) (Or.inl ⟨by rfl, ?_⟩) (by assumption) ?_; rotate_left; (· (intro wq hq; (try dsimp only at hq); go_simp; first | done | with_reducible rfl)); simp only [Act.put, List.getElem_toArray, List.getElem_cons_zero, List.getElem_cons_succ, List.setIfInBounds_toArray, List.set_cons_zero, List.set_cons_succ])
           (refine' wpAnyH_take (i := 11) rfl (by kernel_rfl) (by kernel_rfl) (by kernel_rfl) (fun _ _ _ h => h) (Or.inl ⟨by rfl, ?_⟩) (by assumption) ?_; rotate_left; (· (intro wq hq; (try dsimp only at hq); go_simp; first | done | with_reducible rfl)); simp only [Act.put, List.getElem_toArray, List.getElem_cons_zero, List.getElem_cons_succ, List.setIfInBounds_toArray, List.set_cons_zero, List.set_cons_succ])
           (refine' wpAnyH_take (i := 12) rfl (by kernel_rfl) (by kernel_rfl) (by kernel_rfl) (fun _ _ _ h => h) (Or.inl ⟨by rfl, ?_⟩) (by assumption) ?_; rotate_left; (· (intro wq hq; (try dsimp only at hq); go_simp; first | done | with_reducible rfl)); simp only [Act.put, List.getElem_toArray, List.getElem_cons_zero, List.getElem_cons_succ, List.setIfInBounds_toArray, List.set_cons_zero, List.set_cons_succ])
           (refine' wpAnyH_take (i := 13) rfl (by kernel_rfl) (by kernel_rfl) (by kernel_rfl) (fun _ _ _ h => h) (Or.inl ⟨by rfl, ?_⟩) (by assumption) ?_; rotate_left; (· (intro wq hq; (try dsimp only at hq); go_simp; first | done | with_reducible rfl)); simp only [Act.put, List.getElem_toArray, List.getElem_cons_zero, List.getElem_cons_succ, List.setIfInBounds_toArray, List.set_cons_zero, List.set_cons_succ])
           (refine' wpAnyH_take (i := 14) rfl (by kernel_rfl) (by kernel_rfl) (by kernel_rfl) (fun _ _ _ h => h) (Or.inl ⟨by rfl, ?_⟩) (by assumption) ?_; rotate_left; (· (intro wq hq; (try dsimp only at hq); go_simp; first | done | with_reducible rfl)); simp only [Act.put, List.getElem_toArray, List.getElem_cons_zero, List.getElem_cons_succ, List.setIfInBounds_toArray, List.set_cons_zero, List.set_cons_succ])
           (refine' wpAnyH_take (i := 15) rfl (by kernel_rfl) (by kernel_rfl) (by kernel_rfl) (fun _ _ _ h => h) (Or.inl ⟨by rfl, ?_⟩) (by assumption) ?_; rotate_left; (· (intro wq hq; (try dsimp only at hq); go_simp; first | done | with_reducible rfl)); simp only [Act.put, List.getElem_toArray, List.getElem_cons_zero, List.getElem_cons_succ, List.setIfInBounds_toArray, List.set_cons_zero, List.set_cons_succ])
           (refine' wpAnyH_take (i := 16) rfl (by kernel_rfl) (by kernel_rfl) (by kernel_rfl) (fun _ _ _ h => h) (Or.inl ⟨by rfl, ?_⟩) (by assumption) ?_; rotate_left; (· (intro wq hq; (try dsimp only at hq); go_simp; first | done | with_reducible rfl)); simp only [Act.put, List.getElem_toArray, List.getElem_cons_zero, List.getElem_cons_succ, List.setIfInBounds_toArray, List.set_cons_zero, List.set_cons_succ])
           (refine' wpAnyH_take (i := 17) rfl (by kernel_rfl) (by kernel_rfl) (by kernel_rfl) (fun _ _ _ h => h) (Or.inl ⟨by rfl, ?_⟩) (by assumption) ?_; rotate_left; (· (intro wq hq; (try dsimp only at hq); go_simp; first | done | with_reducible rfl)); simp only [Act.put, List.getElem_toArray, List.getElem_cons_zero, List.getElem_cons_succ, List.setIfInBounds_toArray, List.set_cons_zero, List.set_cons_succ])
           (refine' wpAnyH_take (i := 18) rfl (by kernel_rfl) (by kernel_rfl) (by kernel_rfl) (fun _ _ _ h => h) (Or.inl ⟨by rfl, ?_⟩) (by assumption) ?_; rotate_left; (· (intro wq hq; (try dsimp only at hq); go_simp; first | done | with_reducible rfl)); simp only [Act.put, List.getElem_toArray, List.getElem_cons_zero, List.getElem_cons_succ, List.setIfInBounds_toArray, List.set_cons_zero, List.set_cons_succ])
           (refine' wpAnyH_take (i := 19) rfl (by kernel_rfl) (by kernel_rfl) (by kernel_rfl) (fun _ _ _ h => h) (Or.inl ⟨by rfl, ?_⟩) (by assumption) ?_; rotate_left; (· (intro wq hq; (try dsimp only at hq); go_simp; first | done | with_reducible rfl)); simp only [Act.put, List.getElem_toArray, List.getElem_cons_zero, List.getElem_cons_succ, List.setIfInBounds_toArray, List.set_cons_zero, List.set_cons_succ])
           (refine' wpAnyH_take (i := 20) rfl (by kernel_rfl) (by kernel_rfl) (by kernel_rfl) (fun _ _ _ h => h) (Or.inl ⟨by rfl, ?_⟩) (by assumption) ?_; rotate_left; (· (intro wq hq; (try dsimp only at hq); go_simp; first | done | with_reducible rfl)); simp only [Act.put, List.getElem_toArray, List.getElem_cons_zero, List.getElem_cons_succ, List.setIfInBounds_toArray, List.set_cons_zero, List.set_cons_succ])
           (refine' wpAnyH_take (i := 21) rfl (by kernel_rfl) (by kernel_rfl) (by kernel_rfl) (fun _ _ _ h => h) (Or.inl ⟨by rfl, ?_⟩) (by assumption) ?_; rotate_left; (· (intro wq hq; (try dsimp only at hq); go_simp; first | done | with_reducible rfl)); simp only [Act.put, List.getElem_toArray, List.getElem_cons_zero, List.getElem_cons_succ, List.setIfInBounds_toArray, List.set_cons_zero, List.set_cons_succ])
           refine wpAnyH_ready (rs := [22]) (by kernel_rfl) (by simp) ?_
           refine AllReadyH.cons rfl (fun K hK => ?_) ?_
           rotate_left
           ·exact AllReadyH.nil
           rw [if_pos (by rfl)]
           go_simp
           refine Calls.mono (htt.out _) ?_
           rintro e w8 ⟨rfl, b8⟩
           have b8' : Below wr.heap.size wr w8 := (Below.refl _ wr).drew.trans (b8.mono (Nat.le_refl _))
           have B8 := hid (hb.out.trans (b8'.mono hb.out.size))
           have B8w := hid (Bw.out.trans (b8'.mono Bw.out.size))
           refine hK.out _ _ ⟨hSu.out _ B8w.out, B8w.out⟩ (fun hH8 => ?_)
           clear hK K b8 b8' hSu htt
           (refine' wpAnyH_take (i := 23) rfl (by kernel_rfl) (by kernel_rfl) (by kernel_rfl) (fun _ _ _ h => h) (Or.inl ⟨by rfl, ?_⟩) (by assumption) ?_; rotate_left; (· (intro wq hq; (try dsimp only at hq); go_simp; first | done | with_reducible rfl)); simp only [Act.put, List.getElem_toArray, List.getElem_cons_zero, List.getElem_cons_succ, List.setIfInBounds_toArray, List.set_cons_zero, List.set_cons_succ])
           refine wpAnyH_done (by kernel_rfl) ?_ _
           refine hKr _ _ ?_
           go_wp2
           go_roundw
           case rel => exact ⟨j + 1, TB, hj'.out, by simp, rfl, ht2, hno2, B8⟩
           case measure => simp [intOf]; have := hj'.out; omega
          ·obtain rfl : M = j := by omega
           have htk : TkR p R := ⟨by rw [hMP.out, hM.out]; exact hMM.out, fun q s y h1 h2 => (ht.out rfl).2 q s y (by have := (List.getElem?_eq_some_iff.1 h2).1; rw [hM.out] at this; exact this) h1 h2⟩
           have hH := hh.out wr Bx.out
           rw [decide_eq_true (hmem.out.2 htk)] at hH
           have hH' := hid hH
           have hcs2 := hid (show cntX X (i + 1) = cntX X i + 1 by rw [hcs.out, if_pos (hmem.out.2 htk)])
           have hc3 : c + 1 ≤ 1048576 := by
            have h1 := cntX_le X (i + 1)
            have h2 := hcs2.out
            have h3 := hc.out
            omega
           have hc4 : (c : Int) + 1 ≤ 1048576 := by omega
           clear hH ht hno htk hMM
           go_wp2_with fail
           refine Calls.mono hH'.out ?_
           rintro e w8 ⟨rfl, b8⟩
           have B8 := hid (Bx.out.trans (b8.mono Bx.out.size))
           clear b8 hH'
           go_wp2
           go_roundw
           case rel => exact ⟨i + 1, c + 1, hi'.out, by simp, by simp, hc3, hid (by rw [hcs2.out, hc.out]), B8⟩
           case measure => simp [intOf]; have := hi'.out; omega
       ·obtain rfl : N = i := by omega
        obtain rfl : CX = c := by rw [hc.out, hcall.out, hCX.out]
        have f0 : ((CX : Int) == (CX : Int)) = true := by simp
        have Bf := hid (hbx.out.trans (hb.out.mono hbx.out.size))
        go_wp2
        go_ret
        exact ⟨rfl, Bf.out⟩
end Go.Proofs.YtbabdhepnjacdaaDoor
