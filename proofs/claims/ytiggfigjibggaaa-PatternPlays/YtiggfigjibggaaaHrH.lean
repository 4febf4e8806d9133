/-
  Learnt places that are lent, looked at again, written over.
-/
import Derived.Test.YtiggfigjibggaaaHrG
import Derived.Test.YtiggfigjibggaaaHqA
import Derived.Deep.DeepAppendWide
namespace Go.Proofs.Ytiggfigjibggaaa
open Go.RowKit Go.Shelf Go.Maps

/-- A mark behind a list of learnt places. -/
def mkLr (k t : Nat) : Lr := ⟨⟨#[]⟩, ⟨#[110, 111]⟩, ((markN k t : Nat) : Int), 0⟩
def mksLr (k t : Nat) : List Lr := (List.range t).map (mkLr k)
theorem mksLr_len (k t : Nat) : (mksLr k t).length = t := by simp [mksLr]
theorem mksLr_succ (k t : Nat) : mksLr k (t + 1) = mksLr k t ++ [mkLr k t] := by simp [mksLr, List.range_succ]
theorem mksLr_get {k t n : Nat} (h : t < n) : (mksLr k n)[t]? = some (mkLr k t) := by simp [mksLr, h]
theorem flat_lrK {l : List Lr} {j : Nat} {x : Lr} (h : l[j]? = some x) (k : Nat) (hk : k < 4) : (l.flatMap lrL)[j * 4 + k]? = (lrL x)[k]? := by
  induction l generalizing j with
  | nil => simp at h
  | cons y l ih =>
    rw [List.flatMap_cons]
    cases j with
    | zero =>
      simp at h
      subst h
      rw [List.getElem?_append_left (by simp [lrL]; omega)]
      simp
    | succ j =>
      rw [List.getElem?_append_right (by simp [lrL]; omega)]
      have e : (j + 1) * 4 + k - (lrL y).length = j * 4 + k := by simp [lrL]; omega
      rw [e]
      exact ih (by simpa using h)
theorem rowL_at {w : World} {B n g c : Nat} {l : List Lr} (h : w.ownsRow B 25 4 (.slice (some ⟨g, 0, none⟩) n c) n (l.flatMap lrL)) {j : Nat} {x : Lr} (hj : l[j]? = some x) : w.rangeAt g (j * 4) [.string x.r, .string x.n, .int .i64 x.p, .int .i64 x.h] := fun k y hk => by
  have hk4 : k < 4 := by
    have := (List.getElem?_eq_some_iff.1 hk).1
    simpa using this
  have h2 := h.cells (g := g) rfl (j * 4 + k) y (by rw [flat_lrK hj k hk4]; exact hk)
  rw [Addr.add_mid, Nat.zero_add] at h2
  exact h2
theorem one_moreL {w : World} {B n : Nat} {v : Value} {O : List Lr} (hv : w.ownsRow B 25 4 v n (O.flatMap lrL)) (x : Lr) (hn : n ≤ 2932031008000) (hB : B ≤ w.heap.size) :
    ∃ so' c' w', (∀ ty, (Builtin.append_ #[22, 22] ty #[v, .slice (some ⟨w.heap.size, 0, none⟩) 1 1]).run Try.prog (w.alloc (.cells #[.string x.r, .string x.n, .int .i64 x.p, .int .i64 x.h] 25)) = .ok (.slice so' (n + 1) c') w') ∧ w'.ownsRow B 25 4 (.slice so' (n + 1) c') (n + 1) ((O ++ [x]).flatMap lrL) ∧ Below B w w' := by
  obtain ⟨W1, hW1⟩ : ∃ W, w.alloc (.cells #[.string x.r, .string x.n, .int .i64 x.p, .int .i64 x.h] 25) = W := ⟨_, rfl⟩
  have A1 : At W1 w.heap.size #[.string x.r, .string x.n, .int .i64 x.p, .int .i64 x.h] 25 := by rw [← hW1]; exact at_newP rfl
  have B1 : Below w.heap.size w W1 := by rw [← hW1]; exact (Below.refl _ w).alloc (Nat.le_refl _) _
  have hv1 := own_onP (W' := W1) hv (fun g _ _ hl => B1.block g hl)
  obtain ⟨i0, hi, hz0, hz1, hz2⟩ := info_partsP infoLrR
  obtain ⟨v', W2, hr, hown, hgr, -⟩ := run_append_own_wide (P := Try.prog) W1 B 22 0 25 i0 _ 4 48 Try.underlying22 hi hz0 hz1 hz2 rfl (by decide) v n _ hv1 ⟨w.heap.size, 0, none⟩ 1 1 [.string x.r, .string x.n, .int .i64 x.p, .int .i64 x.h] rfl (fun j u hj => by
    rw [Addr.add_mid, Nat.zero_add, A1.cell j, List.getElem?_toArray]
    exact hj) (fun u hu => by simp at hu; rcases hu with rfl | rfl | rfl | rfl <;> rfl) (by unfold maxLen; omega) (by omega) (Nat.le_trans hB B1.size)
  obtain ⟨so', c', rfl⟩ := own_shapeP hown
  have e : (O ++ [x]).flatMap lrL = O.flatMap lrL ++ [.string x.r, .string x.n, .int .i64 x.p, .int .i64 x.h] := by rw [List.flatMap_append]; rfl
  refine ⟨so', c', W2, by rw [hW1]; exact fun ty => by rw [append_tyP _ ty 0]; exact hr, by rw [e]; exact hown, (B1.mono hB).grown hgr (Nat.le_trans hB B1.size) (fun b e => (hv1.lt b e).1)⟩
set_option maxRecDepth 10000 in
set_option maxHeartbeats 8000000 in
theorem lentL_calls (l : List Lr) (ao : Option Addr) (N cap : Nat) (hN : Hid (l.length = N)) (hNi : N ≤ 2932031007400) (w : World) (hk : Hid (LnsAt w ao l)) :
    Calls Try.prog 33 #[.slice ao N cap] w fun e w' => ∃ g c, e = .returned (.slice (some ⟨g, 0, none⟩) N c) ∧ (N + 24 ≤ c ∧ (c : Int) ≤ 9223372036854775807) ∧ Hid (w'.ownsRow w.heap.size 25 4 (.slice (some ⟨g, 0, none⟩) (N + 24) c) (N + 24) ((l ++ mksLr 1 24).flatMap lrL)) ∧ Hid (Below w.heap.size w w') := by
  have hNi' : (N : Int) ≤ 2932031007400 := by omega
  go_enter Try.func33, Try.ntmps33
  go_wp2
  go_loopw [3, 4] (fun vv ii wr => ∃ i : Nat, i ≤ N ∧ ii = .int .i64 (i : Int) ∧ Hid (wr.ownsRow w.heap.size 25 4 vv i ((l.take i).flatMap lrL)) ∧ Hid (Below w.heap.size w wr)) (fun _ ii _ => N - (intOf ii).toNat)
  case atStart => exact ⟨0, Nat.zero_le _, rfl, hid (by simpa using World.ownsRow_nil w w.heap.size 25 4), hid (Below.refl _ _)⟩
  case round =>
    obtain ⟨i, hi, rfl, hv, hB⟩ := hrel
    obtain ⟨so, cp, rfl⟩ := own_shapeP hv.out
    by_cases hlt : i < N
    · have hlti : (i : Int) < (N : Int) := by omega
      have hi' := hid (show i + 1 ≤ N by omega)
      obtain ⟨x, hx⟩ : ∃ x, Hid (l[i]? = some x) := ⟨l[i]'(by rw [hN.out]; exact hlt), List.getElem?_eq_getElem _⟩
      obtain ⟨-, g, o, rfl, hg, hrg⟩ := (hk.out.kept hB.out) i x hx.out
      have hrg := hid (range_lr hrg)
      have htk : Hid (l.take (i + 1) = l.take i ++ [x]) := by show _ = _; rw [List.take_add_one, hx.out]; rfl
      have ad : (⟨g, o, none⟩ : Addr).add (i * 4) = ⟨g, o + i * 4, none⟩ := by by_cases h : i * 4 = 0 <;> simp [Addr.add, h]
      obtain ⟨X, hX⟩ : ∃ X, wr.heap.size = X := ⟨_, rfl⟩
      obtain ⟨W1, hW1⟩ : ∃ W, wr.alloc (.cells #[.string x.r, .string x.n, .int .i64 x.p, .int .i64 x.h] 25) = W := ⟨_, rfl⟩
      obtain ⟨so', c', W2, hrun, own2, b2⟩ := one_moreL hv.out x (by omega) hB.out.size
      rw [hX, hW1] at hrun
      rw [← htk.out] at own2
      have hrun := hid hrun
      have own2 := hid own2
      have B2 := hid (hB.out.trans b2)
      obtain ⟨xr, xn, xp, xh⟩ := x
      clear hv hB b2 hg
      go_wp2_with (first
        | refine wpList_load_want 25 _ g (o + i * 4) [.string xr, .string xn, .int .i64 xp, .int .i64 xh] _ hrg.out Try.underlying25 (by kernel_rfl) rfl rfl rfl (by rfl) ?_
        | (at_builtin; refine wpList_append_runP rfl _ _ 22 rfl (.slice so i cp) (.slice (some ⟨X, 0, none⟩) 1 1) (.slice so' (i + 1) c') W2 rfl rfl hrun.out ?_)
        | fail)
      go_roundw
      case rel => exact ⟨i + 1, hi'.out, by simp, own2, B2⟩
      case measure => simp [intOf]; have := hi'.out; omega
    · obtain rfl : i = N := by omega
      have hv := hid (show wr.ownsRow w.heap.size 25 4 (.slice so i cp) (i + 0) ((l ++ mksLr 1 0).flatMap lrL) by
        have h := hv.out
        rw [List.take_of_length_le (by rw [hN.out]; exact Nat.le_refl _)] at h
        simpa [mksLr] using h)
      go_wp2
      go_loopw [3, 5] (fun vv ii wr => ∃ t : Nat, t ≤ 24 ∧ ii = .int .i64 (t : Int) ∧ Hid (wr.ownsRow w.heap.size 25 4 vv (i + t) ((l ++ mksLr 1 t).flatMap lrL)) ∧ Hid (Below w.heap.size w wr)) (fun _ ii _ => 24 - (intOf ii).toNat)
      case atStart => exact ⟨0, by decide, rfl, hv, hB⟩
      case round =>
        clear hv hB
        obtain ⟨t, ht, rfl, hv, hB⟩ := hrel
        obtain ⟨so, cp, rfl⟩ := own_shapeP hv.out
        by_cases hlt2 : t < 24
        · have hlti2 : (t : Int) < 24 := by omega
          have ht' := hid (show t + 1 ≤ 24 by omega)
          have hmk := hid (fun u => mark_calls 1 t (by decide) (by omega) u)
          obtain ⟨m, hm⟩ : ∃ m, markN 1 t = m := ⟨_, rfl⟩
          have hnx := hid (show l ++ mksLr 1 (t + 1) = (l ++ mksLr 1 t) ++ [⟨⟨#[]⟩, ⟨#[110, 111]⟩, (m : Int), 0⟩] by rw [mksLr_succ, List.append_assoc, ← hm]; rfl)
          obtain ⟨X, hX⟩ : ∃ X, wr.heap.size = X := ⟨_, rfl⟩
          obtain ⟨W1, hW1⟩ : ∃ W, wr.alloc (.cells #[.string ⟨#[]⟩, .string ⟨#[110, 111]⟩, .int .i64 (m : Int), .int .i64 0] 25) = W := ⟨_, rfl⟩
          obtain ⟨so', c', W2, hrun, own2, b2⟩ := one_moreL hv.out ⟨⟨#[]⟩, ⟨#[110, 111]⟩, (m : Int), 0⟩ (by omega) hB.out.size
          rw [hX, hW1] at hrun
          rw [← hnx.out] at own2
          rw [hm] at hmk
          have hrun := hid hrun
          have own2 := hid (show W2.ownsRow w.heap.size 25 4 (.slice so' (i + t + 1) c') (i + (t + 1)) ((l ++ mksLr 1 (t + 1)).flatMap lrL) from own2)
          have B2 := hid (hB.out.trans b2)
          clear hv hB b2 hm
          go_wp2_with fail
          refine Calls.mono (hmk.out _) ?_
          rintro e w2 ⟨rfl, rfl⟩
          clear hmk
          go_wp2_with (first
            | (at_builtin; refine wpList_append_runP rfl _ _ 22 rfl (.slice so (i + t) cp) (.slice (some ⟨X, 0, none⟩) 1 1) (.slice so' (i + t + 1) c') W2 rfl rfl hrun.out ?_)
            | fail)
          go_roundw
          case rel => exact ⟨t + 1, ht'.out, by simp, own2, B2⟩
          case measure => simp [intOf]; have := ht'.out; omega
        · obtain rfl : t = 24 := by omega
          obtain ⟨g, c, e⟩ := own_someP hv.out (by omega)
          cases e
          have hcc : i + 24 ≤ cp ∧ (cp : Int) ≤ 9223372036854775807 := by
            rcases hv.out.2 with ⟨h1, -⟩ | ⟨g', cap', cur, h1, -, -, h2, h3, -⟩
            · cases h1
            · cases h1
              unfold maxLen at h3
              omega
          have hic : (i : Int) ≤ (cp : Int) := by omega
          go_wp2
          go_ret
          exact ⟨g, cp, rfl, hcc, hv, hB⟩
set_option maxRecDepth 10000 in
set_option maxHeartbeats 8000000 in
theorem keptL_calls (l : List Lr) (ao : Option Addr) (N cap g c B : Nat) (hN : Hid (l.length = N)) (hNi : N ≤ 2932031007400) (hc : N + 24 ≤ c ∧ (c : Int) ≤ 9223372036854775807) (w : World) (hL : Hid (w.ownsRow B 25 4 (.slice (some ⟨g, 0, none⟩) (N + 24) c) (N + 24) ((l ++ mksLr 1 24).flatMap lrL))) (hk : Hid (LnsAt w ao l)) :
    Calls Try.prog 35 #[.slice (some ⟨g, 0, none⟩) N c, .slice ao N cap] w fun e w' => e = .returned (.bool true) ∧ Below w.heap.size w w' := by
  have hNi' : (N : Int) ≤ 2932031007400 := by omega
  obtain ⟨hc1, hc2⟩ := hc
  have hc1' : (N : Int) + 24 ≤ (c : Int) := by omega
  go_enter Try.func35, Try.ntmps35
  go_wp2
  go_loopw [6] (fun ii wr => ∃ i : Nat, i ≤ N + 24 ∧ ii = .int .i64 (i : Int) ∧ Hid (Below w.heap.size w wr)) (fun ii _ => N + 24 - (intOf ii).toNat)
  case atStart => exact ⟨0, Nat.zero_le _, rfl, hid (Below.refl _ _)⟩
  case round =>
    obtain ⟨i, hi, rfl, hb⟩ := hrel
    have hLr := hid (own_onP (W' := wr) hL.out (fun q _ _ hl => hb.out.block q hl))
    have adg : (⟨g, 0, none⟩ : Addr).add (i * 4) = ⟨g, i * 4, none⟩ := by by_cases h : i * 4 = 0 <;> simp [Addr.add, h]
    by_cases hlt : i < N + 24
    · have hlt' := hid (show i + 1 ≤ N + 24 by omega)
      have hli : (i : Int) < (N : Int) + 24 := by omega
      by_cases hik : i < N
      · obtain ⟨s, hs⟩ : ∃ s, Hid (l[i]? = some s) := ⟨_, List.getElem?_eq_getElem (by rw [hN.out]; exact hik)⟩
        have hr1 := rowL_at hLr.out (show (l ++ mksLr 1 24)[i]? = some s by rw [List.getElem?_append_left (by rw [hN.out]; exact hik)]; exact hs.out)
        obtain ⟨g2, o2, rfl, -, hr2⟩ := lns_at (hk.out.kept hb.out) hs.out
        obtain ⟨sr, sn, sp, sh⟩ := s
        have R1 := hid hr1
        have R2 := hid hr2
        have ad2 : (⟨g2, o2, none⟩ : Addr).add (i * 4) = ⟨g2, o2 + i * 4, none⟩ := by by_cases h : i * 4 = 0 <;> simp [Addr.add, h]
        have eqs := eqLr sr sn sp sh
        have e1 : decide ((i : Int) < (N : Int)) = true := by simp; omega
        have e3 : decide ((N : Int) ≤ (i : Int)) = false := by simp; omega
        have e5 : decide (N ≤ i) = false := by simp; omega
        clear hs hr1 hr2 hL hk hN hLr
        go_wp2
        refine wp_region_quiet (C := (fun w' => Below wr.heap.size wr w')) (by kernel_rfl) (by kernel_rfl) ((Below.refl _ _).drew) ?_
        dsimp only
        repeat (first
          | go_big_quiet_skip
          | (refine' wpQuiet_take (by rfl) ?_ ?_
             rotate_left
             · (intro wq hq; (try dsimp only at hq); go_simp
                first
                  | done
                  | with_reducible rfl
               )
             simp only [Act.put, List.setIfInBounds_toArray, List.set_cons_zero, List.set_cons_succ])
          | (refine wpQuiet_load 25 _ (g) (i * 4) [.string sr, .string sn, .int .i64 sp, .int .i64 sh] _ (fun wq hq => range_kept R1.out hq) Try.underlying25 sizeLr rfl rfl rfl (by rfl) ?_; simp only [Act.put, List.setIfInBounds_toArray, List.set_cons_zero, List.set_cons_succ])
          | (refine wpQuiet_load 25 _ (g2) (o2 + i * 4) [.string sr, .string sn, .int .i64 sp, .int .i64 sh] _ (fun wq hq => range_kept R2.out hq) Try.underlying25 sizeLr rfl rfl rfl (by rfl) ?_; simp only [Act.put, List.setIfInBounds_toArray, List.set_cons_zero, List.set_cons_succ]))
        refine wpQuiet_nil ?_
        intro wz hwz
        have hfin := hid (hb.out.trans (Below.mono hwz hb.out.size))
        clear hwz
        go_wp2
        go_roundw
        case rel => exact ⟨i + 1, hlt'.out, by simp, hfin⟩
        case measure => simp [intOf]; have := hlt'.out; omega
      · obtain ⟨t, ht⟩ : ∃ t, Hid (i - N = t) := ⟨_, rfl⟩
        have ht24 : t < 24 := by have := ht.out; omega
        obtain ⟨m, hm⟩ : ∃ m, markN 1 t = m := ⟨_, rfl⟩
        have hmk := hid (show ∀ u, Calls Try.prog 40 #[.int .i64 1, .int .i64 (t : Int)] u (fun e w' => e = .returned (.int .i64 (m : Int)) ∧ w' = u) from fun u => by rw [← hm]; exact mark_calls 1 t (by decide) (by omega) u)
        have hr1 := rowL_at hLr.out (show (l ++ mksLr 1 24)[i]? = some (mkLr 1 t) by rw [List.getElem?_append_right (by rw [hN.out]; omega), hN.out, ht.out]; exact mksLr_get ht24)
        have R1 := hid (show wr.rangeAt g (i * 4) [.string ⟨#[]⟩, .string ⟨#[110, 111]⟩, .int .i64 (m : Int), .int .i64 0] by rw [← hm]; exact hr1)
        have eqs := eqLr ⟨#[]⟩ ⟨#[110, 111]⟩ (m : Int) 0
        have e1 : decide ((i : Int) < (N : Int)) = false := by simp; omega
        have e5 : decide (i < N) = false := by simp; omega
        have e3 : decide ((N : Int) ≤ (i : Int)) = true := by simp; omega
        have e6 : decide (N ≤ i) = true := by simp; omega
        have e4 : (i : Int) - (N : Int) = (t : Int) := by have := ht.out; omega
        have ew : IntKind.i64.wrap (t : Int) = (t : Int) := by rw [IntKind.wrap_i64]; omega
        clear hik hr1 hL hk hN hLr hm
        go_wp2
        refine wp_region_quiet (C := (fun w' => Below wr.heap.size wr w')) (by kernel_rfl) (by kernel_rfl) ((Below.refl _ _).drew) ?_
        dsimp only
        repeat (first
          | go_big_quiet_skip
          | (refine' wpQuiet_take (by rfl) ?_ ?_
             rotate_left
             · (intro wq hq; (try dsimp only at hq); go_simp
                first
                  | done
                  | with_reducible rfl
                  | (go_at_call 40; with_reducible refine (hmk.out _).mono ?_; rintro e wz ⟨rfl, hb⟩; subst hb; exact ⟨rfl, hq⟩)
               )
             simp only [Act.put, List.setIfInBounds_toArray, List.set_cons_zero, List.set_cons_succ])
          | (refine wpQuiet_load 25 _ (g) (i * 4) [.string ⟨#[]⟩, .string ⟨#[110, 111]⟩, .int .i64 (m : Int), .int .i64 0] _ (fun wq hq => range_kept R1.out hq) Try.underlying25 sizeLr rfl rfl rfl (by rfl) ?_; simp only [Act.put, List.setIfInBounds_toArray, List.set_cons_zero, List.set_cons_succ]))
        refine wpQuiet_nil ?_
        intro wz hwz
        have hfin := hid (hb.out.trans (Below.mono hwz hb.out.size))
        clear hwz
        go_wp2
        go_roundw
        case rel => exact ⟨i + 1, hlt'.out, by simp, hfin⟩
        case measure => simp [intOf]; have := hlt'.out; omega
    · obtain rfl : i = N + 24 := by omega
      clear hL hk hN hLr
      go_wp2
      go_ret
      exact ⟨rfl, hb.out⟩
set_option maxRecDepth 10000 in
set_option maxHeartbeats 8000000 in
theorem overL_calls (N g c : Nat) (hNi : N ≤ 2932031007400) (hc : N + 24 ≤ c ∧ (c : Int) ≤ 9223372036854775807) (w : World) (hA : Hid (∃ cs : Array Value, At w g cs 25 ∧ cs.size = c * 4)) :
    Calls Try.prog 36 #[.slice (some ⟨g, 0, none⟩) N c] w fun e w' => e = .returned (.tuple #[]) ∧ Hid (Lap (fun q => q = g) w w') := by
  have hNi' : (N : Int) ≤ 2932031007400 := by omega
  obtain ⟨hc1, hc2⟩ := hc
  have hc1' : (N : Int) + 24 ≤ (c : Int) := by omega
  go_enter Try.func36, Try.ntmps36
  go_wp2
  go_loopw [3] (fun ii wr => ∃ i : Nat, i ≤ N + 24 ∧ ii = .int .i64 (i : Int) ∧ Hid (∃ cs : Array Value, At wr g cs 25 ∧ cs.size = c * 4) ∧ Hid (Lap (fun q => q = g) w wr)) (fun ii _ => N + 24 - (intOf ii).toNat)
  case atStart => exact ⟨0, Nat.zero_le _, rfl, hA, hid (Lap.refl _ _)⟩
  case round =>
    clear hA
    obtain ⟨i, hi, rfl, hA, hL⟩ := hrel
    have adg : (⟨g, 0, none⟩ : Addr).add (i * 4) = ⟨g, i * 4, none⟩ := by by_cases h : i * 4 = 0 <;> simp [Addr.add, h]
    by_cases hlt : i < N + 24
    · have hi' := hid (show i + 1 ≤ N + 24 by omega)
      have hli : (i : Int) < (N : Int) + 24 := by omega
      obtain ⟨m, hm⟩ : ∃ m, markN 2 i = m := ⟨_, rfl⟩
      have hmk := hid (fun u => mark_calls 2 i (by decide) (by omega) u)
      rw [hm] at hmk
      obtain ⟨cs, h1, h2⟩ := hA.out
      have th : ∀ j, j < 4 → (∃ u, wr.cell? ⟨g, i * 4 + j, none⟩ = some u) ∧ wr.frozen? ⟨g, i * 4 + j, none⟩ = false := fun j hj => ⟨⟨cs[i * 4 + j]'(by omega), by rw [h1.cell (i * 4 + j)]; exact Array.getElem?_eq_getElem _⟩, h1.frozen _⟩
      obtain ⟨⟨y0, k0⟩, f0⟩ := th 0 (by omega)
      obtain ⟨⟨y1, k1⟩, f1⟩ := th 1 (by omega)
      obtain ⟨⟨y2, k2⟩, f2⟩ := th 2 (by omega)
      obtain ⟨⟨y3, k3⟩, f3⟩ := th 3 (by omega)
      rw [Nat.add_zero] at k0 f0
      obtain ⟨ds, a1, a2, -⟩ := At.setCells_at [.string ⟨#[]⟩, .string ⟨#[110, 111]⟩, .int .i64 (m : Int), .int .i64 0] (i * 4) h1 (by simp; omega)
      have hA2 := hid (show ∃ cs : Array Value, At (wr.setCells g (i * 4) [.string ⟨#[]⟩, .string ⟨#[110, 111]⟩, .int .i64 (m : Int), .int .i64 0]) g cs 25 ∧ cs.size = c * 4 from ⟨ds, a1, by rw [a2, h2]⟩)
      have hL2 := hid (lap_setCells hL.out rfl [.string ⟨#[]⟩, .string ⟨#[110, 111]⟩, .int .i64 (m : Int), .int .i64 0] (i * 4))
      clear hA hL th h1 a1 hm
      go_wp2_with fail
      refine Calls.mono (hmk.out _) ?_
      rintro e w2 ⟨rfl, rfl⟩
      clear hmk
      go_wp2
      go_roundw
      case rel => exact ⟨i + 1, hi'.out, by simp, hA2, hL2⟩
      case measure => simp [intOf]; have := hi'.out; omega
    · obtain rfl : i = N + 24 := by omega
      go_wp2
      go_end0
      exact ⟨rfl, hL⟩
end Go.Proofs.Ytiggfigjibggaaa
