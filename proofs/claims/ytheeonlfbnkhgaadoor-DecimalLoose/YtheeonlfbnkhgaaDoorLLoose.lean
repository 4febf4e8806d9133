/-
  The law DecimalLoose, walked.
-/
import Derived.Test.YtheeonlfbnkhgaaDoorLooseB
import Derived.Test.YtheeonlfbnkhgaaDoorDecAwake
import Derived.Test.YtheeonlfbnkhgaaDoorDecForm
namespace Go.Proofs.YtheeonlfbnkhgaaDoor
open Go.RowKit Go.Shelf

set_option maxRecDepth 10000 in
theorem pick11_calls (i : Int) (M : Nat) (hM : 0 < M) (hM2 : M ≤ 4611686018427387904) (w : World) :
    Calls Tryd.prog 8 #[.int .i64 i, .int .i64 (M : Int)] w fun e w' => (∃ I : Nat, I < M ∧ e = .returned (.int .i64 (I : Int))) ∧ w' = w := by
  obtain ⟨r, hr⟩ : ∃ r, Hid (i.tmod (M : Int) = r) := ⟨_, rfl⟩
  have hne : ((M : Int) == 0) = false := by simp; omega
  have hr2 : -(M : Int) < r ∧ r < (M : Int) := by
    rw [← hr.out]
    refine ⟨?_, Int.tmod_lt_of_pos i (by omega)⟩
    have h1 := Int.tmod_lt_of_pos (-i) (show (0 : Int) < (M : Int) by omega)
    rw [Int.neg_tmod] at h1
    omega
  have hrm : i.tmod (M : Int) = r := hr.out
  go_enter Tryd.func8, Tryd.ntmps8
  by_cases h0 : r < 0
  · go_wp2
    go_ret
    exact ⟨⟨(r + M).toNat, by omega, by rw [show (((r + M).toNat : Nat) : Int) = r + M by omega]; rfl⟩, rfl⟩
  · go_wp2
    go_ret
    exact ⟨⟨r.toNat, by omega, by rw [show ((r.toNat : Nat) : Int) = r by omega]; rfl⟩, rfl⟩
theorem w48 {r : Nat} (h : r < 10) : wrap64 (48 + (r : Int)) % 256 = ((48 + r : Nat) : Int) := by
  have e : wrap64 (48 + (r : Int)) = 48 + (r : Int) := by rw [wrap64]; omega
  rw [e]
  omega
theorem tmod_nat (e : Nat) : (e : Int).tmod 10 = ((e % 10 : Nat) : Int) := by rw [Int.tmod_eq_emod_of_nonneg (by omega)]; omega
theorem tdiv_nat (e : Nat) : (e : Int).tdiv 10 = ((e / 10 : Nat) : Int) := by rw [Int.tdiv_eq_ediv_of_nonneg (by omega)]; omega
theorem OwnD.cell1 {w0 : World} {b : Nat} {n : Bool} {t : ByteArray} {x : Int} {w : World} (h : OwnD w0 b n t x w) : w.cell? ⟨b, 1, none⟩ = some (.string t) := h.facts.1.2.1
set_option maxRecDepth 10000 in
set_option maxHeartbeats 8000000 in
theorem decimalLoose_walk (n : Bool) (t : ByteArray) (x : Int) (_ : (Lit.int .i64 x).wf = true) (hs : t.size ≤ reachBytes) (i : Int) (_ : (Lit.int .i64 i).wf = true) (p : Int) (_ : (Lit.int .i64 p).wf = true) (w : World) :
    Calls Tryd.prog 3 #[.agg #[.bool n, .string t, .int .i64 x], .int .i64 i, .int .i64 p] w fun e w' => e = .returned (.bool true) ∧ Below w.heap.size w w' := by
  have hr := reachBytes_lt
  have hs4 : t.size ≤ 4611686018427387904 := by omega
  obtain ⟨F, hF⟩ : ∃ F, Hid (frmS t x = F) := ⟨_, rfl⟩
  have cF := hid (fun w1 => formed_calls n t x hs4 F hF w1)
  have ca := hid awake_calls
  have A0 := hid (show OwnD w w.heap.size n t x (w.alloc (.cells #[.bool n, .string t, .int .i64 x] 23)) from ⟨Nat.le_refl _, At.new w _ _, by repeat (first | with_reducible exact Below.refl _ _ | with_reducible refine Below.setCell ?_ (by first | (simp; done) | (simp; omega)) _ | with_reducible refine below_drewN ?_ _ | with_reducible refine Below.alloc ?_ (by first | (simp; done) | (simp; omega)) _ | with_reducible refine Below.drew ?_)⟩)
  clear hs hr hs4
  go_enter Tryd.func3, Tryd.ntmps3
  go_wp2_with fail
  refine Calls.mono (ca.out _) ?_
  rintro e w1 ⟨rfl, hb⟩
  have A1 := hid (A0.out.kept hb)
  clear A0 ca hb
  obtain ⟨⟨c0, c1, c2⟩, -, -, -⟩ := A1.out.facts
  go_wp2_with fail
  refine Calls.mono (cF.out _) ?_
  rintro e w2 ⟨rfl, hb⟩
  have A2 := hid (A1.out.kept hb)
  clear A1 cF hb c0 c1 c2
  obtain ⟨⟨c0, c1, c2⟩, -, -, -⟩ := A2.out.facts
  have hend : ∀ {W : World}, OwnD w w.heap.size n t x W → Below w.heap.size w W := fun h => h.2.2
  cases F with
  | false =>
    go_wp2
    go_ret
    exact ⟨by first | rfl | simp, A2.out.2.2⟩
  | true =>
    by_cases g1 : 1073741000 < x
    · go_wp2
      go_ret
      exact ⟨by first | rfl | simp, A2.out.2.2⟩
    · by_cases g2 : x < -1073741000
      · go_wp2
        go_ret
        exact ⟨by first | rfl | simp, A2.out.2.2⟩
      · by_cases g3 : 300 < t.size
        · go_wp2
          go_ret
          exact ⟨by first | rfl | simp, A2.out.2.2⟩
        · have cP := hid (fun w1 => pick11_calls i 9 (by decide) (by decide) w1)
          go_wp2_with fail
          refine Calls.mono (cP.out _) ?_
          rintro e w3 ⟨⟨N, hN, rfl⟩, hw⟩
          rw [hw]
          clear hw w3 cP
          obtain ⟨Z, hZ⟩ : ∃ Z, Hid ((⟨(List.replicate N (48 : UInt8)).toArray⟩ : ByteArray) = Z) := ⟨_, rfl⟩
          have hZs : Z.size = N := by rw [← hZ.out, Lib.size_mk, List.length_replicate]
          have cZ := hid (show ∀ w1, Calls Tryd.prog 9 #[.int .i64 (N : Int)] w1 fun e w' => e = .returned (.string Z) ∧ Below w1.heap.size w1 w' from fun w1 => (zeros_calls N (by omega) Z hZ w1).mono fun e w' ⟨h1, h2⟩ => ⟨h1, by rw [h2]; exact Below.refl _ _⟩)
          have hadd : ∀ u : World, (Op.stringOp .add t Z).run Tryd.prog u = .ok (.string (t ++ Z)) u := fun u => run_string_add_sum u t Z (by omega)
          go_upto_region 6 with fail
          have hS : w2.drew.cell? ⟨w.heap.size, 1, none⟩ = some (.string t) ∧ OwnD w w.heap.size n t x w2.drew := ⟨c1, A2.out.1, A2.out.2.1, A2.out.2.2.drew⟩
          refine wp_region_quiet (C := (fun w' => w'.cell? ⟨w.heap.size, 1, none⟩ = some (.string t) ∧ OwnD w w.heap.size n t x w')) (by kernel_rfl) (by kernel_rfl) (hS) ?_
          dsimp only
          repeat (first
            | (refine wpQuiet_skip (by rfl) ?_; simp only [Act.put, List.setIfInBounds_toArray, List.set_cons_zero, List.set_cons_succ])
            | (refine' wpQuiet_take (by rfl) ?_ ?_
               rotate_left
               · (intro wq hq; (try dsimp only at hq); go_simp
                  first
                    | done
                    | with_reducible rfl
                    | (go_at_call 9; with_reducible refine (cZ.out _).mono ?_; rintro e wz ⟨rfl, hb⟩; exact ⟨rfl, OwnD.cell1 (OwnD.kept hq.2 hb), OwnD.kept hq.2 hb⟩)
                 )
               simp only [Act.put, List.setIfInBounds_toArray, List.set_cons_zero, List.set_cons_succ]))
          refine wpQuiet_nil ?_
          rintro w3 ⟨-, A3⟩
          have A3' := hid A3
          clear hS A3 A2 c0 c1 c2 hadd
          obtain ⟨⟨c0, c1, c2⟩, -, -, -⟩ := A3'.out.facts
          obtain ⟨TZ, hTZ⟩ : ∃ TZ, t ++ Z = TZ := ⟨_, rfl⟩
          have hTs : TZ.size = t.size + N := by rw [← hTZ, app_size, hZs]
          rw [hTZ]
          have hTZ' := hid hTZ
          clear hTZ
          go_upto_if 51 with fail
          go_cut [8, 9] from 48 to 51 (fun v8 v9 wx => ∃ (Dg : ByteArray) (X : Int), v8 = .string Dg ∧ v9 = .int .i64 X ∧ 0 < Dg.size ∧ Dg.size ≤ 308 ∧ -1073741009 ≤ X ∧ X ≤ 1073741000 ∧ Hid ((t.size = 0 ∧ Dg = ⟨#[48]⟩ ∧ X = 7) ∨ (t.size ≠ 0 ∧ Dg = TZ ∧ X = x - (N : Int))) ∧ wx = w3)
          case first => as_aux_lemma =>
            by_cases ht0 : t.size = 0
            · have e1 : ((t.size : Int) == 0) = true := by simp [ht0]
              have ht0' := hid ht0
              clear ht0
              go_wp2
              go_meet
              case rel => exact ⟨⟨#[48]⟩, 7, rfl, rfl, by decide, by decide, by decide, by decide, .inl ⟨ht0'.out, rfl, rfl⟩, rfl⟩
            · have e1 : ((t.size : Int) == 0) = false := beq_eq_false_iff_ne.2 (by omega)
              go_wp2
              go_meet
              case rel => exact ⟨TZ, x - (N : Int), rfl, rfl, by omega, by omega, by omega, by omega, .inr ⟨ht0, rfl, rfl⟩, rfl⟩
          case rest => as_aux_lemma =>
            obtain ⟨Dg, X, rfl, rfl, d1, d2, d3, d4, hD, rfl⟩ := hcut
            have cP := hid (fun w1 => pick11_calls p Dg.size d1 (by omega) w1)
            go_wp2_with fail
            refine Calls.mono (cP.out _) ?_
            rintro e w4 ⟨⟨k, hk, rfl⟩, hw⟩
            rw [hw]
            clear hw w4 cP
            go_upto_if 57 with fail
            go_cut [8, 9] from 58 to 71 (fun v8 v9 wx => ∃ (Dh : ByteArray) (Y : Int), v8 = .string Dh ∧ v9 = .int .i64 Y ∧ Dh.size ≤ 400 ∧ -4294967296 ≤ Y ∧ Y ≤ 4294967296 ∧ Hid (LsA t x Dh Y) ∧ Hid (OwnD w w.heap.size n t x wx))
            case first => as_aux_lemma =>
              by_cases hk0 : k = 0
              · have e1 : decide ((0 : Int) < (k : Int)) = false := by simp [hk0]
                have e2 : decide (0 < k) = false := by simp [hk0]
                have hk1 : ¬ 0 < k := by omega
                have hL : LsA t x Dg X := by
                  rcases hD.out with ⟨h1, rfl, rfl⟩ | ⟨h1, rfl, rfl⟩
                  · exact LsA.none hF.out h1
                  · rw [← hTZ'.out, ← hZ.out]
                    exact LsA.plain hF.out h1 (by omega) g2 g1 hN
                have hL' := hid hL
                clear hk0 hL
                go_wp2
                go_meet
                case rel => exact ⟨Dg, X, rfl, rfl, by omega, by omega, by omega, hL', A3'⟩
              · have e1 : decide ((0 : Int) < (k : Int)) = true := by simp; omega
                have e2 : decide (0 < k) = true := by simp; omega
                have hk1 : 0 < k := by omega
                obtain ⟨h1, rfl, rfl⟩ : t.size ≠ 0 ∧ Dg = TZ ∧ X = x - (N : Int) := by
                  rcases hD.out with ⟨h1, rfl, -⟩ | h
                  · have : (⟨#[48]⟩ : ByteArray).size = 1 := rfl
                    omega
                  · exact h
                obtain ⟨P1, hP1⟩ : ∃ P1, Dg.extract 0 k = P1 := ⟨_, rfl⟩
                obtain ⟨P2, hP2⟩ : ∃ P2, Dg.extract k Dg.size = P2 := ⟨_, rfl⟩
                have p1 : P1.size = k := by rw [← hP1, ByteArray.size_extract]; omega
                have p2 : P2.size = Dg.size - k := by rw [← hP2, ByteArray.size_extract]; omega
                have ha1 : ∀ u : World, (Op.stringOp .add P1 ⟨#[46]⟩).run Tryd.prog u = .ok (.string (P1 ++ ⟨#[46]⟩)) u := fun u => run_string_add_sum u P1 ⟨#[46]⟩ (by show P1.size + 1 ≤ _; omega)
                have ha2 : ∀ u : World, (Op.stringOp .add (P1 ++ ⟨#[46]⟩) P2).run Tryd.prog u = .ok (.string (P1 ++ ⟨#[46]⟩ ++ P2)) u := fun u => run_string_add_sum u (P1 ++ ⟨#[46]⟩) P2 (by rw [app_size]; show P1.size + 1 + P2.size ≤ _; omega)
                have hL := hid (LsA.cut hF.out h1 (by omega) g2 g1 hN k (by omega) (by omega))
                rw [hZ.out, hTZ'.out, hP1, hP2] at hL
                have hY : x - (N : Int) + ((t.size + N : Nat) : Int) - (k : Int) = x - (N : Int) + (Dg.size : Int) - (k : Int) := by omega
                rw [hY] at hL
                have hk2 : k ≤ Dg.size := by omega
                have hRs := hid (show (P1 ++ ⟨#[46]⟩ ++ P2).size ≤ 400 by rw [app_size, app_size]; show P1.size + 1 + P2.size ≤ 400; omega)
                have A5 := hid (show OwnD w w.heap.size n t x wc.drew from ⟨A3'.out.1, A3'.out.2.1, A3'.out.2.2.drew⟩)
                clear hk0 hD hY hTs hZs
                go_upto_region 13 with fail
                go_region
                go_wp2
                go_meet
                case rel => exact ⟨_, _, rfl, rfl, hRs.out, by omega, by omega, hL, A5⟩
            case rest => as_aux_lemma =>
              obtain ⟨Dh, Y, rfl, rfl, y1, y2, y3, hL, A5⟩ := hcut
              obtain ⟨⟨c0, c1, c2⟩, -, -, -⟩ := A5.out.facts
              clear hD hk d1 d2 d3 d4 A3' hTs hTZ' g1 g2 g3
              go_upto_if 74 with fail
              go_cut [11] from 75 to 76 (fun v11 wx => ∃ (S : ByteArray), v11 = .string S ∧ Hid (txN n ++ Dh = S) ∧ S.size ≤ 402 ∧ wx = wc)
              case first => as_aux_lemma =>
                cases n
                · go_wp2
                  go_meet
                  case rel => exact ⟨Dh, rfl, nil_app Dh, by omega, rfl⟩
                · have hm1 : (⟨#[45]⟩ : ByteArray).size = 1 := rfl
                  have ha : ∀ u : World, (Op.stringOp .add ⟨#[45]⟩ Dh).run Tryd.prog u = .ok (.string (⟨#[45]⟩ ++ Dh)) u := fun u => run_string_add_sum u ⟨#[45]⟩ Dh (by omega)
                  clear hm1
                  go_wp2
                  go_meet
                  case rel => exact ⟨(⟨#[45]⟩ : ByteArray) ++ Dh, rfl, hid (show txN true ++ Dh = (⟨#[45]⟩ : ByteArray) ++ Dh from rfl), by rw [app_size]; show 1 + Dh.size ≤ 402; omega, rfl⟩
              case rest => as_aux_lemma =>
                obtain ⟨S, rfl, hS, s1, rfl⟩ := hcut
                go_upto_if 79 with fail
                go_cut [12] from 77 to 79 (fun v12 wx => ∃ (G : ByteArray), v12 = .string G ∧ Hid (G = ⟨#[101]⟩ ++ ⟨#[]⟩ ∨ G = ⟨#[69]⟩ ++ ⟨#[43]⟩) ∧ wx = wc)
                case first => as_aux_lemma =>
                  obtain ⟨r, hr⟩ : ∃ r, i.tmod 2 = r := ⟨_, rfl⟩
                  by_cases h2 : r = 0
                  · have e1 : (r == 0) = true := by simp [h2]
                    clear h2
                    go_wp2
                    go_meet
                    case rel => exact ⟨⟨#[69, 43]⟩, rfl, .inr rfl, rfl⟩
                  · have e1 : (r == 0) = false := beq_eq_false_iff_ne.2 h2
                    go_wp2
                    go_meet
                    case rel => exact ⟨⟨#[101]⟩, rfl, .inl (app_nil _).symm, rfl⟩
                case rest => as_aux_lemma =>
                  obtain ⟨G, rfl, hG, rfl⟩ := hcut
                  go_upto_if 81 with fail
                  go_cut [9, 12] from 80 to 83 (fun v9 v12 wx => ∃ (E : Nat) (G' : ByteArray), v9 = .int .i64 (E : Int) ∧ v12 = .string G' ∧ E ≤ 4294967296 ∧ G'.size ≤ 2 ∧ Hid (LsB n t x S G' E) ∧ wx = wc)
                  case first => as_aux_lemma =>
                    by_cases h2 : Y < 0
                    · have e1 : decide (Y < 0) = true := by simpa using h2
                      have hB := hid (hL.out.b n 101 (.inl rfl) ⟨#[45]⟩ true (.inr (.inr ⟨rfl, rfl⟩)) (-Y).toNat (by rw [if_pos rfl]; omega))
                      rw [hS.out] at hB
                      go_wp2
                      go_meet
                      case rel => exact ⟨(-Y).toNat, ⟨#[101, 45]⟩, by rw [show (((-Y).toNat : Nat) : Int) = -Y by omega], rfl, by omega, by decide, hB, rfl⟩
                    · have e1 : decide (Y < 0) = false := by simpa using h2
                      have hB := hid (show LsB n t x S G Y.toNat by
                        rcases hG.out with rfl | rfl
                        · have := hL.out.b n 101 (.inl rfl) ⟨#[]⟩ false (.inl ⟨rfl, rfl⟩) Y.toNat (by rw [if_neg (by decide)]; omega)
                          rw [hS.out] at this
                          exact this
                        · have := hL.out.b n 69 (.inr rfl) ⟨#[43]⟩ false (.inr (.inl ⟨rfl, rfl⟩)) Y.toNat (by rw [if_neg (by decide)]; omega)
                          rw [hS.out] at this
                          exact this)
                      go_wp2
                      go_meet
                      case rel => exact ⟨Y.toNat, G, by rw [show ((Y.toNat : Nat) : Int) = Y by omega], rfl, by omega, hB.out.2.1, hB, rfl⟩
                  case rest => as_aux_lemma =>
                    obtain ⟨E, G', rfl, rfl, e1, e2, hB, rfl⟩ := hcut
                    clear hG hL hS y1 y2 y3
                    go_wp2_with fail
                    go_loopw [9, 13] (fun ee tt wr => ∃ (e : Nat) (T : ByteArray), ee = .int .i64 (e : Int) ∧ tt = .string T ∧ e ≤ 4294967296 ∧ T.size ≤ 20 ∧ Hid (LsT E e T) ∧ Hid (OwnD w w.heap.size n t x wr)) (fun ee _ _ => (intOf ee).toNat)
                    case atStart => exact ⟨E, ⟨#[]⟩, rfl, rfl, e1, by decide, LsT.zero E, A5⟩
                    case round =>
                      obtain ⟨e, T, rfl, rfl, f1, f2, hT, A6⟩ := hrel
                      by_cases he : 0 < e
                      · have g1 : decide ((0 : Int) < (e : Int)) = true := by simp; omega
                        obtain ⟨r, hr⟩ : ∃ r, e % 10 = r := ⟨_, rfl⟩
                        obtain ⟨q, hq⟩ : ∃ q, e / 10 = q := ⟨_, rfl⟩
                        have g2 : (e : Int).tmod 10 = (r : Int) := by rw [tmod_nat, hr]
                        have g3 : (e : Int).tdiv 10 = (q : Int) := by rw [tdiv_nat, hq]
                        obtain ⟨b, hb⟩ : ∃ b : UInt8, b.toNat = 48 + r := ⟨UInt8.ofNat (48 + r), by rw [UInt8.toNat_ofNat']; omega⟩
                        have g4 : wrap64 (48 + (r : Int)) % 256 = (b.toNat : Int) := by rw [hb]; exact w48 (by rw [← hr]; exact Nat.mod_lt _ (by decide))
                        have hcv : (convert 28 9 (.slice (some ⟨wr.heap.size, 0, none⟩) 1 1)).run Tryd.prog (wr.alloc (.cells #[.int .u8 (b.toNat : Int)] 5)) = .ok (.string ⟨#[b]⟩) (wr.alloc (.cells #[.int .u8 (b.toNat : Int)] 5)) :=
                          run_convert_bytes_back (P := Tryd.prog) (wr.alloc (.cells #[.int .u8 (b.toNat : Int)] 5)) 28 9 5 ⟨wr.heap.size, 0, none⟩ 1 [b] Tryd.underlying28 Tryd.underlying5 Tryd.underlying9 (fun j hj => by
                            have hj2 : j < 1 := hj
                            obtain rfl : j = 0 := by omega
                            exact World.cell?_alloc_new _ _ _ _)
                        have hsm : (⟨#[b]⟩ : ByteArray).size = 1 := rfl
                        have hav : ∀ u : World, (Op.stringOp .add ⟨#[b]⟩ T).run Tryd.prog u = .ok (.string (⟨#[b]⟩ ++ T)) u := fun u => run_string_add_sum u ⟨#[b]⟩ T (by omega)
                        have hz2 := hid (show (⟨#[b]⟩ ++ T : ByteArray).size ≤ 20 by have := (hT.out.next e1 he b (by rw [hb, hr])).2.2.1; exact this)
                        have A7 := hid (show OwnD w w.heap.size n t x (wr.alloc (.cells #[.int .u8 (b.toNat : Int)] 5)) from ⟨A6.out.1, A6.out.2.1.alloc _, A6.out.2.2.alloc A6.out.2.2.size _⟩)
                        clear hsm
                        have hT2 := hid (show LsT E q (⟨#[b]⟩ ++ T) by rw [← hq]; exact hT.out.next e1 he b (by rw [hb, hr]))
                        clear hb hr hT
                        go_wp2
                        go_roundw
                        case rel => exact ⟨q, ⟨#[b]⟩ ++ T, rfl, rfl, by omega, hz2.out, hT2, A7⟩
                        case measure => simp [intOf]; omega
                      · have g1 : decide ((0 : Int) < (e : Int)) = false := by simp; omega
                        obtain rfl : e = 0 := by omega
                        have hz : (⟨#[48]⟩ : ByteArray).size = 1 := rfl
                        have s1' := s1
                        obtain ⟨S2, hS2⟩ : ∃ S2, S ++ G' = S2 := ⟨_, rfl⟩
                        have z2 : S2.size = S.size + G'.size := by rw [← hS2, app_size]
                        have h1 : ∀ u : World, (Op.stringOp .add S G').run Tryd.prog u = .ok (.string S2) u := fun u => by rw [run_string_add_sum u S G' (by omega), hS2]
                        obtain ⟨S3, hS3⟩ : ∃ S3, S2 ++ Z = S3 := ⟨_, rfl⟩
                        have z3 : S3.size = S2.size + Z.size := by rw [← hS3, app_size]
                        have h2 : ∀ u : World, (Op.stringOp .add S2 Z).run Tryd.prog u = .ok (.string S3) u := fun u => by rw [run_string_add_sum u S2 Z (by omega), hS3]
                        obtain ⟨S4, hS4⟩ : ∃ S4, S3 ++ (⟨#[48]⟩ : ByteArray) = S4 := ⟨_, rfl⟩
                        have z4 : S4.size = S3.size + 1 := by rw [← hS4, app_size, hz]
                        have h3 : ∀ u : World, (Op.stringOp .add S3 ⟨#[48]⟩).run Tryd.prog u = .ok (.string S4) u := fun u => by rw [run_string_add_sum u S3 ⟨#[48]⟩ (by omega), hS4]
                        obtain ⟨S5, hS5⟩ : ∃ S5, S4 ++ T = S5 := ⟨_, rfl⟩
                        have z5 : S5.size = S4.size + T.size := by rw [← hS5, app_size]
                        have h4 : ∀ u : World, (Op.stringOp .add S4 T).run Tryd.prog u = .ok (.string S5) u := fun u => by rw [run_string_add_sum u S4 T (by omega), hS5]
                        have cO := hid (fun w1 => of_calls S5 (by omega) w1)
                        have hof := hB.out.all (N := N) hT.out
                        rw [hZ.out, hS2, hS3, hS4, hS5] at hof
                        have hov : ofV S5 = .tuple #[.agg #[.bool n, .string t, .int .i64 x], .int .i64 0] := by
                          rw [ofV, hof]
                          show Value.tuple #[.agg #[.bool n, .string ⟨t.data.toList.toArray⟩, .int .i64 x], .int .i64 0] = _
                          rw [Lib.mk_data]
                        rw [hov] at cO
                        have heq := eqDec n t x
                        clear hof hov hS2 hS3 hS4 hS5 z2 z3 z4 z5 hz s1' hB hT A5
                        go_wp2_with fail
                        refine Calls.mono (cZ.out _) ?_
                        rintro e w5 ⟨rfl, hb⟩
                        have A7 := hid (A6.out.kept hb)
                        clear A6 hb cZ
                        go_wp2_with fail
                        refine Calls.mono (cO.out _) ?_
                        rintro e w6 ⟨rfl, hb⟩
                        have A8 := hid (A7.out.kept hb)
                        have B8 := hid (At.new w6 #[.bool n, .string t, .int .i64 x] 23)
                        have A9 := hid (A8.out.kept (w' := w6.alloc (.cells #[.bool n, .string t, .int .i64 x] 23)) ((Below.refl _ _).alloc (Nat.le_refl _) _))
                        clear A7 A8 hb cO
                        go_upto_region 28 with fail
                        generalize w6.heap.size = b6 at B8 ⊢
                        generalize w6.alloc (.cells #[.bool n, .string t, .int .i64 x] 23) = w7 at B8 A9 ⊢
                        obtain ⟨⟨c0, c1, c2⟩, -, -, -⟩ := A9.out.facts
                        obtain ⟨d0, d1, d2⟩ : w7.cell? ⟨b6, 0, none⟩ = some (.bool n) ∧ w7.cell? ⟨b6, 1, none⟩ = some (.string t) ∧ w7.cell? ⟨b6, 2, none⟩ = some (.int .i64 x) := ⟨B8.out.cell 0, B8.out.cell 1, B8.out.cell 2⟩
                        go_wp2
                        go_ret
                        exact ⟨by first | rfl | simp, A9.out.2.2⟩
end Go.Proofs.YtheeonlfbnkhgaaDoor
