/-
  What quarryref10.Build answers.
-/
import Derived.Test.YtjccgiadmnogeaaDoorRefB
import Derived.Deep.DeepCutAuto
namespace Go.Proofs.YtjccgiadmnogeaaDoor
open Go.RowKit Go.Shelf

def rf58 (s : ByteArray) (k : Nat) : Nat → Nat := rowOf (lvS 58 s (k + 1)) s.size
def rf44 (s : ByteArray) (k : Nat) : Nat → Nat := rowOf (lvS 44 s (k + 1)) s.size
set_option maxRecDepth 10000 in
set_option maxHeartbeats 1000000 in
theorem refBuild_no (s : ByteArray) (a : Int) (ha : a < 1 ∨ 64 < a) (w : World) :
    Calls Tryd.prog 14 #[.string s, .int .i64 a] w fun e w' => e = .returned (.tuple #[.agg #[.slice none 0 0, .slice none 0 0], .int .i64 2]) ∧ Below w.heap.size w w' := by
  go_enter Tryd.func14, Tryd.ntmps14
  rcases ha with ha | ha
  · go_wp2
    exact ret_lvs2 rfl rfl (At.new w _ _) rfl ⟨rfl, by repeat (first | with_reducible exact Below.refl _ _ | with_reducible refine Below.setCell ?_ (by first | (simp; done) | (simp; omega)) _ | with_reducible refine below_drewN ?_ _ | with_reducible refine Below.alloc ?_ (by first | (simp; done) | (simp; omega)) _ | with_reducible refine Below.drew ?_)⟩
  · have n1 : decide (a < 1) = false := by simp; omega
    go_wp2
    exact ret_lvs2 rfl rfl (At.new w _ _) rfl ⟨rfl, by repeat (first | with_reducible exact Below.refl _ _ | with_reducible refine Below.setCell ?_ (by first | (simp; done) | (simp; omega)) _ | with_reducible refine below_drewN ?_ _ | with_reducible refine Below.alloc ?_ (by first | (simp; done) | (simp; omega)) _ | with_reducible refine Below.drew ?_)⟩
/-- The two rows of truths, as far as the places below i. -/
def Bl2 (s : ByteArray) (k g1 g2 i : Nat) (W : World) : Prop :=
  At W g1 (boolCells s.size (fun j => if j < i then lvS 58 s k j else false)) 4 ∧ At W g2 (boolCells s.size (fun j => if j < i then lvS 44 s k j else false)) 4
theorem bl2_step {s : ByteArray} {k g1 g2 i : Nat} {W : World} {a b : Bool} (h : Bl2 s k g1 g2 i W) (hne : g1 ≠ g2) (ha : lvS 58 s k i = a) (hb : lvS 44 s k i = b) : Bl2 s k g1 g2 (i + 1) ((W.setCell ⟨g1, i, none⟩ (.bool a)).setCell ⟨g2, i, none⟩ (.bool b)) := by
  have key : ∀ (c : Nat) (m : Bool), lvS c s k i = m → boolCells s.size (fun j => if j < i + 1 then lvS c s k j else false) = boolCells s.size (fun j => if j = i then m else if j < i then lvS c s k j else false) := fun c m hm => boolCells_congr (fun j _ => by
    by_cases hj : j = i
    · rw [if_pos (by omega), if_pos hj, hj, hm]
    · rw [if_neg hj]
      by_cases hl : j < i
      · rw [if_pos (by omega), if_pos hl]
      · rw [if_neg (by omega), if_neg hl])
  refine ⟨?_, ?_⟩
  · have h1 := (h.1.set i (.bool a)).other (p := ⟨g2, i, none⟩) hne (.bool b)
    rw [boolCells_set] at h1
    rw [key 58 a ha]; exact h1
  · have h1 := (h.2.other (p := ⟨g1, i, none⟩) (Ne.symm hne) (.bool a)).set i (.bool b)
    rw [boolCells_set] at h1
    rw [key 44 b hb]; exact h1

set_option maxRecDepth 10000 in
set_option maxHeartbeats 8000000 in
theorem refBuild_calls (s : ByteArray) (hs : s.size ≤ 1048576) (m : Nat) (hm0 : 0 < m) (hm : m ≤ 64) (w : World) :
    Calls Tryd.prog 14 #[.string s, .int .i64 (m : Int)] w fun e w' => ∃ lo1 c1 lo2 c2, e = .returned (.tuple #[.agg #[.slice lo1 m c1, .slice lo2 m c2], .int .i64 0]) ∧ RdL w' lo1 m s.size (rf58 s) ∧ RdL w' lo2 m s.size (rf44 s) ∧ Below w.heap.size w w' := by
  have hsi : (s.size : Int) ≤ 1048576 := by omega
  have hmi : (m : Int) ≤ 64 := by omega
  have n1 : decide ((m : Int) < 1) = false := by simp; omega
  have n2 : decide ((64 : Int) < (m : Int)) = false := by simp; omega
  have hmk := hid (fun u => make_bools47 s.size (by omega) u)
  have ho := hid (fun u => outside_calls s (by omega) u)
  have hds := hid (fun u => depths_calls s (by omega) u)
  have hdl := hid (depS_le s)
  have hof := hid (fun (g : Nat) (G : Nat → Bool) (u : World) (hA : At u g (boolCells s.size G) 4) => of_calls (some ⟨g, 0, none⟩) s.size s.size G (by omega) u hA.bls)
  go_enter Tryd.func14, Tryd.ntmps14
  go_wp2_with fail
  refine Calls.mono (ho.out _) ?_
  rintro e w1 ⟨go, hgo, rfl, hA, q1⟩
  have hA' := hid hA
  have hb1 : Hid (Below w.heap.size w w1) := Below.trans (by repeat (first | with_reducible exact Below.refl _ _ | with_reducible refine Below.setCell ?_ (by first | (simp; done) | (simp; omega)) _ | with_reducible refine below_drewN ?_ _ | with_reducible refine Below.alloc ?_ (by first | (simp; done) | (simp; omega)) _ | with_reducible refine Below.drew ?_)) (q1.mono (by simp))
  have hr1 := hid ((At.new w #[.slice none 0 0, .slice none 0 0] 32).keptAll q1)
  clear hA q1 ho hgo
  go_wp2_with fail
  refine Calls.mono (hds.out _) ?_
  rintro e w2 ⟨v, rfl, hown, q2⟩
  obtain ⟨gd, cap, rfl, hgd, hcs⟩ := depL_row hown
  have hA2 := hid (hA'.out.keptAll q2)
  have hb2 := hid (hb1.out.trans (q2.mono hb1.out.size))
  have hr2 := hid (hr1.out.keptAll q2)
  have hcs' := hid hcs
  have hgd' := hid hgd
  clear hds hown q2 hA' hb1 hr1 hcs hgd n1 n2
  go_wp2
  go_loopw [9] (fun kk wr => ∃ j : Nat, j ≤ m ∧ kk = .int .i64 ((j : Int) + 1) ∧ ∃ v u : Value, Hid (RbS w2 s.size (rf58 s) (rf44 s) j j v u wr)) (fun kk _ => m + 1 - (intOf kk).toNat)
  case atStart =>
    refine ⟨0, Nat.zero_le _, rfl, .slice none 0 0, .slice none 0 0, ⟨⟨At.new w2 _ _, LsB.nil _ _ _ _, LsB.nil _ _ _ _, fun g e => by cases e⟩, by repeat (first | with_reducible exact Below.refl _ _ | with_reducible refine Below.setCell ?_ (by first | (simp; done) | (simp; omega)) _ | with_reducible refine below_drewN ?_ _ | with_reducible refine Below.alloc ?_ (by first | (simp; done) | (simp; omega)) _ | with_reducible refine Below.drew ?_)⟩⟩
  case round =>
    obtain ⟨j, hj, rfl, v, u, hS⟩ := hrel
    obtain ⟨wo, rfl⟩ : ∃ wo, wo = wr := ⟨_, rfl⟩
    have hbl := hid hS.out.1.1.lt
    obtain ⟨c0, c1, -, -⟩ := hS.out.1.1.factsL
    by_cases hlt : j < m
    · have hli : (j : Int) + 1 ≤ (m : Int) := by omega
      have hmk' := hmk.out
      go_upto_region 8 with fail
      go_cut [10, 11] from 29 to 34 (fun x y wx => ∃ g1 g2 : Nat, x = .slice (some ⟨g1, 0, none⟩) s.size s.size ∧ y = .slice (some ⟨g2, 0, none⟩) s.size s.size ∧ Hid (g1 ≠ g2 ∧ wo.heap.size ≤ g1 ∧ wo.heap.size ≤ g2) ∧ Hid (Bl2 s (j + 1) g1 g2 0 wx) ∧ Hid (Below wo.heap.size wo wx))
      case first =>
        have hbz : boolCells s.size (fun j' => if j' < 0 then lvS 58 s (j + 1) j' else false) = boolCells s.size (fun _ => false) := boolCells_congr (fun j' _ => by rw [if_neg (by omega)])
        have hbz2 : boolCells s.size (fun j' => if j' < 0 then lvS 44 s (j + 1) j' else false) = boolCells s.size (fun _ => false) := boolCells_congr (fun j' _ => by rw [if_neg (by omega)])
        have hnew1 : ∀ o : Obj, At ((wo.alloc (.cells (boolCells s.size fun _ => false) 4)).alloc o) wo.heap.size (boolCells s.size fun _ => false) 4 := fun o => (At.new wo _ _).alloc _
        have hnew2 : ∀ o : Obj, At ((wo.alloc o).alloc (.cells (boolCells s.size fun _ => false) 4)) (wo.heap.size + 1) (boolCells s.size fun _ => false) 4 := fun o => by
          have h := At.new (wo.alloc o) (boolCells s.size fun _ => false) 4
          rw [World.size_alloc] at h
          exact h
        have hn1 := hid hnew1
        have hn2 := hid hnew2
        have hz1 := hid hbz
        have hz2 := hid hbz2
        clear hnew1 hnew2 hbz hbz2 hof
        go_region
        all_goals go_wp2
        all_goals go_meet
        all_goals first
          | exact ⟨wo.heap.size, wo.heap.size + 1, rfl, rfl, ⟨by omega, by omega, by omega⟩, ⟨by rw [hz1.out]; exact hn1.out _, by rw [hz2.out]; exact hn2.out _⟩, by show Below _ _ _; repeat (first | with_reducible exact Below.refl _ _ | with_reducible refine Below.setCell ?_ (by first | (simp; done) | (simp; omega)) _ | with_reducible refine below_drewN ?_ _ | with_reducible refine Below.alloc ?_ (by first | (simp; done) | (simp; omega)) _ | with_reducible refine Below.drew ?_)⟩
          | exact ⟨wo.heap.size + 1, wo.heap.size, rfl, rfl, ⟨by omega, by omega, by omega⟩, ⟨by rw [hz1.out]; exact hn2.out _, by rw [hz2.out]; exact hn1.out _⟩, by show Below _ _ _; repeat (first | with_reducible exact Below.refl _ _ | with_reducible refine Below.setCell ?_ (by first | (simp; done) | (simp; omega)) _ | with_reducible refine below_drewN ?_ _ | with_reducible refine Below.alloc ?_ (by first | (simp; done) | (simp; omega)) _ | with_reducible refine Below.drew ?_)⟩
      case rest =>
        obtain ⟨g1, g2, rfl, rfl, hgg, hB2, hbc⟩ := hcut
        clear hmk' c0 c1
        go_wp2
        go_loopw [12] (fun ii wr => ∃ i : Nat, i ≤ s.size ∧ ii = .int .i64 (i : Int) ∧ Hid (Bl2 s (j + 1) g1 g2 i wr) ∧ Hid (Below wo.heap.size wo wr)) (fun ii _ => s.size - (intOf ii).toNat)
        case atStart => exact ⟨0, Nat.zero_le _, rfl, hB2, hbc⟩
        case round =>
          obtain ⟨i, hi, rfl, hB, hb⟩ := hrel
          have hB4 : Below w2.heap.size w2 wr := hS.out.2.trans (hb.out.mono hS.out.2.size)
          by_cases hil : i < s.size
          · have hiI : (i : Int) < (s.size : Int) := by omega
            have m1 := (hA2.out.kept hB4 hA2.out.lt).cell i
            rw [boolCells_get _ hil] at m1
            have k1 := (hB4.cell (p := ⟨gd, i, none⟩) hgd'.out).trans (hcs'.out i (by omega))
            have b1 := hB.out.1.cell i
            have b2 := hB.out.2.cell i
            rw [boolCells_get _ hil] at b1 b2
            have f1 := hB.out.1.frozen i
            have f2 := hB.out.2.frozen i
            obtain ⟨z1, z2, z3⟩ := hgg.out
            have z1' := Ne.symm z1
            have hwz := hS.out.2.size
            have hgo := hA2.out.lt
            have hgd1 := hgd'.out
            have y1 : go ≠ g1 := by omega
            have y2 : gd ≠ g1 := by omega
            have y3 : g1 ≠ go := by omega
            have y4 : g1 ≠ gd := by omega
            obtain ⟨o, hoe⟩ : ∃ o, Hid (outS s i = o) := ⟨_, rfl⟩
            rw [hoe.out] at m1
            obtain ⟨d, hd⟩ : ∃ d, Hid (depS s i = d) := ⟨_, rfl⟩
            rw [hd.out] at k1
            have hxx := byteAt_num s i hil
            obtain ⟨x, hx⟩ : ∃ x, Hid (byteAt s i = x) := ⟨_, rfl⟩
            rw [hx.out] at hxx
            have hl : Hid (∀ c, lvS c s (j + 1) i = (o && (x == c && decide (d = j + 1)))) := fun c => by unfold lvS; rw [hoe.out, hx.out, hd.out]
            clear hwz hgo hgd1 hB4 z2 z3
            cases o
            · have l58 : lvS 58 s (j + 1) i = false := by rw [hl.out]; rfl
              have l44 : lvS 44 s (j + 1) i = false := by rw [hl.out]; rfl
              have fin := hid (bl2_step (a := false) (b := false) hB.out hgg.out.1 l58 l44)
              clear l58 l44
              go_wp2
              go_roundw
              case rel => exact ⟨i + 1, by omega, by go_num, fin, (hb.out.setCell (p := ⟨g1, i, none⟩) hgg.out.2.1 _).setCell (p := ⟨g2, i, none⟩) hgg.out.2.2 _⟩
              case measure => simp [intOf]; omega
            · by_cases h58 : x = 58
              · subst h58
                by_cases hdj : d = j + 1
                · have e1 : ((d : Int) == (j : Int) + 1) = true := by rw [beq_iff_eq]; omega
                  have l58 : lvS 58 s (j + 1) i = true := by rw [hl.out, decide_eq_true hdj]; rfl
                  have l44 : lvS 44 s (j + 1) i = false := by rw [hl.out]; rfl
                  clear hdj
                  have fin := hid (bl2_step (a := true) (b := false) hB.out hgg.out.1 l58 l44)
                  clear l58 l44
                  go_wp2
                  go_roundw
                  case rel => exact ⟨i + 1, by omega, by go_num, fin, (hb.out.setCell (p := ⟨g1, i, none⟩) hgg.out.2.1 _).setCell (p := ⟨g2, i, none⟩) hgg.out.2.2 _⟩
                  case measure => simp [intOf]; omega
                · have e1 : ((d : Int) == (j : Int) + 1) = false := by rw [beq_eq_false_iff_ne]; omega
                  have l58 : lvS 58 s (j + 1) i = false := by rw [hl.out, decide_eq_false hdj]; rfl
                  have l44 : lvS 44 s (j + 1) i = false := by rw [hl.out]; rfl
                  clear hdj
                  have fin := hid (bl2_step (a := false) (b := false) hB.out hgg.out.1 l58 l44)
                  clear l58 l44
                  go_wp2
                  go_roundw
                  case rel => exact ⟨i + 1, by omega, by go_num, fin, (hb.out.setCell (p := ⟨g1, i, none⟩) hgg.out.2.1 _).setCell (p := ⟨g2, i, none⟩) hgg.out.2.2 _⟩
                  case measure => simp [intOf]; omega
              · have e58 : ((x : Int) == 58) = false := by simp; omega
                have g58 : (x == 58) = false := by simp; omega
                by_cases h44 : x = 44
                · subst h44
                  by_cases hdj : d = j + 1
                  · have e1 : ((d : Int) == (j : Int) + 1) = true := by rw [beq_iff_eq]; omega
                    have l58 : lvS 58 s (j + 1) i = false := by rw [hl.out]; rfl
                    have l44 : lvS 44 s (j + 1) i = true := by rw [hl.out, decide_eq_true hdj]; rfl
                    clear hdj
                    have fin := hid (bl2_step (a := false) (b := true) hB.out hgg.out.1 l58 l44)
                    clear l58 l44
                    go_wp2
                    go_roundw
                    case rel => exact ⟨i + 1, by omega, by go_num, fin, (hb.out.setCell (p := ⟨g1, i, none⟩) hgg.out.2.1 _).setCell (p := ⟨g2, i, none⟩) hgg.out.2.2 _⟩
                    case measure => simp [intOf]; omega
                  · have e1 : ((d : Int) == (j : Int) + 1) = false := by rw [beq_eq_false_iff_ne]; omega
                    have l58 : lvS 58 s (j + 1) i = false := by rw [hl.out]; rfl
                    have l44 : lvS 44 s (j + 1) i = false := by rw [hl.out, decide_eq_false hdj]; rfl
                    clear hdj
                    have fin := hid (bl2_step (a := false) (b := false) hB.out hgg.out.1 l58 l44)
                    clear l58 l44
                    go_wp2
                    go_roundw
                    case rel => exact ⟨i + 1, by omega, by go_num, fin, (hb.out.setCell (p := ⟨g1, i, none⟩) hgg.out.2.1 _).setCell (p := ⟨g2, i, none⟩) hgg.out.2.2 _⟩
                    case measure => simp [intOf]; omega
                · have e44 : ((x : Int) == 44) = false := by simp; omega
                  have g44 : (x == 44) = false := by simp; omega
                  have l58 : lvS 58 s (j + 1) i = false := by rw [hl.out, g58]; rfl
                  have l44 : lvS 44 s (j + 1) i = false := by rw [hl.out, g44]; rfl
                  clear h58 h44 g58 g44
                  have fin := hid (bl2_step (a := false) (b := false) hB.out hgg.out.1 l58 l44)
                  clear l58 l44
                  go_wp2
                  go_roundw
                  case rel => exact ⟨i + 1, by omega, by go_num, fin, (hb.out.setCell (p := ⟨g1, i, none⟩) hgg.out.2.1 _).setCell (p := ⟨g2, i, none⟩) hgg.out.2.2 _⟩
                  case measure => simp [intOf]; omega
          · have hie : i = s.size := by omega
            subst hie
            have hS3 := hid (hS.out.kept hb.out)
            have hG1 : Hid (At wr g1 (boolCells s.size (lvS 58 s (j + 1))) 4) := by
              show At _ _ _ _
              rw [show boolCells s.size (lvS 58 s (j + 1)) = boolCells s.size (fun j' => if j' < s.size then lvS 58 s (j + 1) j' else false) from boolCells_congr (fun j' hj' => by rw [if_pos hj'])]
              exact hB.out.1
            have hG2 : Hid (At wr g2 (boolCells s.size (lvS 44 s (j + 1))) 4) := by
              show At _ _ _ _
              rw [show boolCells s.size (lvS 44 s (j + 1)) = boolCells s.size (fun j' => if j' < s.size then lvS 44 s (j + 1) j' else false) from boolCells_congr (fun j' hj' => by rw [if_pos hj'])]
              exact hB.out.2
            have hg2w : Hid (w2.heap.size ≠ g2) := by show _ ≠ _; have := hgg.out.2.2; have := hbl.out; omega
            clear hB hb hB4
            go_upto_region 14 with fail
            go_cut [89] from 83 to 88 (fun _ wx => ∃ nv : Value, Hid (RbS w2 s.size (rf58 s) (rf44 s) (j + 1) j nv u wx) ∧ Hid (At wx g2 (boolCells s.size (lvS 44 s (j + 1))) 4))
            case first =>
              rename_i K14 hK14
              refine wp_region_held_drew (S := fun _ => True) (by kernel_rfl) trivial (fun hHeld => ?_)
              have s0 := hid (hS3.out.kept (Below.refl _ _).drew)
              have gr0 := hid (At.drew hG1.out)
              have o0 := hid (At.drew hG2.out)
              obtain ⟨x0, ex0⟩ : ∃ x, World.drew wr = x := ⟨_, rfl⟩
              rw [ex0] at s0 gr0 o0 ⊢
              clear ex0
              (refine' wpAnyH_take (i := 0) rfl (by kernel_rfl) (by kernel_rfl) (by kernel_rfl) (fun _ _ _ h => h) (Or.inl ⟨by rfl, ?_⟩) (by assumption) ?_; rotate_left; (· (intro wq hq; (try dsimp only at hq); go_simp; first | done | with_reducible rfl)); simp only [Act.put, List.getElem_toArray, List.getElem_cons_zero, List.setIfInBounds_toArray, List.set_cons_zero, List.set_cons_succ])
              (refine' wpAnyH_take (i := 2) rfl (by kernel_rfl) (by kernel_rfl) (by kernel_rfl) (fun _ _ _ h => h) (Or.inl ⟨by rfl, ?_⟩) (by assumption) ?_; rotate_left; (· (intro wq hq; (try dsimp only at hq); go_simp; first | done | with_reducible rfl)); simp only [Act.put, List.getElem_toArray, List.getElem_cons_zero, List.getElem_cons_succ, List.setIfInBounds_toArray, List.set_cons_zero, List.set_cons_succ])
              refine wpAnyH_ready (rs := [1, 3]) (by kernel_rfl) (by simp) ?_
              refine AllReadyH.cons rfl (fun K hK => ?_) ?_
              · obtain ⟨t0, t1, -, -⟩ := s0.out.1.1.factsL
                go_simp
                clear t0 t1
                refine hK.out _ _ trivial (fun _ => ?_)
                clear hK K
                refine wpAnyH_ready (rs := [3]) (by kernel_rfl) (by simp) ?_
                refine AllReadyH.cons rfl (fun K hK => ?_) ?_
                · rw [if_pos (by rfl)]
                  go_simp
                  refine Calls.mono (hof.out g1 _ _ gr0.out) ?_
                  rintro e x1 ⟨xr, rfl, hxr, q⟩
                  have hx := hid (row_base (B' := w2.heap.size + 1) hxr (Nat.succ_le_of_lt s0.out.1.1.lt))
                  have s1 := hid (s0.out.kept q)
                  have gr1 := hid (gr0.out.keptAll q)
                  have o1 := hid (o0.out.keptAll q)
                  clear hxr q
                  refine hK.out _ _ trivial (fun _ => ?_)
                  clear hK K
                  refine wpAnyH_ready (rs := [4]) (by kernel_rfl) (by simp) ?_
                  refine AllReadyH.cons rfl (fun K hK => ?_) ?_
                  · go_simp
                    obtain ⟨x2, ex⟩ : ∃ x, World.alloc x1 (.cells #[.int .i64 (s.size : Int), xr] 43) = x := ⟨_, rfl⟩
                    have q : Below x1.heap.size x1 x2 := by rw [← ex]; exact (Below.refl _ _).alloc (Nat.le_refl _) _
                    have hp := hid (show At x2 x1.heap.size #[.int .i64 (s.size : Int), xr] 43 by rw [← ex]; exact At.new x1 _ _)
                    rw [ex]
                    obtain ⟨p, ep⟩ : ∃ p, x1.heap.size = p := ⟨_, rfl⟩
                    have s2 := hid (s1.out.kept q)
                    have gr2 := hid (gr1.out.keptAll q)
                    have o2 := hid (o1.out.keptAll q)
                    replace hx := hid (row_keptAll hx.out q)
                    rw [ep] at hp ⊢
                    clear ex ep q
                    refine hK.out _ _ trivial (fun _ => ?_)
                    clear hK K
                    obtain ⟨nv14, y14, hrun, hl, hgr, hap⟩ := (s2.out.1.2.1).app hx.out ⟨p, 0, none⟩ 1 (by simpa [Addr.add] using hp.out.cell 0) (by simpa [Addr.add] using hp.out.cell 1) (by omega) (Nat.succ_le_of_lt s2.out.1.1.lt)
                    obtain ⟨lo14, cp14, rfl⟩ := hl.shape
                    have hrun' := hid hrun
                    have fin := hid (s2.out.pushv hl hgr hap)
                    have hb1 := (s2.out.1.1).grownT hgr (fun g e => ((s2.out.1.2.1).blk e).2) (by decide)
                    have of := hid (((o2.out).grownT hgr (fun g e => ((s2.out.1.2.1).blk e).2) (by decide)).other (p := ⟨w2.heap.size, 0, none⟩) (Ne.symm hg2w.out) (.slice lo14 (j + 1) cp14))
                    obtain ⟨t0, t1, f0, f1⟩ := hb1.factsL
                    clear hrun hl hgr hap hb1
                    refine wpAnyH_ready (rs := [5]) (by kernel_rfl) (by simp) ?_
                    refine AllReadyH.cons rfl (fun K hK => ?_) ?_
                    · rw [if_pos (by rfl)]
                      refine wp_append_rowB rfl rfl rfl hrun'.out ?_
                      refine hK.out _ _ trivial (fun _ => ?_)
                      clear hK K
                      (refine' wpAnyH_take (i := 6) rfl (by kernel_rfl) (by kernel_rfl) (by kernel_rfl) (fun _ _ _ h => h) (Or.inl ⟨by rfl, ?_⟩) (by assumption) ?_; rotate_left; (· (intro wq hq; (try dsimp only at hq); go_simp; first | done | with_reducible rfl)); simp only [Act.put, List.getElem_toArray, List.getElem_cons_zero, List.getElem_cons_succ, List.setIfInBounds_toArray, List.set_cons_zero, List.set_cons_succ])
                      refine wpAnyH_ready (rs := [7]) (by kernel_rfl) (by simp) ?_
                      refine AllReadyH.cons rfl (fun K hK => ?_) ?_
                      · go_simp
                        refine hK.out _ _ trivial (fun _ => ?_)
                        clear hK K
                        refine wpAnyH_done (by kernel_rfl) ?_ _
                        refine hK14 _ _ ?_
                        obtain ⟨z14, ez⟩ : ∃ z, World.setCell y14 ⟨w2.heap.size, 0, none⟩ (.slice lo14 (j + 1) cp14) = z := ⟨_, rfl⟩
                        rw [ez] at fin of ⊢
                        clear ez hrun' t0 t1 f0 f1 hHeld
                        go_wp2
                        go_meet
                        case rel => exact ⟨_, fin, of⟩
                      exact AllReadyH.nil
                    exact AllReadyH.nil
                  exact AllReadyH.nil
                exact AllReadyH.nil
              refine AllReadyH.cons rfl (fun K hK => ?_) ?_
              · rw [if_pos (by rfl)]
                go_simp
                refine Calls.mono (hof.out g1 _ _ gr0.out) ?_
                rintro e x1 ⟨xr, rfl, hxr, q⟩
                have hx := hid (row_base (B' := w2.heap.size + 1) hxr (Nat.succ_le_of_lt s0.out.1.1.lt))
                have s1 := hid (s0.out.kept q)
                have gr1 := hid (gr0.out.keptAll q)
                have o1 := hid (o0.out.keptAll q)
                clear hxr q
                refine hK.out _ _ trivial (fun _ => ?_)
                clear hK K
                refine wpAnyH_ready (rs := [1, 4]) (by kernel_rfl) (by simp) ?_
                refine AllReadyH.cons rfl (fun K hK => ?_) ?_
                · obtain ⟨t0, t1, -, -⟩ := s1.out.1.1.factsL
                  go_simp
                  clear t0 t1
                  refine hK.out _ _ trivial (fun _ => ?_)
                  clear hK K
                  refine wpAnyH_ready (rs := [4]) (by kernel_rfl) (by simp) ?_
                  refine AllReadyH.cons rfl (fun K hK => ?_) ?_
                  · go_simp
                    obtain ⟨x2, ex⟩ : ∃ x, World.alloc x1 (.cells #[.int .i64 (s.size : Int), xr] 43) = x := ⟨_, rfl⟩
                    have q : Below x1.heap.size x1 x2 := by rw [← ex]; exact (Below.refl _ _).alloc (Nat.le_refl _) _
                    have hp := hid (show At x2 x1.heap.size #[.int .i64 (s.size : Int), xr] 43 by rw [← ex]; exact At.new x1 _ _)
                    rw [ex]
                    obtain ⟨p, ep⟩ : ∃ p, x1.heap.size = p := ⟨_, rfl⟩
                    have s2 := hid (s1.out.kept q)
                    have gr2 := hid (gr1.out.keptAll q)
                    have o2 := hid (o1.out.keptAll q)
                    replace hx := hid (row_keptAll hx.out q)
                    rw [ep] at hp ⊢
                    clear ex ep q
                    refine hK.out _ _ trivial (fun _ => ?_)
                    clear hK K
                    obtain ⟨nv14, y14, hrun, hl, hgr, hap⟩ := (s2.out.1.2.1).app hx.out ⟨p, 0, none⟩ 1 (by simpa [Addr.add] using hp.out.cell 0) (by simpa [Addr.add] using hp.out.cell 1) (by omega) (Nat.succ_le_of_lt s2.out.1.1.lt)
                    obtain ⟨lo14, cp14, rfl⟩ := hl.shape
                    have hrun' := hid hrun
                    have fin := hid (s2.out.pushv hl hgr hap)
                    have hb1 := (s2.out.1.1).grownT hgr (fun g e => ((s2.out.1.2.1).blk e).2) (by decide)
                    have of := hid (((o2.out).grownT hgr (fun g e => ((s2.out.1.2.1).blk e).2) (by decide)).other (p := ⟨w2.heap.size, 0, none⟩) (Ne.symm hg2w.out) (.slice lo14 (j + 1) cp14))
                    obtain ⟨t0, t1, f0, f1⟩ := hb1.factsL
                    clear hrun hl hgr hap hb1
                    refine wpAnyH_ready (rs := [5]) (by kernel_rfl) (by simp) ?_
                    refine AllReadyH.cons rfl (fun K hK => ?_) ?_
                    · rw [if_pos (by rfl)]
                      refine wp_append_rowB rfl rfl rfl hrun'.out ?_
                      refine hK.out _ _ trivial (fun _ => ?_)
                      clear hK K
                      (refine' wpAnyH_take (i := 6) rfl (by kernel_rfl) (by kernel_rfl) (by kernel_rfl) (fun _ _ _ h => h) (Or.inl ⟨by rfl, ?_⟩) (by assumption) ?_; rotate_left; (· (intro wq hq; (try dsimp only at hq); go_simp; first | done | with_reducible rfl)); simp only [Act.put, List.getElem_toArray, List.getElem_cons_zero, List.getElem_cons_succ, List.setIfInBounds_toArray, List.set_cons_zero, List.set_cons_succ])
                      refine wpAnyH_ready (rs := [7]) (by kernel_rfl) (by simp) ?_
                      refine AllReadyH.cons rfl (fun K hK => ?_) ?_
                      · go_simp
                        refine hK.out _ _ trivial (fun _ => ?_)
                        clear hK K
                        refine wpAnyH_done (by kernel_rfl) ?_ _
                        refine hK14 _ _ ?_
                        obtain ⟨z14, ez⟩ : ∃ z, World.setCell y14 ⟨w2.heap.size, 0, none⟩ (.slice lo14 (j + 1) cp14) = z := ⟨_, rfl⟩
                        rw [ez] at fin of ⊢
                        clear ez hrun' t0 t1 f0 f1 hHeld
                        go_wp2
                        go_meet
                        case rel => exact ⟨_, fin, of⟩
                      exact AllReadyH.nil
                    exact AllReadyH.nil
                  exact AllReadyH.nil
                refine AllReadyH.cons rfl (fun K hK => ?_) ?_
                · go_simp
                  obtain ⟨x2, ex⟩ : ∃ x, World.alloc x1 (.cells #[.int .i64 (s.size : Int), xr] 43) = x := ⟨_, rfl⟩
                  have q : Below x1.heap.size x1 x2 := by rw [← ex]; exact (Below.refl _ _).alloc (Nat.le_refl _) _
                  have hp := hid (show At x2 x1.heap.size #[.int .i64 (s.size : Int), xr] 43 by rw [← ex]; exact At.new x1 _ _)
                  rw [ex]
                  obtain ⟨p, ep⟩ : ∃ p, x1.heap.size = p := ⟨_, rfl⟩
                  have s2 := hid (s1.out.kept q)
                  have gr2 := hid (gr1.out.keptAll q)
                  have o2 := hid (o1.out.keptAll q)
                  replace hx := hid (row_keptAll hx.out q)
                  rw [ep] at hp ⊢
                  clear ex ep q
                  refine hK.out _ _ trivial (fun _ => ?_)
                  clear hK K
                  refine wpAnyH_ready (rs := [1]) (by kernel_rfl) (by simp) ?_
                  refine AllReadyH.cons rfl (fun K hK => ?_) ?_
                  · obtain ⟨t0, t1, -, -⟩ := s2.out.1.1.factsL
                    go_simp
                    clear t0 t1
                    refine hK.out _ _ trivial (fun _ => ?_)
                    clear hK K
                    obtain ⟨nv14, y14, hrun, hl, hgr, hap⟩ := (s2.out.1.2.1).app hx.out ⟨p, 0, none⟩ 1 (by simpa [Addr.add] using hp.out.cell 0) (by simpa [Addr.add] using hp.out.cell 1) (by omega) (Nat.succ_le_of_lt s2.out.1.1.lt)
                    obtain ⟨lo14, cp14, rfl⟩ := hl.shape
                    have hrun' := hid hrun
                    have fin := hid (s2.out.pushv hl hgr hap)
                    have hb1 := (s2.out.1.1).grownT hgr (fun g e => ((s2.out.1.2.1).blk e).2) (by decide)
                    have of := hid (((o2.out).grownT hgr (fun g e => ((s2.out.1.2.1).blk e).2) (by decide)).other (p := ⟨w2.heap.size, 0, none⟩) (Ne.symm hg2w.out) (.slice lo14 (j + 1) cp14))
                    obtain ⟨t0, t1, f0, f1⟩ := hb1.factsL
                    clear hrun hl hgr hap hb1
                    refine wpAnyH_ready (rs := [5]) (by kernel_rfl) (by simp) ?_
                    refine AllReadyH.cons rfl (fun K hK => ?_) ?_
                    · rw [if_pos (by rfl)]
                      refine wp_append_rowB rfl rfl rfl hrun'.out ?_
                      refine hK.out _ _ trivial (fun _ => ?_)
                      clear hK K
                      (refine' wpAnyH_take (i := 6) rfl (by kernel_rfl) (by kernel_rfl) (by kernel_rfl) (fun _ _ _ h => h) (Or.inl ⟨by rfl, ?_⟩) (by assumption) ?_; rotate_left; (· (intro wq hq; (try dsimp only at hq); go_simp; first | done | with_reducible rfl)); simp only [Act.put, List.getElem_toArray, List.getElem_cons_zero, List.getElem_cons_succ, List.setIfInBounds_toArray, List.set_cons_zero, List.set_cons_succ])
                      refine wpAnyH_ready (rs := [7]) (by kernel_rfl) (by simp) ?_
                      refine AllReadyH.cons rfl (fun K hK => ?_) ?_
                      · go_simp
                        refine hK.out _ _ trivial (fun _ => ?_)
                        clear hK K
                        refine wpAnyH_done (by kernel_rfl) ?_ _
                        refine hK14 _ _ ?_
                        obtain ⟨z14, ez⟩ : ∃ z, World.setCell y14 ⟨w2.heap.size, 0, none⟩ (.slice lo14 (j + 1) cp14) = z := ⟨_, rfl⟩
                        rw [ez] at fin of ⊢
                        clear ez hrun' t0 t1 f0 f1 hHeld
                        go_wp2
                        go_meet
                        case rel => exact ⟨_, fin, of⟩
                      exact AllReadyH.nil
                    exact AllReadyH.nil
                  exact AllReadyH.nil
                exact AllReadyH.nil
              exact AllReadyH.nil
            case rest =>
              obtain ⟨v4, hS4, hO4⟩ := hcut
              obtain ⟨wz, rfl⟩ : ∃ wz, wz = wc := ⟨_, rfl⟩
              go_upto_region 15 with fail
              refine wp_region_held_drew (S := fun _ => True) (by kernel_rfl) trivial (fun hHeld => ?_)
              have s0 := hid (hS4.out.kept (Below.refl _ _).drew)
              have gr0 := hid (At.drew hO4.out)
              obtain ⟨x0, ex0⟩ : ∃ x, World.drew wz = x := ⟨_, rfl⟩
              rw [ex0] at s0 gr0 ⊢
              clear ex0
              (refine' wpAnyH_take (i := 0) rfl (by kernel_rfl) (by kernel_rfl) (by kernel_rfl) (fun _ _ _ h => h) (Or.inl ⟨by rfl, ?_⟩) (by assumption) ?_; rotate_left; (· (intro wq hq; (try dsimp only at hq); go_simp; first | done | with_reducible rfl)); simp only [Act.put, List.getElem_toArray, List.getElem_cons_zero, List.setIfInBounds_toArray, List.set_cons_zero, List.set_cons_succ])
              (refine' wpAnyH_take (i := 2) rfl (by kernel_rfl) (by kernel_rfl) (by kernel_rfl) (fun _ _ _ h => h) (Or.inl ⟨by rfl, ?_⟩) (by assumption) ?_; rotate_left; (· (intro wq hq; (try dsimp only at hq); go_simp; first | done | with_reducible rfl)); simp only [Act.put, List.getElem_toArray, List.getElem_cons_zero, List.getElem_cons_succ, List.setIfInBounds_toArray, List.set_cons_zero, List.set_cons_succ])
              refine wpAnyH_ready (rs := [1, 3]) (by kernel_rfl) (by simp) ?_
              refine AllReadyH.cons rfl (fun K hK => ?_) ?_
              · obtain ⟨t0, t1, -, -⟩ := s0.out.1.1.factsL
                go_simp
                clear t0 t1
                refine hK.out _ _ trivial (fun _ => ?_)
                clear hK K
                refine wpAnyH_ready (rs := [3]) (by kernel_rfl) (by simp) ?_
                refine AllReadyH.cons rfl (fun K hK => ?_) ?_
                · rw [if_pos (by rfl)]
                  go_simp
                  refine Calls.mono (hof.out g2 _ _ gr0.out) ?_
                  rintro e x1 ⟨xr, rfl, hxr, q⟩
                  have hx := hid (row_base (B' := w2.heap.size + 1) hxr (Nat.succ_le_of_lt s0.out.1.1.lt))
                  have s1 := hid (s0.out.kept q)
                  have gr1 := hid (gr0.out.keptAll q)
                  clear hxr q
                  refine hK.out _ _ trivial (fun _ => ?_)
                  clear hK K
                  refine wpAnyH_ready (rs := [4]) (by kernel_rfl) (by simp) ?_
                  refine AllReadyH.cons rfl (fun K hK => ?_) ?_
                  · go_simp
                    obtain ⟨x2, ex⟩ : ∃ x, World.alloc x1 (.cells #[.int .i64 (s.size : Int), xr] 43) = x := ⟨_, rfl⟩
                    have q : Below x1.heap.size x1 x2 := by rw [← ex]; exact (Below.refl _ _).alloc (Nat.le_refl _) _
                    have hp := hid (show At x2 x1.heap.size #[.int .i64 (s.size : Int), xr] 43 by rw [← ex]; exact At.new x1 _ _)
                    rw [ex]
                    obtain ⟨p, ep⟩ : ∃ p, x1.heap.size = p := ⟨_, rfl⟩
                    have s2 := hid (s1.out.kept q)
                    have gr2 := hid (gr1.out.keptAll q)
                    replace hx := hid (row_keptAll hx.out q)
                    rw [ep] at hp ⊢
                    clear ex ep q
                    refine hK.out _ _ trivial (fun _ => ?_)
                    clear hK K
                    obtain ⟨nv15, y15, hrun, hl, hgr, hap⟩ := (s2.out.1.2.2.1).app hx.out ⟨p, 0, none⟩ 1 (by simpa [Addr.add] using hp.out.cell 0) (by simpa [Addr.add] using hp.out.cell 1) (by omega) (Nat.succ_le_of_lt s2.out.1.1.lt)
                    obtain ⟨lo15, cp15, rfl⟩ := hl.shape
                    have hrun' := hid hrun
                    have fin := hid (s2.out.pushu hl hgr hap)
                    have hb1 := (s2.out.1.1).grownT hgr (fun g e => ((s2.out.1.2.2.1).blk e).2) (by decide)
                    obtain ⟨t0, t1, f0, f1⟩ := hb1.factsL
                    clear hrun hl hgr hap hb1
                    refine wpAnyH_ready (rs := [5]) (by kernel_rfl) (by simp) ?_
                    refine AllReadyH.cons rfl (fun K hK => ?_) ?_
                    · rw [if_pos (by rfl)]
                      refine wp_append_rowB rfl rfl rfl hrun'.out ?_
                      refine hK.out _ _ trivial (fun _ => ?_)
                      clear hK K
                      (refine' wpAnyH_take (i := 6) rfl (by kernel_rfl) (by kernel_rfl) (by kernel_rfl) (fun _ _ _ h => h) (Or.inl ⟨by rfl, ?_⟩) (by assumption) ?_; rotate_left; (· (intro wq hq; (try dsimp only at hq); go_simp; first | done | with_reducible rfl)); simp only [Act.put, List.getElem_toArray, List.getElem_cons_zero, List.getElem_cons_succ, List.setIfInBounds_toArray, List.set_cons_zero, List.set_cons_succ])
                      refine wpAnyH_ready (rs := [7]) (by kernel_rfl) (by simp) ?_
                      refine AllReadyH.cons rfl (fun K hK => ?_) ?_
                      · go_simp
                        refine hK.out _ _ trivial (fun _ => ?_)
                        clear hK K
                        refine wpAnyH_done (by kernel_rfl) ?_ _
                        obtain ⟨z15, ez⟩ : ∃ z, World.setCell y15 ⟨w2.heap.size, 1, none⟩ (.slice lo15 (j + 1) cp15) = z := ⟨_, rfl⟩
                        rw [ez] at fin ⊢
                        clear ez hrun' t0 t1 f0 f1 hHeld
                        go_wp2
                        go_roundw
                        case rel => exact ⟨j + 1, by omega, by go_num, v4, _, fin⟩
                        case measure => simp [intOf]; omega
                      exact AllReadyH.nil
                    exact AllReadyH.nil
                  exact AllReadyH.nil
                exact AllReadyH.nil
              refine AllReadyH.cons rfl (fun K hK => ?_) ?_
              · rw [if_pos (by rfl)]
                go_simp
                refine Calls.mono (hof.out g2 _ _ gr0.out) ?_
                rintro e x1 ⟨xr, rfl, hxr, q⟩
                have hx := hid (row_base (B' := w2.heap.size + 1) hxr (Nat.succ_le_of_lt s0.out.1.1.lt))
                have s1 := hid (s0.out.kept q)
                have gr1 := hid (gr0.out.keptAll q)
                clear hxr q
                refine hK.out _ _ trivial (fun _ => ?_)
                clear hK K
                refine wpAnyH_ready (rs := [1, 4]) (by kernel_rfl) (by simp) ?_
                refine AllReadyH.cons rfl (fun K hK => ?_) ?_
                · obtain ⟨t0, t1, -, -⟩ := s1.out.1.1.factsL
                  go_simp
                  clear t0 t1
                  refine hK.out _ _ trivial (fun _ => ?_)
                  clear hK K
                  refine wpAnyH_ready (rs := [4]) (by kernel_rfl) (by simp) ?_
                  refine AllReadyH.cons rfl (fun K hK => ?_) ?_
                  · go_simp
                    obtain ⟨x2, ex⟩ : ∃ x, World.alloc x1 (.cells #[.int .i64 (s.size : Int), xr] 43) = x := ⟨_, rfl⟩
                    have q : Below x1.heap.size x1 x2 := by rw [← ex]; exact (Below.refl _ _).alloc (Nat.le_refl _) _
                    have hp := hid (show At x2 x1.heap.size #[.int .i64 (s.size : Int), xr] 43 by rw [← ex]; exact At.new x1 _ _)
                    rw [ex]
                    obtain ⟨p, ep⟩ : ∃ p, x1.heap.size = p := ⟨_, rfl⟩
                    have s2 := hid (s1.out.kept q)
                    have gr2 := hid (gr1.out.keptAll q)
                    replace hx := hid (row_keptAll hx.out q)
                    rw [ep] at hp ⊢
                    clear ex ep q
                    refine hK.out _ _ trivial (fun _ => ?_)
                    clear hK K
                    obtain ⟨nv15, y15, hrun, hl, hgr, hap⟩ := (s2.out.1.2.2.1).app hx.out ⟨p, 0, none⟩ 1 (by simpa [Addr.add] using hp.out.cell 0) (by simpa [Addr.add] using hp.out.cell 1) (by omega) (Nat.succ_le_of_lt s2.out.1.1.lt)
                    obtain ⟨lo15, cp15, rfl⟩ := hl.shape
                    have hrun' := hid hrun
                    have fin := hid (s2.out.pushu hl hgr hap)
                    have hb1 := (s2.out.1.1).grownT hgr (fun g e => ((s2.out.1.2.2.1).blk e).2) (by decide)
                    obtain ⟨t0, t1, f0, f1⟩ := hb1.factsL
                    clear hrun hl hgr hap hb1
                    refine wpAnyH_ready (rs := [5]) (by kernel_rfl) (by simp) ?_
                    refine AllReadyH.cons rfl (fun K hK => ?_) ?_
                    · rw [if_pos (by rfl)]
                      refine wp_append_rowB rfl rfl rfl hrun'.out ?_
                      refine hK.out _ _ trivial (fun _ => ?_)
                      clear hK K
                      (refine' wpAnyH_take (i := 6) rfl (by kernel_rfl) (by kernel_rfl) (by kernel_rfl) (fun _ _ _ h => h) (Or.inl ⟨by rfl, ?_⟩) (by assumption) ?_; rotate_left; (· (intro wq hq; (try dsimp only at hq); go_simp; first | done | with_reducible rfl)); simp only [Act.put, List.getElem_toArray, List.getElem_cons_zero, List.getElem_cons_succ, List.setIfInBounds_toArray, List.set_cons_zero, List.set_cons_succ])
                      refine wpAnyH_ready (rs := [7]) (by kernel_rfl) (by simp) ?_
                      refine AllReadyH.cons rfl (fun K hK => ?_) ?_
                      · go_simp
                        refine hK.out _ _ trivial (fun _ => ?_)
                        clear hK K
                        refine wpAnyH_done (by kernel_rfl) ?_ _
                        obtain ⟨z15, ez⟩ : ∃ z, World.setCell y15 ⟨w2.heap.size, 1, none⟩ (.slice lo15 (j + 1) cp15) = z := ⟨_, rfl⟩
                        rw [ez] at fin ⊢
                        clear ez hrun' t0 t1 f0 f1 hHeld
                        go_wp2
                        go_roundw
                        case rel => exact ⟨j + 1, by omega, by go_num, v4, _, fin⟩
                        case measure => simp [intOf]; omega
                      exact AllReadyH.nil
                    exact AllReadyH.nil
                  exact AllReadyH.nil
                refine AllReadyH.cons rfl (fun K hK => ?_) ?_
                · go_simp
                  obtain ⟨x2, ex⟩ : ∃ x, World.alloc x1 (.cells #[.int .i64 (s.size : Int), xr] 43) = x := ⟨_, rfl⟩
                  have q : Below x1.heap.size x1 x2 := by rw [← ex]; exact (Below.refl _ _).alloc (Nat.le_refl _) _
                  have hp := hid (show At x2 x1.heap.size #[.int .i64 (s.size : Int), xr] 43 by rw [← ex]; exact At.new x1 _ _)
                  rw [ex]
                  obtain ⟨p, ep⟩ : ∃ p, x1.heap.size = p := ⟨_, rfl⟩
                  have s2 := hid (s1.out.kept q)
                  have gr2 := hid (gr1.out.keptAll q)
                  replace hx := hid (row_keptAll hx.out q)
                  rw [ep] at hp ⊢
                  clear ex ep q
                  refine hK.out _ _ trivial (fun _ => ?_)
                  clear hK K
                  refine wpAnyH_ready (rs := [1]) (by kernel_rfl) (by simp) ?_
                  refine AllReadyH.cons rfl (fun K hK => ?_) ?_
                  · obtain ⟨t0, t1, -, -⟩ := s2.out.1.1.factsL
                    go_simp
                    clear t0 t1
                    refine hK.out _ _ trivial (fun _ => ?_)
                    clear hK K
                    obtain ⟨nv15, y15, hrun, hl, hgr, hap⟩ := (s2.out.1.2.2.1).app hx.out ⟨p, 0, none⟩ 1 (by simpa [Addr.add] using hp.out.cell 0) (by simpa [Addr.add] using hp.out.cell 1) (by omega) (Nat.succ_le_of_lt s2.out.1.1.lt)
                    obtain ⟨lo15, cp15, rfl⟩ := hl.shape
                    have hrun' := hid hrun
                    have fin := hid (s2.out.pushu hl hgr hap)
                    have hb1 := (s2.out.1.1).grownT hgr (fun g e => ((s2.out.1.2.2.1).blk e).2) (by decide)
                    obtain ⟨t0, t1, f0, f1⟩ := hb1.factsL
                    clear hrun hl hgr hap hb1
                    refine wpAnyH_ready (rs := [5]) (by kernel_rfl) (by simp) ?_
                    refine AllReadyH.cons rfl (fun K hK => ?_) ?_
                    · rw [if_pos (by rfl)]
                      refine wp_append_rowB rfl rfl rfl hrun'.out ?_
                      refine hK.out _ _ trivial (fun _ => ?_)
                      clear hK K
                      (refine' wpAnyH_take (i := 6) rfl (by kernel_rfl) (by kernel_rfl) (by kernel_rfl) (fun _ _ _ h => h) (Or.inl ⟨by rfl, ?_⟩) (by assumption) ?_; rotate_left; (· (intro wq hq; (try dsimp only at hq); go_simp; first | done | with_reducible rfl)); simp only [Act.put, List.getElem_toArray, List.getElem_cons_zero, List.getElem_cons_succ, List.setIfInBounds_toArray, List.set_cons_zero, List.set_cons_succ])
                      refine wpAnyH_ready (rs := [7]) (by kernel_rfl) (by simp) ?_
                      refine AllReadyH.cons rfl (fun K hK => ?_) ?_
                      · go_simp
                        refine hK.out _ _ trivial (fun _ => ?_)
                        clear hK K
                        refine wpAnyH_done (by kernel_rfl) ?_ _
                        obtain ⟨z15, ez⟩ : ∃ z, World.setCell y15 ⟨w2.heap.size, 1, none⟩ (.slice lo15 (j + 1) cp15) = z := ⟨_, rfl⟩
                        rw [ez] at fin ⊢
                        clear ez hrun' t0 t1 f0 f1 hHeld
                        go_wp2
                        go_roundw
                        case rel => exact ⟨j + 1, by omega, by go_num, v4, _, fin⟩
                        case measure => simp [intOf]; omega
                      exact AllReadyH.nil
                    exact AllReadyH.nil
                  exact AllReadyH.nil
                exact AllReadyH.nil
              exact AllReadyH.nil
    · have hjm : m = j := by omega
      subst hjm
      have n3 : decide ((m : Int) + 1 ≤ (m : Int)) = false := decide_eq_false (by omega)
      obtain ⟨lo1, cp1, rfl⟩ := hS.out.1.2.1.shape
      obtain ⟨lo2, cp2, rfl⟩ := hS.out.1.2.2.1.shape
      have hrr := hid (hr2.out.kept hS.out.2 hr2.out.lt)
      obtain ⟨t0, t1, f0, f1⟩ := hrr.out.factsL
      have hne : Hid (w.heap.size < w2.heap.size + 1) := Nat.lt_succ_of_lt hr2.out.lt
      clear hof hmk
      go_wp2
      refine ret_lvs2 rfl rfl hrr.out.twoL rfl ⟨lo1, cp1, lo2, cp2, rfl, ?_, ?_, ?_⟩
      · exact ((hS.out.1.2.1.set (p := ⟨w.heap.size, 0, none⟩) hne.out _).set (p := ⟨w.heap.size, 1, none⟩) hne.out _).rd2 (fun h => h.rd (fun k i => rowOf_lt _ _ _))
      · exact ((hS.out.1.2.2.1.set (p := ⟨w.heap.size, 0, none⟩) hne.out _).set (p := ⟨w.heap.size, 1, none⟩) hne.out _).rd2 (fun h => h.rd (fun k i => rowOf_lt _ _ _))
      · exact ((hb2.out.trans (hS.out.2.mono hb2.out.size)).setCell (p := ⟨w.heap.size, 0, none⟩) (Nat.le_refl _) _).setCell (p := ⟨w.heap.size, 1, none⟩) (Nat.le_refl _) _
end Go.Proofs.YtjccgiadmnogeaaDoor
