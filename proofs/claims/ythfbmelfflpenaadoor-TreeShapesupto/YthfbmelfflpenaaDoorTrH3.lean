/-
  quarryref17.plain of objects; all kinds together; quarryref17.formed.
-/
import Derived.Test.YthfbmelfflpenaaDoorTrH2
namespace Go.Proofs.YthfbmelfflpenaaDoor
open Go.RowKit Go.Shelf

/-- Are all names UTF-8? -/
def allB (ks : List ByteArray) : Bool := ks.all fun k => decide (badOf k = -1)
set_option maxRecDepth 10000 in
set_option maxHeartbeats 4000000 in
theorem plain_6 (b : Bool) (r t : ByteArray) (ks : List ByteArray) (ko : Option Addr) (kc : Nat) (vo : Option Addr) (M vc : Nat) (w : World) (hk : KeysAt w ko ks) (hks : ks.length ≤ capT) (hM : M ≤ capT) (hsz : Hid (∀ (i : Nat) (k : ByteArray), ks[i]? = some k → k.size ≤ 4194304)) :
    Calls Tryd.prog 31 #[.agg #[.int .i64 6, .bool b, .string r, .string t, .slice ko ks.length kc, .slice vo M vc]] w fun e w' => e = .returned (.bool (allB ks && (!b && ((r.toList == []) && ((t.toList == []) && decide (ks.length = M)))))) ∧ Below w.heap.size w w' := by
  obtain ⟨N, hN⟩ : ∃ N, Hid (ks.length = N) := ⟨_, rfl⟩
  obtain ⟨AB, hAB⟩ : ∃ AB, Hid (allB ks = AB) := ⟨_, rfl⟩
  rw [hN.out] at hks ⊢
  rw [hAB.out]
  unfold capT at hks hM
  have hNi : (N : Int) ≤ 140737488351232 := by omega
  have hMi : (M : Int) ≤ 140737488351232 := by omega
  have hk' := hid hk
  have A1 : Hid (At (w.alloc (.cells #[.int .i64 6, .bool b, .string r, .string t, .slice ko N kc, .slice vo M vc] 25)) w.heap.size #[.int .i64 6, .bool b, .string r, .string t, .slice ko N kc, .slice vo M vc] 25) := At.new _ _ _
  have B1 : Hid (Below w.heap.size w (w.alloc (.cells #[.int .i64 6, .bool b, .string r, .string t, .slice ko N kc, .slice vo M vc] 25))) := (Below.refl _ w).alloc (Nat.le_refl _) _
  clear hk
  go_enter Tryd.func31, Tryd.ntmps31
  go_upto_region 1 with fail
  generalize w.alloc (.cells #[.int .i64 6, .bool b, .string r, .string t, .slice ko N kc, .slice vo M vc] 25) = W at A1 B1 ⊢
  have d0 : W.cell? ⟨w.heap.size, 0, none⟩ = some (.int .i64 6) := A1.out.cell 0
  have d4 : W.cell? ⟨w.heap.size, 4, none⟩ = some (.slice ko N kc) := A1.out.cell 4
  have d5 : W.cell? ⟨w.heap.size, 5, none⟩ = some (.slice vo M vc) := A1.out.cell 5
  go_cut [3] from 7 to 16 (fun _ wx => wx = W)
  case first =>
    obtain ⟨x, hx⟩ : ∃ x, ((N : Int) == 0) = x := ⟨_, rfl⟩
    obtain ⟨y, hy⟩ : ∃ y, ((M : Int) == 0) = y := ⟨_, rfl⟩
    cases x
    · go_wp2
      go_meet
      case rel => rfl
    · cases y
      · go_wp2
        go_meet
        case rel => rfl
      · go_wp2
        go_meet
        case rel => rfl
  case rest =>
    rw [hcut]
    clear d4 d5
    go_wp2_with fail
    clear d0 hcut
    go_loopw [6] (fun ii wr => ∃ i : Nat, i ≤ N ∧ ii = .int .i64 (i : Int) ∧ Hid (∀ j k, j < i → ks[j]? = some k → badOf k = -1) ∧ Hid (At wr w.heap.size #[.int .i64 6, .bool b, .string r, .string t, .slice ko N kc, .slice vo M vc] 25) ∧ Hid (Below w.heap.size w wr)) (fun ii _ => N - (intOf ii).toNat)
    case atStart => exact ⟨0, Nat.zero_le _, rfl, fun j k h => by omega, A1, B1⟩
    case round =>
      obtain ⟨i, hi, rfl, hI, hA, hb⟩ := hrel
      have c4 := hA.out.cell 4
      simp only [List.getElem?_toArray, List.getElem?_cons_zero, List.getElem?_cons_succ] at c4
      by_cases hlt : i < N
      · have hli : (i : Int) < (N : Int) := by omega
        obtain ⟨sk, hsk⟩ : ∃ sk, Hid (ks[i]? = some sk) := ⟨_, List.getElem?_eq_getElem (by rw [hN.out]; exact hlt)⟩
        obtain ⟨-, gk, ok, rfl, hgk, cgk⟩ := hk'.out i sk hsk.out
        have s1 := (hb.out.cell (p := ⟨gk, ok + i, none⟩) hgk).trans cgk
        have ad1 : (⟨gk, ok, none⟩ : Addr).add i = ⟨gk, ok + i, none⟩ := by by_cases h : i = 0 <;> simp [Addr.add, h]
        obtain ⟨x, hx⟩ : ∃ x, Hid (badOf sk = x) := ⟨_, rfl⟩
        have hcl := hid (refBad_calls sk (hsz.out i sk hsk.out) wr)
        rw [hx.out] at hcl
        clear cgk
        go_wp2_with fail
        refine Calls.mono hcl.out ?_
        rintro e w1 ⟨rfl, hbb⟩
        have J1 := hid (hA.out.keptAll hbb)
        have Jb := hid (hb.out.trans (hbb.mono hb.out.size))
        clear hcl hbb hA hb s1 c4
        by_cases hx1 : x = -1
        · have e1 : (x != -1) = false := by simp [hx1]
          have hnx : Hid (∀ j k, j < i + 1 → ks[j]? = some k → badOf k = -1) := fun j k hj hk => by
            by_cases e : j = i
            · subst e
              rw [hsk.out] at hk
              injection hk with hk
              subst hk
              rw [hx.out]
              exact hx1
            · exact hI.out j k (by omega) hk
          subst hx1
          clear hI e1
          go_wp2
          go_roundw
          case rel => exact ⟨i + 1, by omega, by simp, hnx, J1, Jb⟩
          case measure => simp [intOf]; omega
        · have e1 : (x != -1) = true := by simp [hx1]
          have hfin : Hid (AB = false) := by
            show _ = _
            rw [← hAB.out]
            unfold allB
            rw [List.all_eq_false]
            obtain ⟨h1, h2⟩ := List.getElem?_eq_some_iff.mp hsk.out
            exact ⟨sk, by rw [← h2]; exact List.getElem_mem h1, by simp [hx.out, hx1]⟩
          go_wp2
          go_ret
          exact ⟨by rw [hfin.out]; rfl, Jb.out⟩
      · have hge : (N : Int) ≤ (i : Int) := by omega
        have hfin : Hid (AB = true) := by
          show _ = _
          rw [← hAB.out]
          unfold allB
          rw [List.all_eq_true]
          intro k hk
          obtain ⟨j, hj, he⟩ := List.getElem_of_mem hk
          have := hI.out j k (by rw [hN.out] at hj; omega) (by rw [List.getElem?_eq_getElem hj, he])
          simp [this]
        have c1 := hA.out.cell 1
        have c2 := hA.out.cell 2
        have c3 := hA.out.cell 3
        have c5 := hA.out.cell 5
        simp only [List.getElem?_toArray, List.getElem?_cons_zero, List.getElem?_cons_succ] at c1 c2 c3 c5
        clear hI hA hk' hsz
        obtain ⟨z, hz⟩ : ∃ z, Hid (((N : Int) == (M : Int)) = z) := ⟨_, rfl⟩
        have hz' : Hid (decide (N = M) = z) := by show _ = _; rw [← hz.out, Bool.eq_iff_iff]; simp; omega
        have hz2 := hz.out
        clear hz
        cases b <;> (go_wp2; all_goals go_ret; all_goals (refine ⟨?_, hb.out⟩); all_goals (rw [hfin.out, hz'.out]); all_goals (clear hfin hz'); all_goals (simp_all [Array.getD]; done))
end Go.Proofs.YthfbmelfflpenaaDoor
