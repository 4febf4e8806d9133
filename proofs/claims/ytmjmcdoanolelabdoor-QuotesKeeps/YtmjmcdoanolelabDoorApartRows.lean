/-
  What quarrykit.ApartRows answers of rows that lie apart: true.
-/
import Derived.Test.YtmjmcdoanolelabDoorApartWords
namespace Go.Proofs.YtmjmcdoanolelabDoor
open Go.RowKit

theorem wordsRow_open {W : World} {base n : Nat} {v : Value} {L : List Value} (h : W.ownsRow base 23 1 v n L) (hn : 0 < n) : ∃ g cap cur, v = .slice (some ⟨g, 0, none⟩) n cap ∧ base ≤ g ∧ At W g cur 23 ∧ ∀ (i : Nat) (u : Value), L[i]? = some u → cur[i]? = some u := by
  rcases h.2 with ⟨_, h0⟩ | ⟨g, cap, cur, rfl, hb, hgb, h3, h4, h5, h6⟩
  · omega
  · refine ⟨g, cap, cur, rfl, hb, hgb, fun i u hu => ?_⟩
    rw [← h6] at hu
    rw [List.getElem?_take] at hu
    split at hu
    · rwa [Array.getElem?_toList] at hu
    · cases hu

set_option maxRecDepth 10000 in
set_option maxHeartbeats 4000000 in
theorem apartR_calls (w : World) (GL n cap B : Nat) (rs : List RowX) (F : Nat → Nat → Nat) (hn : rs.length = n) (h0 : 0 < n) (hn2 : n ≤ 100) (hr : ∀ x ∈ rs, x.r ≤ 17592186044351) (hBw : B ≤ w.heap.size) (hG : ∀ (k : Nat) (x : RowX), rs[k]? = some x → w.cell? ⟨GL, k * 2 + 1, none⟩ = some (slX x)) (hR : RowsX w B rs F) :
    Calls Tryd.prog 10 #[.slice (some ⟨GL, 0, none⟩) n cap] w fun e w' => e = .returned (.bool true) ∧ ApartK B rs w w' := by
  have hR' := hid hR
  have hn' := hid hn
  have hr' := hid hr
  have hBw' := hid hBw
  have hG' := hid hG
  clear hR hn hr hBw hG
  go_enter Tryd.func10, Tryd.ntmps10
  go_wp2
  go_loopw [3, 4] (fun v ii wr => ∃ i : Nat, i ≤ n ∧ ii = .int .i64 (i : Int) ∧ Hid (wr.ownsRow w.heap.size 23 1 v i ((rs.take i).map slX)) ∧ Hid (Below w.heap.size w wr)) (fun _ ii _ => n - (intOf ii).toNat)
  case atStart => exact ⟨0, Nat.zero_le _, rfl, hid (by simpa using World.ownsRow_nil w w.heap.size 23 1), hid (Below.refl _ _)⟩
  case round =>
    obtain ⟨i, hin, rfl, hv, hB⟩ := hrel
    by_cases hlt : i < n
    · have hii : (i : Int) < (n : Int) := by omega
      obtain ⟨x, hx⟩ : ∃ x, rs[i]? = some x := ⟨_, List.getElem?_eq_getElem (by have := hn'.out; omega)⟩
      have c0 := hG'.out i x hx
      have c1 := (hB.out.cell (p := ⟨GL, i * 2 + 1, none⟩) (cell_block c0)).trans c0
      have c2 : wr.cell? ⟨GL, i * 2 + 1, none⟩ = some (.slice (x.g.map fun g => ⟨g, 0, none⟩) x.r x.r) := c1
      have hx' := hid hx
      have hz := hid hB.out.size
      have hin' : i < 1000000 := by omega
      clear c0 c1 hx
      go_wp2_with (first
        | (at_builtin; refine wpList_appendS rfl _ _ rfl w.heap.size u3 (slX x) i ((rs.take i).map slX) rfl (World.ownsRow.alloc hv.out _) ⟨wr.heap.size, 0, none⟩ 1 rfl ((At.new wr #[slX x] 23).cell 0) rfl hin' (by rw [World.size_alloc]; have := hz.out; omega) ?_)
        | go_in)
      intro v' w' hown' hgr' _
      have hb'' := hid ((hB.out.alloc hz.out (.cells #[slX x] 23)).grown hgr' (by rw [World.size_alloc]; have := hz.out; omega) (fun b e => (hv.out.lt b e).1))
      have hown2 : Hid (w'.ownsRow w.heap.size 23 1 v' (i + 1) ((rs.take (i + 1)).map slX)) := by
        rw [List.take_add_one, hx'.out]
        refine hid ?_
        simpa using hown'
      clear hown' hgr'
      go_wp2
      go_roundw
      case rel => exact ⟨i + 1, by omega, by simp, hown2, hb''⟩
      case measure => simp [intOf]; omega
    · obtain rfl : i = n := by omega
      have hall : (rs.take i).map slX = rs.map slX := by rw [List.take_of_length_le (by have := hn'.out; omega)]
      rw [hall] at hv
      obtain ⟨G, cg, cur, rfl, hGb, hGa, hGc⟩ := wordsRow_open hv.out h0
      have hGa' := hid hGa
      have hGc' := hid hGc
      have hGb' := hid hGb
      clear hGa hGc hGb hv
      go_wp2_with fail
      refine Calls.mono (apartW_calls wr G i cg B rs F cur 23 hn'.out hn2 hr'.out (Nat.le_trans hBw'.out hB.out.size) hGa'.out (fun k x hk e => by have h1 := hR'.out.lt hk e; have h2 := hGb'.out; omega) (fun k x hk => hGc'.out k _ (by rw [List.getElem?_map, hk]; rfl)) (hR'.out.kept hB.out)) ?_
      rintro e w' ⟨rfl, hA⟩
      have hA' : Hid (ApartK B rs w w') := ⟨(hB.out.mono hBw'.out).trans hA.1, fun b cs t h1 h2 => hA.2 b cs t (h1.keptAll hB.out) h2⟩
      clear hA
      go_wp2
      go_ret
      exact ⟨rfl, hA'.out⟩
end Go.Proofs.YtmjmcdoanolelabDoor
