/-
  ValidLimits: the greatest depth, one more, none; documents of as many levels, and of one more; one of very many.
-/
import Derived.Test.YtlckhiflhnlgpaaGreatDoorVaAwk
import Derived.Test.YtlckhiflhnlgpaaGreatDoorUtf8A
namespace Go.Proofs.YtlckhiflhnlgpaaGreatDoor
open Go.RowKit Go.Shelf

/-- Bytes in memory, by their places. -/
def u8C (K : Nat) (Y : Nat → Nat) : Array Value := ((List.range K).map fun j => Value.int .u8 ((Y j : Nat) : Int)).toArray
theorem u8C_size (K : Nat) (Y : Nat → Nat) : (u8C K Y).size = K := by simp [u8C]
theorem u8C_get {K j : Nat} (Y : Nat → Nat) (h : j < K) : (u8C K Y)[j]? = some (.int .u8 ((Y j : Nat) : Int)) := by simp [u8C, h]
theorem u8C_set (K j x : Nat) (Y : Nat → Nat) : (u8C K Y).setIfInBounds j (.int .u8 ((x : Nat) : Int)) = u8C K (fun i => if i = j then x else Y i) := by
  apply Array.ext_getElem?
  intro i
  by_cases hi : i < K
  · rw [u8C_get _ hi]
    by_cases hij : i = j
    · subst hij
      rw [Array.getElem?_setIfInBounds_self_of_lt (by rw [u8C_size]; exact hi)]
      simp
    · rw [Array.getElem?_setIfInBounds_ne (by omega), u8C_get _ hi]
      simp [hij]
  · rw [Array.getElem?_eq_none (by simp [u8C_size]; omega), Array.getElem?_eq_none (by rw [u8C_size]; omega)]
theorem u8C_congr {K : Nat} {Y Y' : Nat → Nat} (h : ∀ j, j < K → Y j = Y' j) : u8C K Y = u8C K Y' := by
  unfold u8C
  congr 1
  apply List.map_congr_left
  intro j hj
  rw [h j (by simpa using hj)]
theorem u8C_zero (K : Nat) : madeCells #[.int .u8 0] K = u8C K (fun _ => 0) := by
  apply Array.ext_getElem?
  intro i
  by_cases hi : i < K
  · rw [u8C_get _ hi]
    simp [madeCells, hi, Nat.mod_one]
  · rw [Array.getElem?_eq_none (by simp [madeCells]; omega), Array.getElem?_eq_none (by rw [u8C_size]; omega)]
theorem make_u8s (K : Nat) (hK : K ≤ 140737488351232) (u : World) : (Instr.makeSlice 39 (.int .i64 (K : Int)) (.int .i64 (K : Int))).run Tryz.prog u =
    .ok (.slice (some ⟨u.heap.size, 0, none⟩) K K) (u.alloc (.cells (u8C K (fun _ => 0)) 5)) := by
  obtain ⟨i0, hi, hz0, hz1, hz2⟩ := info_parts infoU8
  have h := run_make (P := Tryz.prog) u 39 5 i0 (.int .u8 0) Tryz.underlying39 hi hz0 .i64 .i64 (K : Int) (K : Int) (by omega) (Int.le_refl _) (by rw [hz2]; omega) (by omega)
  rw [Int.toNat_natCast] at h
  rw [h, ← u8C_zero]
  simp [hz1, Value.cells]
/-- So many brackets in one another. -/
def nestL (n : Nat) : List Nat := List.replicate n 91 ++ List.replicate n 93
theorem nest_succ (n : Nat) : nestL (n + 1) = [91] ++ nestL n ++ [93] := by
  unfold nestL
  rw [List.replicate_succ, List.replicate_succ']
  simp
theorem nest_doc : ∀ n : Nat, docM (nestL (n + 1)) ∧ mostM mc0 (nestL (n + 1)) = n + 1
  | 0 => ⟨⟨{ op := [], st := 5, nm := false, wd := [], lf := 0, lo := 0, hi := 0 }, rfl, rfl⟩, by decide⟩
  | n + 1 => by
    obtain ⟨h1, h2⟩ := nest_doc n
    obtain ⟨g1, g2⟩ := doc_list h1
    rw [nest_succ (n + 1)]
    exact ⟨g1, by rw [g2, h2]⟩
theorem nest_len (n : Nat) : (nestL n).length = 2 * n := by unfold nestL; simp; omega
theorem nest_byts (n : Nat) : byts (mkS (nestL n)) = nestL n := byts_mkS (by
  intro x hx
  unfold nestL at hx
  rw [List.mem_append, List.mem_replicate, List.mem_replicate] at hx
  omega)
theorem nest_take : ∀ j : Nat, ∃ m, takeM mc0 (List.replicate j 91) = some m ∧ m.op.length = j ∧ (m.st = 0 ∨ m.st = 1)
  | 0 => ⟨mc0, rfl, rfl, .inl rfl⟩
  | j + 1 => by
    obtain ⟨m, h1, h2, h3⟩ := nest_take j
    have hs : stepM m 91 = some { m with nm := false, op := m.op ++ [91], st := 1 } := by
      unfold stepM
      rw [if_neg (by omega), if_neg (by omega), if_neg (by omega), if_neg (by omega), if_neg (by decide), if_neg (by omega), if_neg (by omega)]
      have hv : valueM m 91 = some { m with nm := false, op := m.op ++ [91], st := 1 } := by unfold valueM; rw [if_pos rfl]
      rcases h3 with h | h
      · rw [if_pos h, hv]
      · rw [if_neg (by omega), if_neg (by omega), if_pos h, hv]
    refine ⟨{ m with nm := false, op := m.op ++ [91], st := 1 }, ?_, ?_, .inr rfl⟩
    · rw [List.replicate_succ', takeM_app, h1]
      show takeM m [91] = _
      rw [takeM_cons hs]
      rfl
    · simp [h2]
theorem nest_dep {n j : Nat} (hj : j ≤ n) : depS (mkS (nestL n)) j = j := by
  obtain ⟨m, h1, h2, -⟩ := nest_take j
  have h := (take_marks (isDep (mkS (nestL n))) j (by rw [mkS_size, nest_len]; omega) (m := m) (by
    rw [nest_byts]
    unfold nestL
    rw [List.take_append_of_le_length (by simpa using hj), List.take_replicate, Nat.min_eq_left hj]
    exact h1)).2.2
  omega
theorem nest_valid {n d : Nat} (hn : 1 ≤ n) (hd1 : 1 ≤ d) (hd2 : d ≤ 1024) (h : n ≤ d) : IsChk (mkS (nestL n)) (d : Int) 1 (2 * n) 0 := by
  obtain ⟨k, rfl⟩ : ∃ k, n = k + 1 := ⟨n - 1, by omega⟩
  obtain ⟨g1, g2⟩ := nest_doc k
  have := doc_chk (t := mkS (nestL (k + 1))) hd1 hd2 (by rw [nest_byts]; exact g1) (by rw [nest_byts, g2]; exact h)
  rw [mkS_size, nest_len] at this
  exact this
theorem nest_deep {n d : Nat} (hd1 : 1 ≤ d) (hd2 : d ≤ 1024) (h : d < n) : IsChk (mkS (nestL n)) (d : Int) 3 d 0 := by
  obtain ⟨k, rfl⟩ : ∃ k, n = k + 1 := ⟨n - 1, by omega⟩
  obtain ⟨⟨m, e, hw⟩, g2⟩ := nest_doc k
  refine .inr ⟨⟨by omega, by omega⟩, rfl, (mkS (nestL (k + 1))).size, m, ?_, .inr ⟨rfl, hw, .inl ⟨d, ?_, ?_, ?_, rfl, rfl⟩⟩⟩
  · rw [nest_byts, run_all _ _ _ e, mkS_size]
  · rw [mkS_size, nest_len]; omega
  · rw [nest_dep (by omega)]; omega
  · intro j hj
    rw [nest_dep (by omega)]
    omega
theorem nest_most {n : Nat} (hn : 1 ≤ n) : maxD (depS (mkS (nestL n))) (mkS (nestL n)).size = n := by
  obtain ⟨k, rfl⟩ : ∃ k, n = k + 1 := ⟨n - 1, by omega⟩
  obtain ⟨g1, g2⟩ := nest_doc k
  have := (doc_depth (isDep (mkS (nestL (k + 1)))) (by rw [nest_byts]; exact g1)).1
  rw [nest_byts, g2] at this
  omega
/-- What lies there behind i rounds. -/
def nestY (n i j : Nat) : Nat := if j < i then 91 else if 2 * n - i ≤ j then 93 else 0
theorem nest_cells (n : Nat) : ∀ j, j < 2 * n → (Lib.strCells (mkS (nestL n)))[j]? = some (.int .u8 ((nestY n n j : Nat) : Int)) := by
  intro j hj
  unfold Lib.strCells
  rw [List.getElem?_map]
  have h : (mkS (nestL n)).data.toList[j]? = some (UInt8.ofNat (nestY n n j)) := by
    unfold mkS
    simp only [List.getElem?_map]
    unfold nestL nestY
    by_cases hl : j < n
    · rw [if_pos hl, List.getElem?_append_left (by simpa using hl), List.getElem?_replicate_of_lt hl]
      rfl
    · rw [if_neg hl, if_pos (by omega), List.getElem?_append_right (by simp; omega), List.length_replicate, List.getElem?_replicate_of_lt (by omega)]
      rfl
  rw [h]
  unfold nestY
  repeat' split
  all_goals rfl

set_option maxRecDepth 10000 in
set_option maxHeartbeats 2000000 in
theorem nested_calls (n : Nat) (hn : n ≤ 60000) (w : World) : Calls Tryz.prog 10 #[.int .i64 (n : Int)] w fun e w' => e = .returned (.string (mkS (nestL n))) ∧ Below w.heap.size w w' := by
  obtain ⟨K, hK⟩ : ∃ K, Hid (2 * n = K) := ⟨_, rfl⟩
  have hKn : K ≤ 120000 := by have := hK.out; omega
  have hKi : (2 : Int) * (n : Int) = (K : Int) := by have := hK.out; omega
  have hmk := fun u => make_u8s K (by omega) u
  have hni : (n : Int) ≤ 60000 := by omega
  go_enter Tryz.func10, Tryz.ntmps10
  go_wp2
  go_loopw [4] (fun ii wr => ∃ i : Nat, i ≤ n ∧ ii = .int .i64 (i : Int) ∧ Hid (At wr w.heap.size (u8C K (nestY n i)) 5) ∧ Hid (Below w.heap.size w wr)) (fun ii _ => n - (intOf ii).toNat)
  case atStart =>
    refine ⟨0, Nat.zero_le _, rfl, hid ?_, hid (by repeat (first | with_reducible exact Below.refl _ _ | with_reducible refine Below.setCell ?_ (by first | (simp; done) | (simp; omega)) _ | with_reducible refine below_drewN ?_ _ | with_reducible refine Below.alloc ?_ (by first | (simp; done) | (simp; omega)) _ | with_reducible refine Below.drew ?_))⟩
    rw [show u8C K (nestY n 0) = u8C K (fun _ => 0) from u8C_congr (fun j hj => by unfold nestY; rw [if_neg (by omega), if_neg (by have := hK.out; omega)])]
    exact At.new w _ _
  case round =>
    obtain ⟨i, hi, rfl, hA, hb⟩ := hrel
    by_cases hlt : i < n
    · have hli : (i : Int) < (n : Int) := by omega
      have hik : (i : Int) < (K : Int) := by have := hK.out; omega
      obtain ⟨J, hJ⟩ : ∃ J, Hid (K - 1 - i = J) := ⟨_, rfl⟩
      have hJi : (K : Int) - 1 - (i : Int) = (J : Int) := by have := hJ.out; have := hK.out; omega
      have hJk : (J : Int) < (K : Int) := by have := hJ.out; have := hK.out; omega
      have hikn : i < K := by have := hK.out; omega
      have hJkn : J < K := by have := hJ.out; have := hK.out; omega
      have c0 := (hA.out.cell i).trans (u8C_get _ (by have := hK.out; omega))
      have f0 := hA.out.frozen i
      have hA1 : At (wr.setCell ⟨w.heap.size, i, none⟩ (.int .u8 91)) w.heap.size (u8C K (fun a => if a = i then 91 else nestY n i a)) 5 := by
        have h := hA.out.set i (.int .u8 ((91 : Nat) : Int))
        rw [u8C_set] at h
        exact h
      have c1 := (hA1.cell J).trans (u8C_get _ (by have := hJ.out; have := hK.out; omega))
      have f1 := hA1.frozen J
      have hA2 : At ((wr.setCell ⟨w.heap.size, i, none⟩ (.int .u8 91)).setCell ⟨w.heap.size, J, none⟩ (.int .u8 93)) w.heap.size (u8C K (fun a => if a = J then 93 else if a = i then 91 else nestY n i a)) 5 := by
        have h := hA1.set J (.int .u8 ((93 : Nat) : Int))
        rw [u8C_set] at h
        exact h
      have hA2' := hid hA2
      obtain ⟨y0, hy0⟩ : ∃ y, (nestY n i i : Nat) = y := ⟨_, rfl⟩
      rw [hy0] at c0
      obtain ⟨y1, hy1⟩ : ∃ y, (if J = i then 91 else nestY n i J : Nat) = y := ⟨_, rfl⟩
      rw [hy1] at c1
      clear hA1 hA2 hy0 hy1
      go_wp2
      go_roundw
      case rel =>
        refine ⟨i + 1, by omega, by simp, hid ?_, hid ?_⟩
        · have e : u8C K (fun a => if a = J then 93 else if a = i then 91 else nestY n i a) = u8C K (nestY n (i + 1)) := u8C_congr (fun j hj => by
            have := hJ.out
            have := hK.out
            unfold nestY
            by_cases h1 : j = J
            · rw [if_pos h1, if_neg (by omega), if_pos (by omega)]
            · rw [if_neg h1]
              by_cases h2 : j = i
              · rw [if_pos h2, if_pos (by omega)]
              · rw [if_neg h2]
                by_cases h3 : j < i
                · rw [if_pos h3, if_pos (by omega)]
                · rw [if_neg h3]
                  by_cases h4 : 2 * n - i ≤ j
                  · rw [if_pos h4, if_neg (by omega), if_pos (by omega)]
                  · rw [if_neg h4, if_neg (by omega), if_neg (by omega)])
          rw [← e]
          exact hA2'.out
        · exact (hb.out.setCell (p := ⟨w.heap.size, i, none⟩) (Nat.le_refl _) _).setCell (p := ⟨w.heap.size, J, none⟩) (Nat.le_refl _) _
      case measure => simp [intOf]; omega
    · obtain rfl : i = n := by omega
      have hcv : (convert 39 9 (.slice (some ⟨w.heap.size, 0, none⟩) K K)).run Tryz.prog wr = .ok (.string (mkS (nestL i))) wr := by
        have hsz : (mkS (nestL i)).size = K := by rw [mkS_size, nest_len]; exact hK.out
        have h := conv_row (S := mkS (nestL i)) (B := w.heap.size) (v := .slice (some ⟨w.heap.size, 0, none⟩) K K) (w := wr) (by
          rw [hsz]
          refine ⟨?_, .inr ⟨w.heap.size, K, _, rfl, Nat.le_refl _, hA.out, Nat.le_refl _, by unfold maxLen; omega, ?_, ?_⟩⟩
          · rw [Nat.mul_one, Lib.strCells, List.length_map, Array.length_toList]; exact hsz
          · rw [u8C_size, Nat.mul_one]
          · rw [Nat.mul_one]
            apply List.ext_getElem?
            intro j
            rw [List.getElem?_take]
            split
            · rename_i hj
              rw [nest_cells i j (by have := hK.out; omega), Array.getElem?_toList, u8C_get _ hj]
            · rename_i hj
              rw [List.getElem?_eq_none]
              rw [Lib.strCells, List.length_map, Array.length_toList]
              show (mkS (nestL i)).size ≤ j
              omega)
        exact h
      go_wp2
      go_ret
      exact ⟨rfl, hb.out⟩

theorem chk_none (d : Int) (hd : d < 1 ∨ 1024 < d) (s : ByteArray) : IsChk s d 0 0 2 := .inl ⟨hd, rfl, rfl, rfl⟩
set_option maxRecDepth 10000 in
set_option maxHeartbeats 4000000 in
theorem validLimits_walk (w : World) (h16 : Ok16 w) : Calls Tryz.prog 3 #[] w fun e w' => e = .returned (.bool true) ∧ Below w.heap.size w w' := by
  have hEq := eqVer
  have h16' := hid h16
  obtain ⟨S1, hS1⟩ : ∃ S, Hid (mkS (nestL 1024) = S) := ⟨_, rfl⟩
  obtain ⟨S2, hS2⟩ : ∃ S, Hid (mkS (nestL 1025) = S) := ⟨_, rfl⟩
  obtain ⟨S3, hS3⟩ : ∃ S, Hid (mkS (nestL 60000) = S) := ⟨_, rfl⟩
  have n1 : Hid (∀ u : World, Calls Tryz.prog 10 #[.int .i64 1024] u fun e w' => e = .returned (.string S1) ∧ Below u.heap.size u w') := fun u => by rw [← hS1.out]; exact nested_calls 1024 (by decide) u
  have n2 : Hid (∀ u : World, Calls Tryz.prog 10 #[.int .i64 1025] u fun e w' => e = .returned (.string S2) ∧ Below u.heap.size u w') := fun u => by rw [← hS2.out]; exact nested_calls 1025 (by decide) u
  have n3 : Hid (∀ u : World, Calls Tryz.prog 10 #[.int .i64 60000] u fun e w' => e = .returned (.string S3) ∧ Below u.heap.size u w') := fun u => by rw [← hS3.out]; exact nested_calls 60000 (by decide) u
  have z1 : Hid (S1.size ≤ 8388608) := by rw [← hS1.out, mkS_size, nest_len]; exact (by decide : 2 * 1024 ≤ 8388608)
  have z2 : Hid (S2.size ≤ 8388608) := by rw [← hS2.out, mkS_size, nest_len]; exact (by decide : 2 * 1025 ≤ 8388608)
  have z3 : Hid (S3.size ≤ 8388608) := by rw [← hS3.out, mkS_size, nest_len]; exact (by decide : 2 * 60000 ≤ 8388608)
  have k1 : Hid (IsChk S1 1024 1 2048 0) := by rw [← hS1.out]; exact nest_valid (n := 1024) (d := 1024) (by decide) (by decide) (by decide) (by decide)
  have k2 : Hid (IsChk S2 1024 3 1024 0) := by rw [← hS2.out]; exact nest_deep (n := 1025) (d := 1024) (by decide) (by decide) (by decide)
  have k3 : Hid (IsChk S3 1 3 1 0) := by rw [← hS3.out]; exact nest_deep (n := 60000) (d := 1) (by decide) (by decide) (by decide)
  have m3 : Hid (maxD (depS S3) S3.size = 60000) := by rw [← hS3.out]; exact nest_most (by decide)
  clear h16 hS1 hS2 hS3
  go_enter Tryz.func3, Tryz.ntmps3
  go_wp2_with fail
  refine Calls.mono (n1.out _) ?_
  rintro e v1 ⟨rfl, hb⟩
  have V1 := hid hb
  clear hb n1
  go_wp2_with fail
  refine Calls.mono (ck_calls S1 z1.out 1024 (by decide) _ (h16'.out.below V1.out)) ?_
  rintro e w1 ⟨C, A, E, rfl, hI, hb⟩
  obtain ⟨rfl, rfl, rfl⟩ := hI.uniq k1.out
  have A1 := hid (At.new w1 #[.int .i64 1, .int .i64 2048] 23)
  have B1 := hid ((V1.out.trans (hb.mono V1.out.size)).alloc (Nat.le_trans V1.out.size hb.size) (.cells #[.int .i64 1, .int .i64 2048] 23))
  obtain ⟨a1, ha1⟩ : ∃ x, w1.heap.size = x := ⟨_, rfl⟩
  obtain ⟨W1, hW1⟩ : ∃ x, w1.alloc (.cells #[.int .i64 1, .int .i64 2048] 23) = x := ⟨_, rfl⟩
  rw [hW1] at B1
  rw [hW1, ha1] at A1
  clear hI hb V1
  go_wp2_with fail
  refine Calls.mono (n2.out _) ?_
  clear hW1 ha1
  rintro e v2 ⟨rfl, hb⟩
  have V2 := hid (B1.out.trans (hb.mono B1.out.size))
  have A1b := hid (A1.out.keptAll hb)
  clear hb n2 A1 B1
  go_wp2_with fail
  refine Calls.mono (ck_calls S2 z2.out 1024 (by decide) _ (h16'.out.below V2.out)) ?_
  rintro e w2 ⟨C, A, E, rfl, hI, hb⟩
  obtain ⟨rfl, rfl, rfl⟩ := hI.uniq k2.out
  have A1c := hid ((A1b.out.keptAll hb).alloc (.cells #[.int .i64 3, .int .i64 1024] 23))
  have A2 := hid (At.new w2 #[.int .i64 3, .int .i64 1024] 23)
  have B2 := hid ((V2.out.trans (hb.mono V2.out.size)).alloc (Nat.le_trans V2.out.size hb.size) (.cells #[.int .i64 3, .int .i64 1024] 23))
  obtain ⟨a2, ha2⟩ : ∃ x, w2.heap.size = x := ⟨_, rfl⟩
  obtain ⟨W2, hW2⟩ : ∃ x, w2.alloc (.cells #[.int .i64 3, .int .i64 1024] 23) = x := ⟨_, rfl⟩
  rw [hW2] at B2 A1c
  rw [hW2, ha2] at A2
  clear hI hb V2 A1b
  go_wp2_with fail
  refine Calls.mono (ck_calls ⟨#[48]⟩ (by decide) 1025 (by decide) _ (h16'.out.below B2.out)) ?_
  clear hW2 ha2
  rintro e w3 ⟨C, A, E, rfl, hI, hb⟩
  obtain ⟨rfl, rfl, rfl⟩ := hI.uniq (chk_none 1025 (by decide) _)
  have A1d := hid ((A1c.out.keptAll hb).alloc (.cells #[.int .i64 0, .int .i64 0] 23))
  have A2d := hid ((A2.out.keptAll hb).alloc (.cells #[.int .i64 0, .int .i64 0] 23))
  have B3 := hid ((B2.out.trans (hb.mono B2.out.size)).alloc (Nat.le_trans B2.out.size hb.size) (.cells #[.int .i64 0, .int .i64 0] 23))
  clear hI hb B2 A1c A2
  go_wp2_with fail
  refine Calls.mono (ck_calls ⟨#[48]⟩ (by decide) 0 (by decide) _ (h16'.out.below B3.out)) ?_
  rintro e w4 ⟨C, A, E, rfl, hI, hb⟩
  obtain ⟨rfl, rfl, rfl⟩ := hI.uniq (chk_none 0 (by decide) _)
  have A1e := hid ((A1d.out.keptAll hb).alloc (.cells #[.int .i64 0, .int .i64 0] 23))
  have A2e := hid ((A2d.out.keptAll hb).alloc (.cells #[.int .i64 0, .int .i64 0] 23))
  have B4 := hid ((B3.out.trans (hb.mono B3.out.size)).alloc (Nat.le_trans B3.out.size hb.size) (.cells #[.int .i64 0, .int .i64 0] 23))
  clear hI hb B3 A1d A2d
  go_wp2_with fail
  refine Calls.mono (n3.out _) ?_
  rintro e v5 ⟨rfl, hb⟩
  have V5 := hid (B4.out.trans (hb.mono B4.out.size))
  have A1f := hid (A1e.out.keptAll hb)
  have A2f := hid (A2e.out.keptAll hb)
  clear hb B4 A1e A2e
  go_wp2_with fail
  refine Calls.mono (ck_calls S3 z3.out 1 (by decide) _ (h16'.out.below V5.out)) ?_
  rintro e w5 ⟨C, A, E, rfl, hI, hb⟩
  obtain ⟨rfl, rfl, rfl⟩ := hI.uniq k3.out
  have q1 := (A1f.out.keptAll hb).alloc (.cells #[.int .i64 3, .int .i64 1] 23)
  have q2 := (A2f.out.keptAll hb).alloc (.cells #[.int .i64 3, .int .i64 1] 23)
  have q3 := At.new w5 #[.int .i64 3, .int .i64 1] 23
  have B5 := hid ((V5.out.trans (hb.mono V5.out.size)).alloc (Nat.le_trans V5.out.size hb.size) (.cells #[.int .i64 3, .int .i64 1] 23))
  have c10 := q1.cell 0
  have c11 := q1.cell 1
  have c20 := q2.cell 0
  have c21 := q2.cell 1
  have c30 := q3.cell 0
  have c31 := q3.cell 1
  simp only [List.getElem?_toArray, List.getElem?_cons_zero, List.getElem?_cons_succ] at c10 c11 c20 c21 c30 c31
  clear hI hb V5 A1f A2f q1 q2 q3
  go_wp2_with fail
  refine Calls.mono (n3.out _) ?_
  rintro e v6 ⟨rfl, hb⟩
  have V6 := hid (B5.out.trans (hb.mono B5.out.size))
  clear hb c10 c11 c20 c21 c30 c31
  have hdp := hid (dp_calls S3 z3.out v6 (h16'.out.below V6.out))
  rw [m3.out] at hdp
  go_wp2_with fail
  refine Calls.mono hdp.out ?_
  rintro e v7 ⟨rfl, hb⟩
  have V7 := hid (V6.out.trans (hb.mono V6.out.size))
  clear hb hdp
  go_wp2
  go_ret
  exact ⟨rfl, V7.out⟩
end Go.Proofs.YtlckhiflhnlgpaaGreatDoor
