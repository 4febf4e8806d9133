/-
  RefVa13, RefVa14, one behind the other.
-/
import Derived.Test.YtlckhiflhnlgpaaGreatDoorRefVaG
import Derived.Laws.Concat
/- How the reference brings a text to its end. -/
namespace Go.Proofs.YtlckhiflhnlgpaaGreatDoor
open Go.RowKit Go.Shelf

/-- The i-th byte that has to come. -/
def tB (m : Mc) (i : Nat) : Nat := if m.st = 8 then 48 else if i = 0 then m.lo else 128
/-- The first n of them. -/
def tL (m : Mc) (n : Nat) : List Nat := (List.range n).map (tB m)
theorem tL_succ (m : Mc) (n : Nat) : tL m (n + 1) = tL m n ++ [tB m n] := by simp [tL, List.range_succ]
theorem mkS_appV (a b : List Nat) : mkS (a ++ b) = mkS a ++ mkS b := by
  unfold mkS
  apply ByteArray.ext
  simp
theorem tL_8 (m : Mc) (h : m.st = 8) (n : Nat) : tL m n = List.replicate n 48 := by
  induction n with
  | zero => rfl
  | succ n ih => rw [tL_succ, ih, List.replicate_succ']; simp [tB, h]
theorem tL_6 (m : Mc) (h : m.st ≠ 8) (n : Nat) : tL m (n + 1) = m.lo :: List.replicate n 128 := by
  induction n with
  | zero => simp [tL, tB, h]
  | succ n ih => rw [tL_succ, ih, List.replicate_succ']; simp [tB, h]
theorem text_E (m : Mc) : textE m = ((if m.st = 7 then [110] else []) ++ tL m m.lf) ++ (if m.nm = true then [34, 58, 48] else [34]) := by
  unfold textE
  congr 2
  by_cases h8 : m.st = 8
  · rw [if_pos h8, tL_8 m h8]
  · rw [if_neg h8]
    by_cases h0 : m.lf = 0
    · rw [if_pos h0, h0]; rfl
    · rw [if_neg h0]
      obtain ⟨n, hn⟩ : ∃ n, m.lf = n + 1 := ⟨m.lf - 1, by omega⟩
      rw [hn, tL_6 m h8, Nat.add_sub_cancel]
theorem tB_lt {m : Mc} (hlo : m.lo < 256) (i : Nat) : tB m i < 256 := by
  unfold tB
  repeat' split
  all_goals omega
theorem tL_lt {m : Mc} (hlo : m.lo < 256) (n : Nat) : ∀ x ∈ tL m n, x < 256 := by
  intro x hx
  obtain ⟨i, _, rfl⟩ := List.mem_map.1 hx
  exact tB_lt hlo i


set_option maxRecDepth 10000 in
set_option maxHeartbeats 2000000 in
theorem text16_6 (b : Nat) (t : TypeId) (v : Value) (wd : ByteArray) (m : Mc) (w : World) (hA : At w b (mcC v wd m) t) (hs : m.st = 6) (hlf : m.lf ≤ 4) (hlo : m.lo < 256) :
    Calls Tryz.prog 32 #[.pointer (some ⟨b, 0, none⟩)] w fun e w' => e = .returned (.string (mkS (textE m))) ∧ Below w.heap.size w w' := by
  have hA' := hid hA
  have hst := hid hs
  have hte : Hid (textE m = tL m m.lf ++ (if m.nm = true then [34, 58, 48] else [34])) := hid (by
    rw [text_E m, if_neg (by omega), List.nil_append])
  obtain ⟨Z, hZ⟩ : ∃ Z, Hid (mkS (textE m) = Z) := ⟨_, rfl⟩
  rw [hZ.out]
  obtain ⟨L, hL⟩ : ∃ L : Nat, Hid (m.lf = L) := ⟨_, rfl⟩
  have hL4 : L ≤ 4 := by rw [← hL.out]; exact hlf
  have hlt256 := hid (tL_lt hlo L)
  have hlen : Hid ((tL m L).length ≤ 16) := hid (by simp [tL]; omega)
  have c1 : w.cell? ⟨b, 1, none⟩ = some (.int .i64 6) := by rw [(mcAt_of hA).c1, hs]; rfl
  obtain ⟨i0, hi0, hz0', hz1, hz2⟩ := info_parts infoU8
  have q0 := hid hz0'
  have q1 := hid hz1
  have q2 := hid hz2
  have q3 := hid hi0
  clear hz0' hz1 hz2 hi0
  clear hA hs hlf
  go_enter Tryz.func32, Tryz.ntmps32
  go_wp2
  go_loopw [3, 4] (fun vv ii wr => ∃ i : Nat, i ≤ L ∧ ii = .int .i64 (i : Int) ∧ Hid (wr.ownsRow w.heap.size 5 1 vv (tL m i).length (opC (tL m i))) ∧ Hid (Below w.heap.size w wr)) (fun _ ii _ => L - (intOf ii).toNat)
  case atStart => exact ⟨0, Nat.zero_le _, rfl, World.ownsRow_nil _ _ _ _, Below.refl _ _⟩
  case round =>
    clear c1
    obtain ⟨i, hi, rfl, hv, hb⟩ := hrel
    have hAr := hA'.out.keptAll hb.out
    have c1 : wr.cell? ⟨b, 1, none⟩ = some (.int .i64 6) := by rw [(mcAt_of hAr).c1, hst.out]; rfl
    have c4 : wr.cell? ⟨b, 4, none⟩ = some (.int .i64 (L : Int)) := by rw [(mcAt_of hAr).c4, hL.out]
    have c5 := (mcAt_of hAr).c5
    have hlnI : (tL m i).length ≤ 4 := by simp [tL]; omega
    clear hAr
    by_cases hlt : i < L
    · have hli : (i : Int) < (L : Int) := by omega
      by_cases hi0 : i = 0
      · subst hi0
        have e8 : tB m 0 = m.lo := by unfold tB; rw [if_neg (by have := hst.out; omega), if_pos rfl]
        have hloi : (m.lo : Int) < 256 := by omega
        go_wp2_with (first
          | (at_builtin; refine wpList_append_own _ rfl _ _ 39 rfl w.heap.size 5 i0 (.int .u8 0) 1 1 Tryz.underlying39 q3.out q0.out q1.out q2.out rfl (by decide) _ _ _ rfl (World.ownsRow.alloc hv.out _) ⟨wr.heap.size, 0, none⟩ 1 1 [.int .u8 ((m.lo : Nat) : Int)] rfl rfl (fun j u hj => by match j, hj with | 0, hj => simp at hj; subst hj; simp [Addr.add]) (fun u hu => by simp at hu; subst hu; rfl) (by unfold maxLen; omega) (by omega) (by rw [World.size_alloc]; have := hb.out.size; omega) ?_)
          | go_in)
        intro v' w' hown1 hgrow _
        have hown2 : Hid (w'.ownsRow w.heap.size 5 1 v' (tL m (0 + 1)).length (opC (tL m (0 + 1)))) := hid (by
          rw [tL_succ, opC_app, List.length_append, show tB m 0 = m.lo from e8]
          exact hown1)
        have hb4 := hid ((hb.out.alloc hb.out.size (.cells #[.int .u8 ((m.lo : Nat) : Int)] 5)).grown hgrow (by rw [World.size_alloc]; have := hb.out.size; omega) (fun k e => (hv.out.lt k e).1))
        clear hown1 hgrow c1 c4 c5
        go_wp2
        go_roundw
        case rel => exact ⟨0 + 1, by omega, by simp, hown2, hb4⟩
        case measure => simp [intOf]; omega
      · have gi : ((i : Int) == 0) = false := by simp; omega
        have e8 : tB m i = 128 := by unfold tB; rw [if_neg (by have := hst.out; omega), if_neg hi0]
        go_wp2_with (first
          | (at_builtin; refine wpList_append_own _ rfl _ _ 39 rfl w.heap.size 5 i0 (.int .u8 0) 1 1 Tryz.underlying39 q3.out q0.out q1.out q2.out rfl (by decide) _ _ _ rfl (World.ownsRow.alloc hv.out _) ⟨wr.heap.size, 0, none⟩ 1 1 [.int .u8 128] rfl rfl (fun j u hj => by match j, hj with | 0, hj => simp at hj; subst hj; simp [Addr.add]) (fun u hu => by simp at hu; subst hu; rfl) (by unfold maxLen; omega) (by omega) (by rw [World.size_alloc]; have := hb.out.size; omega) ?_)
          | go_in)
        intro v' w' hown1 hgrow _
        have hown2 : Hid (w'.ownsRow w.heap.size 5 1 v' (tL m (i + 1)).length (opC (tL m (i + 1)))) := hid (by
          rw [tL_succ, opC_app, List.length_append, show tB m i = 128 from e8]
          exact hown1)
        have hb4 := hid ((hb.out.alloc hb.out.size (.cells #[.int .u8 128] 5)).grown hgrow (by rw [World.size_alloc]; have := hb.out.size; omega) (fun k e => (hv.out.lt k e).1))
        clear hown1 hgrow c1 c4 c5
        go_wp2
        go_roundw
        case rel => exact ⟨i + 1, by omega, by simp, hown2, hb4⟩
        case measure => simp [intOf]; omega
    · obtain rfl : i = L := by omega
      have hAr := hA'.out.keptAll hb.out
      have hl256 : ∀ x ∈ tL m i, x < 256 := hlt256.out
      have hcv : (convert 39 9 u3).run Tryz.prog wr = .ok (.string (mkS (tL m i))) wr := by
        refine conv_row (B := w.heap.size) ?_
        rw [strCells_mkS hl256, mkS_size]
        exact hv.out
      obtain ⟨Y, hY⟩ : ∃ Y, mkS (tL m i) = Y := ⟨_, rfl⟩
      rw [hY] at hcv
      have hYs : Y.size ≤ 16 := by rw [← hY, mkS_size]; exact hlen.out
      have hY' := hid hY
      clear hY hl256
      cases hnm : m.nm with
      | true =>
        have c2 : wr.cell? ⟨b, 2, none⟩ = some (.bool true) := by rw [(mcAt_of hAr).c2, hnm]
        clear hAr
        go_wp2
        go_ret
        refine ⟨?_, hb.out⟩
        rw [← hZ.out, hte.out, hL.out, if_pos hnm, mkS_appV, hY'.out]
        rfl
      | false =>
        have c2 : wr.cell? ⟨b, 2, none⟩ = some (.bool false) := by rw [(mcAt_of hAr).c2, hnm]
        clear hAr
        go_wp2
        go_ret
        refine ⟨?_, hb.out⟩
        rw [← hZ.out, hte.out, hL.out, if_neg (by rw [hnm]; decide), mkS_appV, hY'.out]
        rfl

set_option maxRecDepth 10000 in
set_option maxHeartbeats 2000000 in
theorem text16_8 (b : Nat) (t : TypeId) (v : Value) (wd : ByteArray) (m : Mc) (w : World) (hA : At w b (mcC v wd m) t) (hs : m.st = 8) (hlf : m.lf ≤ 4) (hlo : m.lo < 256) :
    Calls Tryz.prog 32 #[.pointer (some ⟨b, 0, none⟩)] w fun e w' => e = .returned (.string (mkS (textE m))) ∧ Below w.heap.size w w' := by
  have hA' := hid hA
  have hst := hid hs
  have hte : Hid (textE m = tL m m.lf ++ (if m.nm = true then [34, 58, 48] else [34])) := hid (by
    rw [text_E m, if_neg (by omega), List.nil_append])
  obtain ⟨Z, hZ⟩ : ∃ Z, Hid (mkS (textE m) = Z) := ⟨_, rfl⟩
  rw [hZ.out]
  obtain ⟨L, hL⟩ : ∃ L : Nat, Hid (m.lf = L) := ⟨_, rfl⟩
  have hL4 : L ≤ 4 := by rw [← hL.out]; exact hlf
  have hlt256 := hid (tL_lt hlo L)
  have hlen : Hid ((tL m L).length ≤ 16) := hid (by simp [tL]; omega)
  have c1 : w.cell? ⟨b, 1, none⟩ = some (.int .i64 8) := by rw [(mcAt_of hA).c1, hs]; rfl
  obtain ⟨i0, hi0, hz0', hz1, hz2⟩ := info_parts infoU8
  have q0 := hid hz0'
  have q1 := hid hz1
  have q2 := hid hz2
  have q3 := hid hi0
  clear hz0' hz1 hz2 hi0
  clear hA hs hlf
  go_enter Tryz.func32, Tryz.ntmps32
  go_wp2
  go_loopw [3, 4] (fun vv ii wr => ∃ i : Nat, i ≤ L ∧ ii = .int .i64 (i : Int) ∧ Hid (wr.ownsRow w.heap.size 5 1 vv (tL m i).length (opC (tL m i))) ∧ Hid (Below w.heap.size w wr)) (fun _ ii _ => L - (intOf ii).toNat)
  case atStart => exact ⟨0, Nat.zero_le _, rfl, World.ownsRow_nil _ _ _ _, Below.refl _ _⟩
  case round =>
    clear c1
    obtain ⟨i, hi, rfl, hv, hb⟩ := hrel
    have hAr := hA'.out.keptAll hb.out
    have c1 : wr.cell? ⟨b, 1, none⟩ = some (.int .i64 8) := by rw [(mcAt_of hAr).c1, hst.out]; rfl
    have c4 : wr.cell? ⟨b, 4, none⟩ = some (.int .i64 (L : Int)) := by rw [(mcAt_of hAr).c4, hL.out]
    have c5 := (mcAt_of hAr).c5
    have hlnI : (tL m i).length ≤ 4 := by simp [tL]; omega
    clear hAr
    by_cases hlt : i < L
    · have hli : (i : Int) < (L : Int) := by omega
      have e8 : tB m i = 48 := by unfold tB; rw [if_pos hst.out]
      go_wp2_with (first
        | (at_builtin; refine wpList_append_own _ rfl _ _ 39 rfl w.heap.size 5 i0 (.int .u8 0) 1 1 Tryz.underlying39 q3.out q0.out q1.out q2.out rfl (by decide) _ _ _ rfl (World.ownsRow.alloc hv.out _) ⟨wr.heap.size, 0, none⟩ 1 1 [.int .u8 48] rfl rfl (fun j u hj => by match j, hj with | 0, hj => simp at hj; subst hj; simp [Addr.add]) (fun u hu => by simp at hu; subst hu; rfl) (by unfold maxLen; omega) (by omega) (by rw [World.size_alloc]; have := hb.out.size; omega) ?_)
        | go_in)
      intro v' w' hown1 hgrow _
      have hown2 : Hid (w'.ownsRow w.heap.size 5 1 v' (tL m (i + 1)).length (opC (tL m (i + 1)))) := hid (by
        rw [tL_succ, opC_app, List.length_append, show tB m i = 48 from e8]
        exact hown1)
      have hb4 := hid ((hb.out.alloc hb.out.size (.cells #[.int .u8 48] 5)).grown hgrow (by rw [World.size_alloc]; have := hb.out.size; omega) (fun k e => (hv.out.lt k e).1))
      clear hown1 hgrow c1 c4 c5
      go_wp2
      go_roundw
      case rel => exact ⟨i + 1, by omega, by simp, hown2, hb4⟩
      case measure => simp [intOf]; omega
    · obtain rfl : i = L := by omega
      have hAr := hA'.out.keptAll hb.out
      have hl256 : ∀ x ∈ tL m i, x < 256 := hlt256.out
      have hcv : (convert 39 9 u3).run Tryz.prog wr = .ok (.string (mkS (tL m i))) wr := by
        refine conv_row (B := w.heap.size) ?_
        rw [strCells_mkS hl256, mkS_size]
        exact hv.out
      obtain ⟨Y, hY⟩ : ∃ Y, mkS (tL m i) = Y := ⟨_, rfl⟩
      rw [hY] at hcv
      have hYs : Y.size ≤ 16 := by rw [← hY, mkS_size]; exact hlen.out
      have hY' := hid hY
      clear hY hl256
      cases hnm : m.nm with
      | true =>
        have c2 : wr.cell? ⟨b, 2, none⟩ = some (.bool true) := by rw [(mcAt_of hAr).c2, hnm]
        clear hAr
        go_wp2
        go_ret
        refine ⟨?_, hb.out⟩
        rw [← hZ.out, hte.out, hL.out, if_pos hnm, mkS_appV, hY'.out]
        rfl
      | false =>
        have c2 : wr.cell? ⟨b, 2, none⟩ = some (.bool false) := by rw [(mcAt_of hAr).c2, hnm]
        clear hAr
        go_wp2
        go_ret
        refine ⟨?_, hb.out⟩
        rw [← hZ.out, hte.out, hL.out, if_neg (by rw [hnm]; decide), mkS_appV, hY'.out]
        rfl

set_option maxRecDepth 10000 in
set_option maxHeartbeats 2000000 in
theorem text16_7 (b : Nat) (t : TypeId) (v : Value) (wd : ByteArray) (m : Mc) (w : World) (hA : At w b (mcC v wd m) t) (hs : m.st = 7) (hlf : m.lf = 0) :
    Calls Tryz.prog 32 #[.pointer (some ⟨b, 0, none⟩)] w fun e w' => e = .returned (.string (mkS (textE m))) ∧ Below w.heap.size w w' := by
  have hA' := hid hA
  have hte : Hid (textE m = [110] ++ (if m.nm = true then [34, 58, 48] else [34])) := hid (by
    rw [text_E m, if_pos hs, hlf]
    rfl)
  obtain ⟨Z, hZ⟩ : ∃ Z, Hid (mkS (textE m) = Z) := ⟨_, rfl⟩
  rw [hZ.out]
  have hlt256 : Hid (∀ x ∈ [110], x < 256) := hid (by simp)
  have hlen : Hid (([110] : List Nat).length ≤ 16) := hid (by simp)
  have hL : Hid (m.lf = m.lf) := hid rfl
  have hrow0 := hid (World.ownsRow_nil w w.heap.size 5 1)
  have c1 : w.cell? ⟨b, 1, none⟩ = some (.int .i64 7) := by rw [(mcAt_of hA).c1, hs]; rfl
  have hlf' := hid hlf
  obtain ⟨i0, hi0, hz0', hz1, hz2⟩ := info_parts infoU8
  have q0 := hid hz0'
  have q1 := hid hz1
  have q2 := hid hz2
  have q3 := hid hi0
  clear hz0' hz1 hz2 hi0
  clear hA hs hlf
  go_enter Tryz.func32, Tryz.ntmps32
  go_wp2_with (first
    | (at_builtin; refine wpList_append_own _ rfl _ _ 39 rfl w.heap.size 5 i0 (.int .u8 0) 1 1 Tryz.underlying39 q3.out q0.out q1.out q2.out rfl (by decide) _ _ _ rfl (World.ownsRow.alloc hrow0.out _) ⟨w.heap.size, 0, none⟩ 1 1 [.int .u8 110] rfl rfl (fun j u hj => by match j, hj with | 0, hj => simp at hj; subst hj; simp [Addr.add]) (fun u hu => by simp at hu; subst hu; rfl) (by unfold maxLen; omega) (by omega) (by rw [World.size_alloc]; have := (Nat.le_refl w.heap.size); omega) ?_)
    | go_in)
  intro v' w' hown1 hgrow _
  have hb : Hid (Below w.heap.size w w') := hid (((Below.refl w.heap.size w).alloc (Nat.le_refl _) (.cells #[.int .u8 110] 5)).grown hgrow (by rw [World.size_alloc]; omega) (fun k e => by cases e))
  have hv : Hid (w'.ownsRow w.heap.size 5 1 v' [110].length (opC [110])) := hid hown1
  clear hown1 hgrow c1
  have hAr := hA'.out.keptAll hb.out
  have c4 : w'.cell? ⟨b, 4, none⟩ = some (.int .i64 0) := by rw [(mcAt_of hAr).c4, hlf'.out]; rfl
  clear hAr
  go_wp2
  go_loopw [3, 4] (fun vv ii wr => vv = v' ∧ ii = .int .i64 0 ∧ wr = w') (fun _ _ _ => 0)
  case atStart => exact ⟨rfl, rfl, rfl⟩
  case round =>
    obtain ⟨rfl, rfl, rfl⟩ := hrel
    have hAr := hA'.out.keptAll hb.out
    have hl256 : ∀ x ∈ [110], x < 256 := hlt256.out
    have hcv : (convert 39 9 u3).run Tryz.prog wr = .ok (.string (mkS ([110]))) wr := by
      refine conv_row (B := w.heap.size) ?_
      rw [strCells_mkS hl256, mkS_size]
      exact hv.out
    obtain ⟨Y, hY⟩ : ∃ Y, mkS ([110]) = Y := ⟨_, rfl⟩
    rw [hY] at hcv
    have hYs : Y.size ≤ 16 := by rw [← hY, mkS_size]; exact hlen.out
    have hY' := hid hY
    clear hY hl256
    cases hnm : m.nm with
    | true =>
      have c2 : wr.cell? ⟨b, 2, none⟩ = some (.bool true) := by rw [(mcAt_of hAr).c2, hnm]
      clear hAr
      go_wp2
      go_ret
      refine ⟨?_, hb.out⟩
      rw [← hZ.out, hte.out, if_pos hnm, mkS_appV, hY'.out]
      rfl
    | false =>
      have c2 : wr.cell? ⟨b, 2, none⟩ = some (.bool false) := by rw [(mcAt_of hAr).c2, hnm]
      clear hAr
      go_wp2
      go_ret
      refine ⟨?_, hb.out⟩
      rw [← hZ.out, hte.out, if_neg (by rw [hnm]; decide), mkS_appV, hY'.out]
      rfl

end Go.Proofs.YtlckhiflhnlgpaaGreatDoor

/- How the reference brings a beginning of a document to its end. -/
namespace Go.Proofs.YtlckhiflhnlgpaaGreatDoor
open Go.RowKit Go.Shelf

theorem shuts_cons (a : Nat) (l : List Nat) : shutsL (a :: l) = shutsL l ++ [a + 2] := by simp [shutsL]
theorem shuts_len (l : List Nat) : (shutsL l).length = l.length := by simp [shutsL]
theorem lowB_lt (c : Nat) : lowB c < 256 := by
  unfold lowB
  repeat' split
  all_goals omega
theorem char_lo {m k : Mc} {c : Nat} (h : charM m c = some k) : k.lo < 256 := by
  have hb := lowB_lt c
  unfold charM at h
  repeat' split at h
  all_goals first
    | (cases h; done)
    | (injection h with h; subst h; simp only; omega)
theorem step_lo14 {m k : Mc} {c : Nat} (h : stepM m c = some k) (hl : m.lo < 256) : k.lo < 256 := by
  have ha : ∀ k, afterM m c = some k → k.lo < 256 := fun k h => by
    unfold afterM at h
    repeat' split at h
    all_goals first
      | (cases h; done)
      | (injection h with h; subst h; exact hl)
  have hv : ∀ k, valueM m c = some k → k.lo < 256 := fun k h => by
    unfold valueM at h
    repeat' split at h
    all_goals first
      | (cases h; done)
      | (injection h with h; subst h; exact hl)
  have he : ∀ k, escM m c = some k → k.lo < 256 := fun k h => by
    unfold escM at h
    repeat' split at h
    all_goals first
      | (cases h; done)
      | (injection h with h; subst h; exact hl)
  have hn : ∀ k, numM m c = some k → k.lo < 256 := fun k h => by
    unfold numM at h
    repeat' split at h
    all_goals first
      | (cases h; done)
      | (injection h with h; subst h; exact hl)
      | exact ha k h
  unfold stepM at h
  by_cases k1 : 10 ≤ m.st
  · rw [if_pos k1] at h
    exact hn k h
  rw [if_neg k1] at h
  by_cases k2 : m.st = 6
  · rw [if_pos k2] at h
    exact char_lo h
  rw [if_neg k2] at h
  by_cases k3 : m.st = 7 ∨ m.st = 8
  · rw [if_pos k3] at h
    exact he k h
  rw [if_neg k3] at h
  by_cases k4 : m.st = 9
  · rw [if_pos k4] at h
    split at h
    · cases h
    · split at h
      · injection h with h; subst h; exact hl
      · cases h
  rw [if_neg k4] at h
  repeat' split at h
  all_goals first
    | (cases h; done)
    | (injection h with h; subst h; exact hl)
    | exact ha k h
    | exact hv k h
theorem take_lo4 : ∀ (l : List Nat) (m k : Mc), m.lo < 256 → takeM m l = some k → k.lo < 256 := by
  intro l
  induction l with
  | nil => intro m k h e; cases e; exact h
  | cons x l ih =>
    intro m k h e
    cases hs : stepM m x with
    | none => simp [takeM, hs] at e
    | some m1 => rw [takeM_cons hs] at e; exact ih m1 k (step_lo14 hs h) e
theorem run_lo (l : List Nat) : (runM mc0 l).2.lo < 256 := take_lo4 _ mc0 _ (by decide) (run_parts mc0 l)
theorem step_wd {m k : Mc} {c : Nat} (h : stepM m c = some k) (hl : m.wd.length ≤ 4) : k.wd.length ≤ 4 := by
  have ha : ∀ k, afterM m c = some k → k.wd.length ≤ 4 := fun k h => by
    unfold afterM at h
    repeat' split at h
    all_goals first
      | (cases h; done)
      | (injection h with h; subst h; exact hl)
  have hv : ∀ k, valueM m c = some k → k.wd.length ≤ 4 := fun k h => by
    unfold valueM at h
    repeat' split at h
    all_goals first
      | (cases h; done)
      | (injection h with h; subst h; exact hl)
      | (injection h with h; subst h; simp)
  have he : ∀ k, escM m c = some k → k.wd.length ≤ 4 := fun k h => by
    unfold escM at h
    repeat' split at h
    all_goals first
      | (cases h; done)
      | (injection h with h; subst h; exact hl)
  have hn : ∀ k, numM m c = some k → k.wd.length ≤ 4 := fun k h => by
    unfold numM at h
    repeat' split at h
    all_goals first
      | (cases h; done)
      | (injection h with h; subst h; exact hl)
      | exact ha k h
  unfold stepM at h
  by_cases k1 : 10 ≤ m.st
  · rw [if_pos k1] at h
    exact hn k h
  rw [if_neg k1] at h
  by_cases k2 : m.st = 6
  · rw [if_pos k2] at h
    rw [(char_keeps h).2]; exact hl
  rw [if_neg k2] at h
  by_cases k3 : m.st = 7 ∨ m.st = 8
  · rw [if_pos k3] at h
    exact he k h
  rw [if_neg k3] at h
  by_cases k4 : m.st = 9
  · rw [if_pos k4] at h
    split at h
    · cases h
    · rename_i hw
      split at h
      · injection h with h; subst h; rw [hw] at hl; simp only [List.length_cons] at hl; simp only; omega
      · cases h
  rw [if_neg k4] at h
  repeat' split at h
  all_goals first
    | (cases h; done)
    | (injection h with h; subst h; exact hl)
    | exact ha k h
    | exact hv k h
theorem take_wd4 : ∀ (l : List Nat) (m k : Mc), m.wd.length ≤ 4 → takeM m l = some k → k.wd.length ≤ 4 := by
  intro l
  induction l with
  | nil => intro m k h e; cases e; exact h
  | cons x l ih =>
    intro m k h e
    cases hs : stepM m x with
    | none => simp [takeM, hs] at e
    | some m1 => rw [takeM_cons hs] at e; exact ih m1 k (step_wd hs h) e
theorem run_wd (l : List Nat) : (runM mc0 l).2.wd.length ≤ 4 := take_wd4 _ mc0 _ (by decide) (run_parts mc0 l)
theorem own_cellU {B n i x : Nat} {ao : Option Addr} {cap : Nat} {l : List Nat} {w : World} (h : w.ownsRow B 5 1 (.slice ao n cap) n (opC l)) (hx : l[i]? = some x) : ∃ g, ao = some ⟨g, 0, none⟩ ∧ w.cell? ⟨g, i, none⟩ = some (.int .u8 ((x : Nat) : Int)) := by
  have hl : l.length = n := by have := h.1; rw [opC_len] at this; omega
  rcases h.2 with ⟨_, h0⟩ | ⟨g, cap', cur, hv, -⟩
  · have := (List.getElem?_eq_some_iff.1 hx).1
    omega
  · injection hv with e1
    subst e1
    refine ⟨g, rfl, ?_⟩
    have := h.cells (g := g) rfl i (.int .u8 ((x : Nat) : Int)) (by unfold opC; rw [List.getElem?_map, hx]; rfl)
    rwa [show (⟨g, 0, none⟩ : Addr).add i = ⟨g, i, none⟩ by by_cases h : i = 0 <;> simp [Addr.add, h]] at this


set_option maxRecDepth 10000 in
set_option maxHeartbeats 2000000 in
theorem fin16_0 (s : ByteArray) (hs : s.size ≤ 1048576) (k : Nat) (m : Mc) (hkm : runM mc0 (byts s) = (k, m)) (hst : m.st = 0) (w : World) :
    Calls Tryz.prog 20 #[.string s] w fun e w' => e = .returned (.string (mkS (finM m))) ∧ Below w.heap.size w w' := by
  have hfin : Hid (finM m = [48] ++ shutsL m.op) := hid (by unfold finM; rw [if_pos (by omega)])
  obtain ⟨Z, hZ⟩ : ∃ Z, Hid (mkS (finM m) = Z) := ⟨_, rfl⟩
  rw [hZ.out]
  have hrk := run_ok (byts s)
  have hlo := run_lo (byts s)
  rw [hkm, byts_length] at hrk
  rw [hkm] at hlo
  have hop0 : m.op.length ≤ s.size := hrk.1.op
  have hop : m.op.length ≤ 1048576 := by omega
  have hok := hid hrk.1.ok
  have hf2 := hid hrk.1.fit2
  have hfit := hid hrk.1.fit
  have hlo' := hid hlo
  have hst' := hid hst
  have hlf4 := hid hrk.1.lf
  have hrun := hid (run16_calls s hs w)
  have hkm' := hid hkm
  clear hrk hlo hop0 hkm
  go_enter Tryz.func20, Tryz.ntmps20
  go_wp2_with fail
  refine hrun.out.mono ?_
  rintro e W1 ⟨k', m', v, wd, hkm2, rfl, hrow, hword, hB1⟩
  obtain ⟨rfl, rfl⟩ : k' = k ∧ m' = m := by
    have h := hkm2.symm.trans hkm'.out
    injection h with h1 h2
    exact ⟨h1, h2⟩
  obtain ⟨ao, cap, rfl⟩ := own_len hrow
  obtain ⟨n, hnn⟩ : ∃ n, Hid (m'.op.length = n) := ⟨_, rfl⟩
  have hwd' := hid hword
  rw [hnn.out] at hop
  obtain ⟨W2, hW2⟩ : ∃ W2, W1.alloc (.cells #[.slice ao n cap, .int .i64 0, .bool m'.nm, .string wd, .int .i64 (m'.lf : Int), .int .i64 (m'.lo : Int), .int .i64 (m'.hi : Int)] 43) = W2 := ⟨_, rfl⟩
  obtain ⟨b, hb⟩ : ∃ b, W1.heap.size = b := ⟨_, rfl⟩
  have hM2 : At W2 b (mcC (.slice ao n cap) wd m') 43 := by
    rw [← hW2, ← hb]
    have h := At.new W1 (mcC (.slice ao n cap) wd m') 43
    simpa [mcC, hst] using h
  have hr2 : W2.ownsRow w.heap.size 5 1 (.slice ao n cap) n (opC m'.op) := by
    rw [← hW2]
    rw [hnn.out] at hrow
    exact World.ownsRow.alloc hrow _
  have hBB : Below w.heap.size w W2 := by rw [← hW2]; exact hB1.alloc hB1.size _
  have c0 := (mcAt_of hM2).c0
  have c1 : W2.cell? ⟨b, 1, none⟩ = some (.int .i64 0) := by rw [(mcAt_of hM2).c1, hst]; rfl
  have c3 := (mcAt_of hM2).c3
  have hM2' := hid hM2
  have hr2' := hid hr2
  have hB2' := hid hBB
  have hni : (n : Int) ≤ 1048576 := by omega
  clear hrun hkm2 hrow hword hB1 hM2 hr2 hBB
  dsimp only [mcC]
  rw [hnn.out, hst]
  clear hst
  have hP : Hid (mkS [48] = ⟨#[48]⟩) := hid rfl
  obtain ⟨OP, hOP⟩ : ∃ OP, Hid (m'.op = OP) := ⟨_, rfl⟩
  have hOl : Hid (OP.length = n) := hid (by rw [← hOP.out]; exact hnn.out)
  have hOg : Hid (∀ (i x : Nat), OP[i]? = some x → m'.op[i]? = some x) := hid (fun i x h => by rw [← hOP.out] at h; exact h)
  go_wp2
  go_loopw [5, 7] (fun ss ii wr => ∃ (j : Nat) (T : ByteArray), j ≤ n ∧ ii = .int .i64 ((j : Int) - 1) ∧ ss = .string T ∧ T.size ≤ 2097152 + (n - j) ∧ Hid (T = ⟨#[48]⟩ ++ mkS (shutsL (OP.drop j))) ∧ Hid (wr.ownsRow w.heap.size 5 1 (.slice ao n cap) n (opC m'.op)) ∧ Hid (At wr b (mcC (.slice ao n cap) wd m') 43) ∧ Hid (Below w.heap.size w wr)) (fun _ ii _ => (intOf ii + 1).toNat)
  case atStart =>
    refine ⟨n, ⟨#[48]⟩, Nat.le_refl _, congrArg (Value.int IntKind.i64) (by omega), rfl, by first | (show ByteArray.size _ ≤ _; simp [ByteArray.size]; done) | omega, hid ?_, hr2', hM2', hB2'⟩
    rw [List.drop_of_length_le (by have := hOl.out; omega)]
    show _ = _ ++ mkS []
    apply ByteArray.ext
    simp [mkS]
  case round =>
    clear c0 c1 c3
    obtain ⟨j, T, hj, rfl, rfl, hTs, hT, hr, hA, hB⟩ := hrel
    have c0 := (mcAt_of hA.out).c0
    cases j with
    | zero =>
      rw [show (((0 : Nat) : Int) - 1) = -1 from rfl]
      have hTZ : T = Z := by
        rw [hT.out, ← hZ.out, hfin.out, List.drop_zero, mkS_appV, ← hOP.out]
        rfl
      subst hTZ
      go_wp2
      go_ret
      exact ⟨rfl, hB.out⟩
    | succ J =>
      rw [show (((J + 1 : Nat) : Int) - 1) = (J : Int) by omega]
      obtain ⟨x, hx⟩ : ∃ x, OP[J]? = some x := ⟨_, List.getElem?_eq_getElem (by have := hOl.out; omega)⟩
      have hxm := hOg.out J x hx
      have hx2 : x = 91 ∨ x = 123 := hf2.out.op x (List.mem_of_getElem? hxm)
      obtain ⟨g, rfl, hcell⟩ := own_cellU hr.out hxm
      have hadd : (⟨g, 0, none⟩ : Addr).add J = ⟨g, J, none⟩ := by by_cases h : J = 0 <;> simp [Addr.add, h]
      have l0 : (J : Int) < (n : Int) := by omega
      have l1 : (x : Int) + 2 < 256 := by omega
      have l2 : (0 : Int) ≤ (J : Int) := by omega
      obtain ⟨Wn, hWn⟩ : ∃ Wn, wr.alloc (.cells #[.int .u8 ((x : Int) + 2)] 5) = Wn := ⟨_, rfl⟩
      have hcv : (convert 39 9 (.slice (some ⟨wr.heap.size, 0, none⟩) 1 1)).run Tryz.prog Wn = .ok (.string (mkS [x + 2])) Wn := by
        refine conv_row (B := wr.heap.size) ?_
        rw [strCells_mkS (fun y hy => by simp at hy; omega), mkS_size, ← hWn]
        exact ⟨rfl, .inr ⟨wr.heap.size, 1, #[.int .u8 ((x : Int) + 2)], rfl, Nat.le_refl _, At.new _ _ _, Nat.le_refl _, by unfold maxLen; decide, rfl, by simp⟩⟩
      obtain ⟨Y, hY⟩ : ∃ Y, mkS [x + 2] = Y := ⟨_, rfl⟩
      rw [hY] at hcv
      have hYs : Y.size = 1 := by rw [← hY, mkS_size]; rfl
      have hTn : Hid (T ++ Y = ⟨#[48]⟩ ++ mkS (shutsL (OP.drop J))) := hid (by
        have hJ : J < OP.length := by have := hOl.out; omega
        have hd : OP.drop J = x :: OP.drop (J + 1) := by
          rw [List.drop_eq_getElem_cons hJ]
          congr 1
          rw [List.getElem?_eq_getElem hJ] at hx
          injection hx
        rw [hT.out, ← hY, ByteArray.append_assoc, ← mkS_appV, ← shuts_cons, hd])
      have hY' := hid hYs
      have hnew := hid (And.intro (show Wn.ownsRow w.heap.size 5 1 (.slice (some ⟨g, 0, none⟩) n cap) n (opC m'.op) by rw [← hWn]; exact World.ownsRow.alloc hr.out _) (And.intro (show At Wn b (mcC (.slice (some ⟨g, 0, none⟩) n cap) wd m') 43 by rw [← hWn]; exact hA.out.alloc _) (show Below w.heap.size w Wn by rw [← hWn]; exact hB.out.alloc hB.out.size _)))
      clear hx hxm hx2 hY
      go_wp2
      exact ⟨⟨J, T ++ Y, by omega, rfl, rfl, by rw [ByteArray.size_append]; have := hY'.out; omega, hTn, hid hnew.out.1, hid hnew.out.2.1, hid hnew.out.2.2⟩, by first | (simp [intOf]; done) | (simp [intOf]; omega)⟩

set_option maxRecDepth 10000 in
set_option maxHeartbeats 2000000 in
theorem fin16_10 (s : ByteArray) (hs : s.size ≤ 1048576) (k : Nat) (m : Mc) (hkm : runM mc0 (byts s) = (k, m)) (hst : m.st = 10) (w : World) :
    Calls Tryz.prog 20 #[.string s] w fun e w' => e = .returned (.string (mkS (finM m))) ∧ Below w.heap.size w w' := by
  have hfin : Hid (finM m = [48] ++ shutsL m.op) := hid (by unfold finM; rw [if_pos (by omega)])
  obtain ⟨Z, hZ⟩ : ∃ Z, Hid (mkS (finM m) = Z) := ⟨_, rfl⟩
  rw [hZ.out]
  have hrk := run_ok (byts s)
  have hlo := run_lo (byts s)
  rw [hkm, byts_length] at hrk
  rw [hkm] at hlo
  have hop0 : m.op.length ≤ s.size := hrk.1.op
  have hop : m.op.length ≤ 1048576 := by omega
  have hok := hid hrk.1.ok
  have hf2 := hid hrk.1.fit2
  have hfit := hid hrk.1.fit
  have hlo' := hid hlo
  have hst' := hid hst
  have hlf4 := hid hrk.1.lf
  have hrun := hid (run16_calls s hs w)
  have hkm' := hid hkm
  clear hrk hlo hop0 hkm
  go_enter Tryz.func20, Tryz.ntmps20
  go_wp2_with fail
  refine hrun.out.mono ?_
  rintro e W1 ⟨k', m', v, wd, hkm2, rfl, hrow, hword, hB1⟩
  obtain ⟨rfl, rfl⟩ : k' = k ∧ m' = m := by
    have h := hkm2.symm.trans hkm'.out
    injection h with h1 h2
    exact ⟨h1, h2⟩
  obtain ⟨ao, cap, rfl⟩ := own_len hrow
  obtain ⟨n, hnn⟩ : ∃ n, Hid (m'.op.length = n) := ⟨_, rfl⟩
  have hwd' := hid hword
  rw [hnn.out] at hop
  obtain ⟨W2, hW2⟩ : ∃ W2, W1.alloc (.cells #[.slice ao n cap, .int .i64 10, .bool m'.nm, .string wd, .int .i64 (m'.lf : Int), .int .i64 (m'.lo : Int), .int .i64 (m'.hi : Int)] 43) = W2 := ⟨_, rfl⟩
  obtain ⟨b, hb⟩ : ∃ b, W1.heap.size = b := ⟨_, rfl⟩
  have hM2 : At W2 b (mcC (.slice ao n cap) wd m') 43 := by
    rw [← hW2, ← hb]
    have h := At.new W1 (mcC (.slice ao n cap) wd m') 43
    simpa [mcC, hst] using h
  have hr2 : W2.ownsRow w.heap.size 5 1 (.slice ao n cap) n (opC m'.op) := by
    rw [← hW2]
    rw [hnn.out] at hrow
    exact World.ownsRow.alloc hrow _
  have hBB : Below w.heap.size w W2 := by rw [← hW2]; exact hB1.alloc hB1.size _
  have c0 := (mcAt_of hM2).c0
  have c1 : W2.cell? ⟨b, 1, none⟩ = some (.int .i64 10) := by rw [(mcAt_of hM2).c1, hst]; rfl
  have c3 := (mcAt_of hM2).c3
  have hM2' := hid hM2
  have hr2' := hid hr2
  have hB2' := hid hBB
  have hni : (n : Int) ≤ 1048576 := by omega
  clear hrun hkm2 hrow hword hB1 hM2 hr2 hBB
  dsimp only [mcC]
  rw [hnn.out, hst]
  clear hst
  have hP : Hid (mkS [48] = ⟨#[48]⟩) := hid rfl
  obtain ⟨OP, hOP⟩ : ∃ OP, Hid (m'.op = OP) := ⟨_, rfl⟩
  have hOl : Hid (OP.length = n) := hid (by rw [← hOP.out]; exact hnn.out)
  have hOg : Hid (∀ (i x : Nat), OP[i]? = some x → m'.op[i]? = some x) := hid (fun i x h => by rw [← hOP.out] at h; exact h)
  go_wp2
  go_loopw [5, 7] (fun ss ii wr => ∃ (j : Nat) (T : ByteArray), j ≤ n ∧ ii = .int .i64 ((j : Int) - 1) ∧ ss = .string T ∧ T.size ≤ 2097152 + (n - j) ∧ Hid (T = ⟨#[48]⟩ ++ mkS (shutsL (OP.drop j))) ∧ Hid (wr.ownsRow w.heap.size 5 1 (.slice ao n cap) n (opC m'.op)) ∧ Hid (At wr b (mcC (.slice ao n cap) wd m') 43) ∧ Hid (Below w.heap.size w wr)) (fun _ ii _ => (intOf ii + 1).toNat)
  case atStart =>
    refine ⟨n, ⟨#[48]⟩, Nat.le_refl _, congrArg (Value.int IntKind.i64) (by omega), rfl, by first | (show ByteArray.size _ ≤ _; simp [ByteArray.size]; done) | omega, hid ?_, hr2', hM2', hB2'⟩
    rw [List.drop_of_length_le (by have := hOl.out; omega)]
    show _ = _ ++ mkS []
    apply ByteArray.ext
    simp [mkS]
  case round =>
    clear c0 c1 c3
    obtain ⟨j, T, hj, rfl, rfl, hTs, hT, hr, hA, hB⟩ := hrel
    have c0 := (mcAt_of hA.out).c0
    cases j with
    | zero =>
      rw [show (((0 : Nat) : Int) - 1) = -1 from rfl]
      have hTZ : T = Z := by
        rw [hT.out, ← hZ.out, hfin.out, List.drop_zero, mkS_appV, ← hOP.out]
        rfl
      subst hTZ
      go_wp2
      go_ret
      exact ⟨rfl, hB.out⟩
    | succ J =>
      rw [show (((J + 1 : Nat) : Int) - 1) = (J : Int) by omega]
      obtain ⟨x, hx⟩ : ∃ x, OP[J]? = some x := ⟨_, List.getElem?_eq_getElem (by have := hOl.out; omega)⟩
      have hxm := hOg.out J x hx
      have hx2 : x = 91 ∨ x = 123 := hf2.out.op x (List.mem_of_getElem? hxm)
      obtain ⟨g, rfl, hcell⟩ := own_cellU hr.out hxm
      have hadd : (⟨g, 0, none⟩ : Addr).add J = ⟨g, J, none⟩ := by by_cases h : J = 0 <;> simp [Addr.add, h]
      have l0 : (J : Int) < (n : Int) := by omega
      have l1 : (x : Int) + 2 < 256 := by omega
      have l2 : (0 : Int) ≤ (J : Int) := by omega
      obtain ⟨Wn, hWn⟩ : ∃ Wn, wr.alloc (.cells #[.int .u8 ((x : Int) + 2)] 5) = Wn := ⟨_, rfl⟩
      have hcv : (convert 39 9 (.slice (some ⟨wr.heap.size, 0, none⟩) 1 1)).run Tryz.prog Wn = .ok (.string (mkS [x + 2])) Wn := by
        refine conv_row (B := wr.heap.size) ?_
        rw [strCells_mkS (fun y hy => by simp at hy; omega), mkS_size, ← hWn]
        exact ⟨rfl, .inr ⟨wr.heap.size, 1, #[.int .u8 ((x : Int) + 2)], rfl, Nat.le_refl _, At.new _ _ _, Nat.le_refl _, by unfold maxLen; decide, rfl, by simp⟩⟩
      obtain ⟨Y, hY⟩ : ∃ Y, mkS [x + 2] = Y := ⟨_, rfl⟩
      rw [hY] at hcv
      have hYs : Y.size = 1 := by rw [← hY, mkS_size]; rfl
      have hTn : Hid (T ++ Y = ⟨#[48]⟩ ++ mkS (shutsL (OP.drop J))) := hid (by
        have hJ : J < OP.length := by have := hOl.out; omega
        have hd : OP.drop J = x :: OP.drop (J + 1) := by
          rw [List.drop_eq_getElem_cons hJ]
          congr 1
          rw [List.getElem?_eq_getElem hJ] at hx
          injection hx
        rw [hT.out, ← hY, ByteArray.append_assoc, ← mkS_appV, ← shuts_cons, hd])
      have hY' := hid hYs
      have hnew := hid (And.intro (show Wn.ownsRow w.heap.size 5 1 (.slice (some ⟨g, 0, none⟩) n cap) n (opC m'.op) by rw [← hWn]; exact World.ownsRow.alloc hr.out _) (And.intro (show At Wn b (mcC (.slice (some ⟨g, 0, none⟩) n cap) wd m') 43 by rw [← hWn]; exact hA.out.alloc _) (show Below w.heap.size w Wn by rw [← hWn]; exact hB.out.alloc hB.out.size _)))
      clear hx hxm hx2 hY
      go_wp2
      exact ⟨⟨J, T ++ Y, by omega, rfl, rfl, by rw [ByteArray.size_append]; have := hY'.out; omega, hTn, hid hnew.out.1, hid hnew.out.2.1, hid hnew.out.2.2⟩, by first | (simp [intOf]; done) | (simp [intOf]; omega)⟩

set_option maxRecDepth 10000 in
set_option maxHeartbeats 2000000 in
theorem fin16_13 (s : ByteArray) (hs : s.size ≤ 1048576) (k : Nat) (m : Mc) (hkm : runM mc0 (byts s) = (k, m)) (hst : m.st = 13) (w : World) :
    Calls Tryz.prog 20 #[.string s] w fun e w' => e = .returned (.string (mkS (finM m))) ∧ Below w.heap.size w w' := by
  have hfin : Hid (finM m = [48] ++ shutsL m.op) := hid (by unfold finM; rw [if_pos (by omega)])
  obtain ⟨Z, hZ⟩ : ∃ Z, Hid (mkS (finM m) = Z) := ⟨_, rfl⟩
  rw [hZ.out]
  have hrk := run_ok (byts s)
  have hlo := run_lo (byts s)
  rw [hkm, byts_length] at hrk
  rw [hkm] at hlo
  have hop0 : m.op.length ≤ s.size := hrk.1.op
  have hop : m.op.length ≤ 1048576 := by omega
  have hok := hid hrk.1.ok
  have hf2 := hid hrk.1.fit2
  have hfit := hid hrk.1.fit
  have hlo' := hid hlo
  have hst' := hid hst
  have hlf4 := hid hrk.1.lf
  have hrun := hid (run16_calls s hs w)
  have hkm' := hid hkm
  clear hrk hlo hop0 hkm
  go_enter Tryz.func20, Tryz.ntmps20
  go_wp2_with fail
  refine hrun.out.mono ?_
  rintro e W1 ⟨k', m', v, wd, hkm2, rfl, hrow, hword, hB1⟩
  obtain ⟨rfl, rfl⟩ : k' = k ∧ m' = m := by
    have h := hkm2.symm.trans hkm'.out
    injection h with h1 h2
    exact ⟨h1, h2⟩
  obtain ⟨ao, cap, rfl⟩ := own_len hrow
  obtain ⟨n, hnn⟩ : ∃ n, Hid (m'.op.length = n) := ⟨_, rfl⟩
  have hwd' := hid hword
  rw [hnn.out] at hop
  obtain ⟨W2, hW2⟩ : ∃ W2, W1.alloc (.cells #[.slice ao n cap, .int .i64 13, .bool m'.nm, .string wd, .int .i64 (m'.lf : Int), .int .i64 (m'.lo : Int), .int .i64 (m'.hi : Int)] 43) = W2 := ⟨_, rfl⟩
  obtain ⟨b, hb⟩ : ∃ b, W1.heap.size = b := ⟨_, rfl⟩
  have hM2 : At W2 b (mcC (.slice ao n cap) wd m') 43 := by
    rw [← hW2, ← hb]
    have h := At.new W1 (mcC (.slice ao n cap) wd m') 43
    simpa [mcC, hst] using h
  have hr2 : W2.ownsRow w.heap.size 5 1 (.slice ao n cap) n (opC m'.op) := by
    rw [← hW2]
    rw [hnn.out] at hrow
    exact World.ownsRow.alloc hrow _
  have hBB : Below w.heap.size w W2 := by rw [← hW2]; exact hB1.alloc hB1.size _
  have c0 := (mcAt_of hM2).c0
  have c1 : W2.cell? ⟨b, 1, none⟩ = some (.int .i64 13) := by rw [(mcAt_of hM2).c1, hst]; rfl
  have c3 := (mcAt_of hM2).c3
  have hM2' := hid hM2
  have hr2' := hid hr2
  have hB2' := hid hBB
  have hni : (n : Int) ≤ 1048576 := by omega
  clear hrun hkm2 hrow hword hB1 hM2 hr2 hBB
  dsimp only [mcC]
  rw [hnn.out, hst]
  clear hst
  have hP : Hid (mkS [48] = ⟨#[48]⟩) := hid rfl
  obtain ⟨OP, hOP⟩ : ∃ OP, Hid (m'.op = OP) := ⟨_, rfl⟩
  have hOl : Hid (OP.length = n) := hid (by rw [← hOP.out]; exact hnn.out)
  have hOg : Hid (∀ (i x : Nat), OP[i]? = some x → m'.op[i]? = some x) := hid (fun i x h => by rw [← hOP.out] at h; exact h)
  go_wp2
  go_loopw [5, 7] (fun ss ii wr => ∃ (j : Nat) (T : ByteArray), j ≤ n ∧ ii = .int .i64 ((j : Int) - 1) ∧ ss = .string T ∧ T.size ≤ 2097152 + (n - j) ∧ Hid (T = ⟨#[48]⟩ ++ mkS (shutsL (OP.drop j))) ∧ Hid (wr.ownsRow w.heap.size 5 1 (.slice ao n cap) n (opC m'.op)) ∧ Hid (At wr b (mcC (.slice ao n cap) wd m') 43) ∧ Hid (Below w.heap.size w wr)) (fun _ ii _ => (intOf ii + 1).toNat)
  case atStart =>
    refine ⟨n, ⟨#[48]⟩, Nat.le_refl _, congrArg (Value.int IntKind.i64) (by omega), rfl, by first | (show ByteArray.size _ ≤ _; simp [ByteArray.size]; done) | omega, hid ?_, hr2', hM2', hB2'⟩
    rw [List.drop_of_length_le (by have := hOl.out; omega)]
    show _ = _ ++ mkS []
    apply ByteArray.ext
    simp [mkS]
  case round =>
    clear c0 c1 c3
    obtain ⟨j, T, hj, rfl, rfl, hTs, hT, hr, hA, hB⟩ := hrel
    have c0 := (mcAt_of hA.out).c0
    cases j with
    | zero =>
      rw [show (((0 : Nat) : Int) - 1) = -1 from rfl]
      have hTZ : T = Z := by
        rw [hT.out, ← hZ.out, hfin.out, List.drop_zero, mkS_appV, ← hOP.out]
        rfl
      subst hTZ
      go_wp2
      go_ret
      exact ⟨rfl, hB.out⟩
    | succ J =>
      rw [show (((J + 1 : Nat) : Int) - 1) = (J : Int) by omega]
      obtain ⟨x, hx⟩ : ∃ x, OP[J]? = some x := ⟨_, List.getElem?_eq_getElem (by have := hOl.out; omega)⟩
      have hxm := hOg.out J x hx
      have hx2 : x = 91 ∨ x = 123 := hf2.out.op x (List.mem_of_getElem? hxm)
      obtain ⟨g, rfl, hcell⟩ := own_cellU hr.out hxm
      have hadd : (⟨g, 0, none⟩ : Addr).add J = ⟨g, J, none⟩ := by by_cases h : J = 0 <;> simp [Addr.add, h]
      have l0 : (J : Int) < (n : Int) := by omega
      have l1 : (x : Int) + 2 < 256 := by omega
      have l2 : (0 : Int) ≤ (J : Int) := by omega
      obtain ⟨Wn, hWn⟩ : ∃ Wn, wr.alloc (.cells #[.int .u8 ((x : Int) + 2)] 5) = Wn := ⟨_, rfl⟩
      have hcv : (convert 39 9 (.slice (some ⟨wr.heap.size, 0, none⟩) 1 1)).run Tryz.prog Wn = .ok (.string (mkS [x + 2])) Wn := by
        refine conv_row (B := wr.heap.size) ?_
        rw [strCells_mkS (fun y hy => by simp at hy; omega), mkS_size, ← hWn]
        exact ⟨rfl, .inr ⟨wr.heap.size, 1, #[.int .u8 ((x : Int) + 2)], rfl, Nat.le_refl _, At.new _ _ _, Nat.le_refl _, by unfold maxLen; decide, rfl, by simp⟩⟩
      obtain ⟨Y, hY⟩ : ∃ Y, mkS [x + 2] = Y := ⟨_, rfl⟩
      rw [hY] at hcv
      have hYs : Y.size = 1 := by rw [← hY, mkS_size]; rfl
      have hTn : Hid (T ++ Y = ⟨#[48]⟩ ++ mkS (shutsL (OP.drop J))) := hid (by
        have hJ : J < OP.length := by have := hOl.out; omega
        have hd : OP.drop J = x :: OP.drop (J + 1) := by
          rw [List.drop_eq_getElem_cons hJ]
          congr 1
          rw [List.getElem?_eq_getElem hJ] at hx
          injection hx
        rw [hT.out, ← hY, ByteArray.append_assoc, ← mkS_appV, ← shuts_cons, hd])
      have hY' := hid hYs
      have hnew := hid (And.intro (show Wn.ownsRow w.heap.size 5 1 (.slice (some ⟨g, 0, none⟩) n cap) n (opC m'.op) by rw [← hWn]; exact World.ownsRow.alloc hr.out _) (And.intro (show At Wn b (mcC (.slice (some ⟨g, 0, none⟩) n cap) wd m') 43 by rw [← hWn]; exact hA.out.alloc _) (show Below w.heap.size w Wn by rw [← hWn]; exact hB.out.alloc hB.out.size _)))
      clear hx hxm hx2 hY
      go_wp2
      exact ⟨⟨J, T ++ Y, by omega, rfl, rfl, by rw [ByteArray.size_append]; have := hY'.out; omega, hTn, hid hnew.out.1, hid hnew.out.2.1, hid hnew.out.2.2⟩, by first | (simp [intOf]; done) | (simp [intOf]; omega)⟩

set_option maxRecDepth 10000 in
set_option maxHeartbeats 2000000 in
theorem fin16_15 (s : ByteArray) (hs : s.size ≤ 1048576) (k : Nat) (m : Mc) (hkm : runM mc0 (byts s) = (k, m)) (hst : m.st = 15) (w : World) :
    Calls Tryz.prog 20 #[.string s] w fun e w' => e = .returned (.string (mkS (finM m))) ∧ Below w.heap.size w w' := by
  have hfin : Hid (finM m = [48] ++ shutsL m.op) := hid (by unfold finM; rw [if_pos (by omega)])
  obtain ⟨Z, hZ⟩ : ∃ Z, Hid (mkS (finM m) = Z) := ⟨_, rfl⟩
  rw [hZ.out]
  have hrk := run_ok (byts s)
  have hlo := run_lo (byts s)
  rw [hkm, byts_length] at hrk
  rw [hkm] at hlo
  have hop0 : m.op.length ≤ s.size := hrk.1.op
  have hop : m.op.length ≤ 1048576 := by omega
  have hok := hid hrk.1.ok
  have hf2 := hid hrk.1.fit2
  have hfit := hid hrk.1.fit
  have hlo' := hid hlo
  have hst' := hid hst
  have hlf4 := hid hrk.1.lf
  have hrun := hid (run16_calls s hs w)
  have hkm' := hid hkm
  clear hrk hlo hop0 hkm
  go_enter Tryz.func20, Tryz.ntmps20
  go_wp2_with fail
  refine hrun.out.mono ?_
  rintro e W1 ⟨k', m', v, wd, hkm2, rfl, hrow, hword, hB1⟩
  obtain ⟨rfl, rfl⟩ : k' = k ∧ m' = m := by
    have h := hkm2.symm.trans hkm'.out
    injection h with h1 h2
    exact ⟨h1, h2⟩
  obtain ⟨ao, cap, rfl⟩ := own_len hrow
  obtain ⟨n, hnn⟩ : ∃ n, Hid (m'.op.length = n) := ⟨_, rfl⟩
  have hwd' := hid hword
  rw [hnn.out] at hop
  obtain ⟨W2, hW2⟩ : ∃ W2, W1.alloc (.cells #[.slice ao n cap, .int .i64 15, .bool m'.nm, .string wd, .int .i64 (m'.lf : Int), .int .i64 (m'.lo : Int), .int .i64 (m'.hi : Int)] 43) = W2 := ⟨_, rfl⟩
  obtain ⟨b, hb⟩ : ∃ b, W1.heap.size = b := ⟨_, rfl⟩
  have hM2 : At W2 b (mcC (.slice ao n cap) wd m') 43 := by
    rw [← hW2, ← hb]
    have h := At.new W1 (mcC (.slice ao n cap) wd m') 43
    simpa [mcC, hst] using h
  have hr2 : W2.ownsRow w.heap.size 5 1 (.slice ao n cap) n (opC m'.op) := by
    rw [← hW2]
    rw [hnn.out] at hrow
    exact World.ownsRow.alloc hrow _
  have hBB : Below w.heap.size w W2 := by rw [← hW2]; exact hB1.alloc hB1.size _
  have c0 := (mcAt_of hM2).c0
  have c1 : W2.cell? ⟨b, 1, none⟩ = some (.int .i64 15) := by rw [(mcAt_of hM2).c1, hst]; rfl
  have c3 := (mcAt_of hM2).c3
  have hM2' := hid hM2
  have hr2' := hid hr2
  have hB2' := hid hBB
  have hni : (n : Int) ≤ 1048576 := by omega
  clear hrun hkm2 hrow hword hB1 hM2 hr2 hBB
  dsimp only [mcC]
  rw [hnn.out, hst]
  clear hst
  have hP : Hid (mkS [48] = ⟨#[48]⟩) := hid rfl
  obtain ⟨OP, hOP⟩ : ∃ OP, Hid (m'.op = OP) := ⟨_, rfl⟩
  have hOl : Hid (OP.length = n) := hid (by rw [← hOP.out]; exact hnn.out)
  have hOg : Hid (∀ (i x : Nat), OP[i]? = some x → m'.op[i]? = some x) := hid (fun i x h => by rw [← hOP.out] at h; exact h)
  go_wp2
  go_loopw [5, 7] (fun ss ii wr => ∃ (j : Nat) (T : ByteArray), j ≤ n ∧ ii = .int .i64 ((j : Int) - 1) ∧ ss = .string T ∧ T.size ≤ 2097152 + (n - j) ∧ Hid (T = ⟨#[48]⟩ ++ mkS (shutsL (OP.drop j))) ∧ Hid (wr.ownsRow w.heap.size 5 1 (.slice ao n cap) n (opC m'.op)) ∧ Hid (At wr b (mcC (.slice ao n cap) wd m') 43) ∧ Hid (Below w.heap.size w wr)) (fun _ ii _ => (intOf ii + 1).toNat)
  case atStart =>
    refine ⟨n, ⟨#[48]⟩, Nat.le_refl _, congrArg (Value.int IntKind.i64) (by omega), rfl, by first | (show ByteArray.size _ ≤ _; simp [ByteArray.size]; done) | omega, hid ?_, hr2', hM2', hB2'⟩
    rw [List.drop_of_length_le (by have := hOl.out; omega)]
    show _ = _ ++ mkS []
    apply ByteArray.ext
    simp [mkS]
  case round =>
    clear c0 c1 c3
    obtain ⟨j, T, hj, rfl, rfl, hTs, hT, hr, hA, hB⟩ := hrel
    have c0 := (mcAt_of hA.out).c0
    cases j with
    | zero =>
      rw [show (((0 : Nat) : Int) - 1) = -1 from rfl]
      have hTZ : T = Z := by
        rw [hT.out, ← hZ.out, hfin.out, List.drop_zero, mkS_appV, ← hOP.out]
        rfl
      subst hTZ
      go_wp2
      go_ret
      exact ⟨rfl, hB.out⟩
    | succ J =>
      rw [show (((J + 1 : Nat) : Int) - 1) = (J : Int) by omega]
      obtain ⟨x, hx⟩ : ∃ x, OP[J]? = some x := ⟨_, List.getElem?_eq_getElem (by have := hOl.out; omega)⟩
      have hxm := hOg.out J x hx
      have hx2 : x = 91 ∨ x = 123 := hf2.out.op x (List.mem_of_getElem? hxm)
      obtain ⟨g, rfl, hcell⟩ := own_cellU hr.out hxm
      have hadd : (⟨g, 0, none⟩ : Addr).add J = ⟨g, J, none⟩ := by by_cases h : J = 0 <;> simp [Addr.add, h]
      have l0 : (J : Int) < (n : Int) := by omega
      have l1 : (x : Int) + 2 < 256 := by omega
      have l2 : (0 : Int) ≤ (J : Int) := by omega
      obtain ⟨Wn, hWn⟩ : ∃ Wn, wr.alloc (.cells #[.int .u8 ((x : Int) + 2)] 5) = Wn := ⟨_, rfl⟩
      have hcv : (convert 39 9 (.slice (some ⟨wr.heap.size, 0, none⟩) 1 1)).run Tryz.prog Wn = .ok (.string (mkS [x + 2])) Wn := by
        refine conv_row (B := wr.heap.size) ?_
        rw [strCells_mkS (fun y hy => by simp at hy; omega), mkS_size, ← hWn]
        exact ⟨rfl, .inr ⟨wr.heap.size, 1, #[.int .u8 ((x : Int) + 2)], rfl, Nat.le_refl _, At.new _ _ _, Nat.le_refl _, by unfold maxLen; decide, rfl, by simp⟩⟩
      obtain ⟨Y, hY⟩ : ∃ Y, mkS [x + 2] = Y := ⟨_, rfl⟩
      rw [hY] at hcv
      have hYs : Y.size = 1 := by rw [← hY, mkS_size]; rfl
      have hTn : Hid (T ++ Y = ⟨#[48]⟩ ++ mkS (shutsL (OP.drop J))) := hid (by
        have hJ : J < OP.length := by have := hOl.out; omega
        have hd : OP.drop J = x :: OP.drop (J + 1) := by
          rw [List.drop_eq_getElem_cons hJ]
          congr 1
          rw [List.getElem?_eq_getElem hJ] at hx
          injection hx
        rw [hT.out, ← hY, ByteArray.append_assoc, ← mkS_appV, ← shuts_cons, hd])
      have hY' := hid hYs
      have hnew := hid (And.intro (show Wn.ownsRow w.heap.size 5 1 (.slice (some ⟨g, 0, none⟩) n cap) n (opC m'.op) by rw [← hWn]; exact World.ownsRow.alloc hr.out _) (And.intro (show At Wn b (mcC (.slice (some ⟨g, 0, none⟩) n cap) wd m') 43 by rw [← hWn]; exact hA.out.alloc _) (show Below w.heap.size w Wn by rw [← hWn]; exact hB.out.alloc hB.out.size _)))
      clear hx hxm hx2 hY
      go_wp2
      exact ⟨⟨J, T ++ Y, by omega, rfl, rfl, by rw [ByteArray.size_append]; have := hY'.out; omega, hTn, hid hnew.out.1, hid hnew.out.2.1, hid hnew.out.2.2⟩, by first | (simp [intOf]; done) | (simp [intOf]; omega)⟩

set_option maxRecDepth 10000 in
set_option maxHeartbeats 2000000 in
theorem fin16_16 (s : ByteArray) (hs : s.size ≤ 1048576) (k : Nat) (m : Mc) (hkm : runM mc0 (byts s) = (k, m)) (hst : m.st = 16) (w : World) :
    Calls Tryz.prog 20 #[.string s] w fun e w' => e = .returned (.string (mkS (finM m))) ∧ Below w.heap.size w w' := by
  have hfin : Hid (finM m = [48] ++ shutsL m.op) := hid (by unfold finM; rw [if_pos (by omega)])
  obtain ⟨Z, hZ⟩ : ∃ Z, Hid (mkS (finM m) = Z) := ⟨_, rfl⟩
  rw [hZ.out]
  have hrk := run_ok (byts s)
  have hlo := run_lo (byts s)
  rw [hkm, byts_length] at hrk
  rw [hkm] at hlo
  have hop0 : m.op.length ≤ s.size := hrk.1.op
  have hop : m.op.length ≤ 1048576 := by omega
  have hok := hid hrk.1.ok
  have hf2 := hid hrk.1.fit2
  have hfit := hid hrk.1.fit
  have hlo' := hid hlo
  have hst' := hid hst
  have hlf4 := hid hrk.1.lf
  have hrun := hid (run16_calls s hs w)
  have hkm' := hid hkm
  clear hrk hlo hop0 hkm
  go_enter Tryz.func20, Tryz.ntmps20
  go_wp2_with fail
  refine hrun.out.mono ?_
  rintro e W1 ⟨k', m', v, wd, hkm2, rfl, hrow, hword, hB1⟩
  obtain ⟨rfl, rfl⟩ : k' = k ∧ m' = m := by
    have h := hkm2.symm.trans hkm'.out
    injection h with h1 h2
    exact ⟨h1, h2⟩
  obtain ⟨ao, cap, rfl⟩ := own_len hrow
  obtain ⟨n, hnn⟩ : ∃ n, Hid (m'.op.length = n) := ⟨_, rfl⟩
  have hwd' := hid hword
  rw [hnn.out] at hop
  obtain ⟨W2, hW2⟩ : ∃ W2, W1.alloc (.cells #[.slice ao n cap, .int .i64 16, .bool m'.nm, .string wd, .int .i64 (m'.lf : Int), .int .i64 (m'.lo : Int), .int .i64 (m'.hi : Int)] 43) = W2 := ⟨_, rfl⟩
  obtain ⟨b, hb⟩ : ∃ b, W1.heap.size = b := ⟨_, rfl⟩
  have hM2 : At W2 b (mcC (.slice ao n cap) wd m') 43 := by
    rw [← hW2, ← hb]
    have h := At.new W1 (mcC (.slice ao n cap) wd m') 43
    simpa [mcC, hst] using h
  have hr2 : W2.ownsRow w.heap.size 5 1 (.slice ao n cap) n (opC m'.op) := by
    rw [← hW2]
    rw [hnn.out] at hrow
    exact World.ownsRow.alloc hrow _
  have hBB : Below w.heap.size w W2 := by rw [← hW2]; exact hB1.alloc hB1.size _
  have c0 := (mcAt_of hM2).c0
  have c1 : W2.cell? ⟨b, 1, none⟩ = some (.int .i64 16) := by rw [(mcAt_of hM2).c1, hst]; rfl
  have c3 := (mcAt_of hM2).c3
  have hM2' := hid hM2
  have hr2' := hid hr2
  have hB2' := hid hBB
  have hni : (n : Int) ≤ 1048576 := by omega
  clear hrun hkm2 hrow hword hB1 hM2 hr2 hBB
  dsimp only [mcC]
  rw [hnn.out, hst]
  clear hst
  have hP : Hid (mkS [48] = ⟨#[48]⟩) := hid rfl
  obtain ⟨OP, hOP⟩ : ∃ OP, Hid (m'.op = OP) := ⟨_, rfl⟩
  have hOl : Hid (OP.length = n) := hid (by rw [← hOP.out]; exact hnn.out)
  have hOg : Hid (∀ (i x : Nat), OP[i]? = some x → m'.op[i]? = some x) := hid (fun i x h => by rw [← hOP.out] at h; exact h)
  go_wp2
  go_loopw [5, 7] (fun ss ii wr => ∃ (j : Nat) (T : ByteArray), j ≤ n ∧ ii = .int .i64 ((j : Int) - 1) ∧ ss = .string T ∧ T.size ≤ 2097152 + (n - j) ∧ Hid (T = ⟨#[48]⟩ ++ mkS (shutsL (OP.drop j))) ∧ Hid (wr.ownsRow w.heap.size 5 1 (.slice ao n cap) n (opC m'.op)) ∧ Hid (At wr b (mcC (.slice ao n cap) wd m') 43) ∧ Hid (Below w.heap.size w wr)) (fun _ ii _ => (intOf ii + 1).toNat)
  case atStart =>
    refine ⟨n, ⟨#[48]⟩, Nat.le_refl _, congrArg (Value.int IntKind.i64) (by omega), rfl, by first | (show ByteArray.size _ ≤ _; simp [ByteArray.size]; done) | omega, hid ?_, hr2', hM2', hB2'⟩
    rw [List.drop_of_length_le (by have := hOl.out; omega)]
    show _ = _ ++ mkS []
    apply ByteArray.ext
    simp [mkS]
  case round =>
    clear c0 c1 c3
    obtain ⟨j, T, hj, rfl, rfl, hTs, hT, hr, hA, hB⟩ := hrel
    have c0 := (mcAt_of hA.out).c0
    cases j with
    | zero =>
      rw [show (((0 : Nat) : Int) - 1) = -1 from rfl]
      have hTZ : T = Z := by
        rw [hT.out, ← hZ.out, hfin.out, List.drop_zero, mkS_appV, ← hOP.out]
        rfl
      subst hTZ
      go_wp2
      go_ret
      exact ⟨rfl, hB.out⟩
    | succ J =>
      rw [show (((J + 1 : Nat) : Int) - 1) = (J : Int) by omega]
      obtain ⟨x, hx⟩ : ∃ x, OP[J]? = some x := ⟨_, List.getElem?_eq_getElem (by have := hOl.out; omega)⟩
      have hxm := hOg.out J x hx
      have hx2 : x = 91 ∨ x = 123 := hf2.out.op x (List.mem_of_getElem? hxm)
      obtain ⟨g, rfl, hcell⟩ := own_cellU hr.out hxm
      have hadd : (⟨g, 0, none⟩ : Addr).add J = ⟨g, J, none⟩ := by by_cases h : J = 0 <;> simp [Addr.add, h]
      have l0 : (J : Int) < (n : Int) := by omega
      have l1 : (x : Int) + 2 < 256 := by omega
      have l2 : (0 : Int) ≤ (J : Int) := by omega
      obtain ⟨Wn, hWn⟩ : ∃ Wn, wr.alloc (.cells #[.int .u8 ((x : Int) + 2)] 5) = Wn := ⟨_, rfl⟩
      have hcv : (convert 39 9 (.slice (some ⟨wr.heap.size, 0, none⟩) 1 1)).run Tryz.prog Wn = .ok (.string (mkS [x + 2])) Wn := by
        refine conv_row (B := wr.heap.size) ?_
        rw [strCells_mkS (fun y hy => by simp at hy; omega), mkS_size, ← hWn]
        exact ⟨rfl, .inr ⟨wr.heap.size, 1, #[.int .u8 ((x : Int) + 2)], rfl, Nat.le_refl _, At.new _ _ _, Nat.le_refl _, by unfold maxLen; decide, rfl, by simp⟩⟩
      obtain ⟨Y, hY⟩ : ∃ Y, mkS [x + 2] = Y := ⟨_, rfl⟩
      rw [hY] at hcv
      have hYs : Y.size = 1 := by rw [← hY, mkS_size]; rfl
      have hTn : Hid (T ++ Y = ⟨#[48]⟩ ++ mkS (shutsL (OP.drop J))) := hid (by
        have hJ : J < OP.length := by have := hOl.out; omega
        have hd : OP.drop J = x :: OP.drop (J + 1) := by
          rw [List.drop_eq_getElem_cons hJ]
          congr 1
          rw [List.getElem?_eq_getElem hJ] at hx
          injection hx
        rw [hT.out, ← hY, ByteArray.append_assoc, ← mkS_appV, ← shuts_cons, hd])
      have hY' := hid hYs
      have hnew := hid (And.intro (show Wn.ownsRow w.heap.size 5 1 (.slice (some ⟨g, 0, none⟩) n cap) n (opC m'.op) by rw [← hWn]; exact World.ownsRow.alloc hr.out _) (And.intro (show At Wn b (mcC (.slice (some ⟨g, 0, none⟩) n cap) wd m') 43 by rw [← hWn]; exact hA.out.alloc _) (show Below w.heap.size w Wn by rw [← hWn]; exact hB.out.alloc hB.out.size _)))
      clear hx hxm hx2 hY
      go_wp2
      exact ⟨⟨J, T ++ Y, by omega, rfl, rfl, by rw [ByteArray.size_append]; have := hY'.out; omega, hTn, hid hnew.out.1, hid hnew.out.2.1, hid hnew.out.2.2⟩, by first | (simp [intOf]; done) | (simp [intOf]; omega)⟩

set_option maxRecDepth 10000 in
set_option maxHeartbeats 2000000 in
theorem fin16_1 (s : ByteArray) (hs : s.size ≤ 1048576) (k : Nat) (m : Mc) (hkm : runM mc0 (byts s) = (k, m)) (hst : m.st = 1) (w : World) :
    Calls Tryz.prog 20 #[.string s] w fun e w' => e = .returned (.string (mkS (finM m))) ∧ Below w.heap.size w w' := by
  have hfin : Hid (finM m = [93] ++ shutsL m.op.dropLast) := hid (by unfold finM; rw [if_neg (by omega), if_pos (by omega)])
  obtain ⟨Z, hZ⟩ : ∃ Z, Hid (mkS (finM m) = Z) := ⟨_, rfl⟩
  rw [hZ.out]
  have hrk := run_ok (byts s)
  have hlo := run_lo (byts s)
  rw [hkm, byts_length] at hrk
  rw [hkm] at hlo
  have hop0 : m.op.length ≤ s.size := hrk.1.op
  have hop : m.op.length ≤ 1048576 := by omega
  have hok := hid hrk.1.ok
  have hf2 := hid hrk.1.fit2
  have hfit := hid hrk.1.fit
  have hlo' := hid hlo
  have hst' := hid hst
  have hlf4 := hid hrk.1.lf
  have hrun := hid (run16_calls s hs w)
  have hkm' := hid hkm
  clear hrk hlo hop0 hkm
  go_enter Tryz.func20, Tryz.ntmps20
  go_wp2_with fail
  refine hrun.out.mono ?_
  rintro e W1 ⟨k', m', v, wd, hkm2, rfl, hrow, hword, hB1⟩
  obtain ⟨rfl, rfl⟩ : k' = k ∧ m' = m := by
    have h := hkm2.symm.trans hkm'.out
    injection h with h1 h2
    exact ⟨h1, h2⟩
  obtain ⟨ao, cap, rfl⟩ := own_len hrow
  obtain ⟨n, hnn⟩ : ∃ n, Hid (m'.op.length = n) := ⟨_, rfl⟩
  have hwd' := hid hword
  rw [hnn.out] at hop
  obtain ⟨W2, hW2⟩ : ∃ W2, W1.alloc (.cells #[.slice ao n cap, .int .i64 1, .bool m'.nm, .string wd, .int .i64 (m'.lf : Int), .int .i64 (m'.lo : Int), .int .i64 (m'.hi : Int)] 43) = W2 := ⟨_, rfl⟩
  obtain ⟨b, hb⟩ : ∃ b, W1.heap.size = b := ⟨_, rfl⟩
  have hM2 : At W2 b (mcC (.slice ao n cap) wd m') 43 := by
    rw [← hW2, ← hb]
    have h := At.new W1 (mcC (.slice ao n cap) wd m') 43
    simpa [mcC, hst] using h
  have hr2 : W2.ownsRow w.heap.size 5 1 (.slice ao n cap) n (opC m'.op) := by
    rw [← hW2]
    rw [hnn.out] at hrow
    exact World.ownsRow.alloc hrow _
  have hBB : Below w.heap.size w W2 := by rw [← hW2]; exact hB1.alloc hB1.size _
  have c0 := (mcAt_of hM2).c0
  have c1 : W2.cell? ⟨b, 1, none⟩ = some (.int .i64 1) := by rw [(mcAt_of hM2).c1, hst]; rfl
  have c3 := (mcAt_of hM2).c3
  have hM2' := hid hM2
  have hr2' := hid hr2
  have hB2' := hid hBB
  have hni : (n : Int) ≤ 1048576 := by omega
  clear hrun hkm2 hrow hword hB1 hM2 hr2 hBB
  dsimp only [mcC]
  rw [hnn.out, hst]
  clear hst
  have hP : Hid (mkS [93] = ⟨#[93]⟩) := hid rfl
  have hpos : n ≠ 0 := fun e => hok.out.s12 (by have := hst'.out; omega) (List.eq_nil_of_length_eq_zero (by rw [hnn.out]; exact e))
  obtain ⟨N, hNa, hNb⟩ : ∃ N, N + 1 ≤ n ∧ n ≤ N + 1 := ⟨n - 1, by omega, by omega⟩
  obtain ⟨OP, hOP⟩ : ∃ OP, Hid (m'.op.dropLast = OP) := ⟨_, rfl⟩
  have hOl : Hid (OP.length = N) := hid (by rw [← hOP.out, List.length_dropLast, hnn.out]; omega)
  have hOg : Hid (∀ (i x : Nat), OP[i]? = some x → m'.op[i]? = some x) := hid (fun i x h => by rw [← hOP.out] at h; rw [List.getElem?_dropLast] at h; split at h; exact h; cases h)
  go_wp2
  go_loopw [5, 7] (fun ss ii wr => ∃ (j : Nat) (T : ByteArray), j ≤ N ∧ ii = .int .i64 ((j : Int) - 1) ∧ ss = .string T ∧ T.size ≤ 2097152 + (N - j) ∧ Hid (T = ⟨#[93]⟩ ++ mkS (shutsL (OP.drop j))) ∧ Hid (wr.ownsRow w.heap.size 5 1 (.slice ao n cap) n (opC m'.op)) ∧ Hid (At wr b (mcC (.slice ao n cap) wd m') 43) ∧ Hid (Below w.heap.size w wr)) (fun _ ii _ => (intOf ii + 1).toNat)
  case atStart =>
    refine ⟨N, ⟨#[93]⟩, Nat.le_refl _, congrArg (Value.int IntKind.i64) (by omega), rfl, by first | (show ByteArray.size _ ≤ _; simp [ByteArray.size]; done) | omega, hid ?_, hr2', hM2', hB2'⟩
    rw [List.drop_of_length_le (by have := hOl.out; omega)]
    show _ = _ ++ mkS []
    apply ByteArray.ext
    simp [mkS]
  case round =>
    clear c0 c1 c3
    obtain ⟨j, T, hj, rfl, rfl, hTs, hT, hr, hA, hB⟩ := hrel
    have c0 := (mcAt_of hA.out).c0
    cases j with
    | zero =>
      rw [show (((0 : Nat) : Int) - 1) = -1 from rfl]
      have hTZ : T = Z := by
        rw [hT.out, ← hZ.out, hfin.out, List.drop_zero, mkS_appV, ← hOP.out]
        rfl
      subst hTZ
      go_wp2
      go_ret
      exact ⟨rfl, hB.out⟩
    | succ J =>
      rw [show (((J + 1 : Nat) : Int) - 1) = (J : Int) by omega]
      obtain ⟨x, hx⟩ : ∃ x, OP[J]? = some x := ⟨_, List.getElem?_eq_getElem (by have := hOl.out; omega)⟩
      have hxm := hOg.out J x hx
      have hx2 : x = 91 ∨ x = 123 := hf2.out.op x (List.mem_of_getElem? hxm)
      obtain ⟨g, rfl, hcell⟩ := own_cellU hr.out hxm
      have hadd : (⟨g, 0, none⟩ : Addr).add J = ⟨g, J, none⟩ := by by_cases h : J = 0 <;> simp [Addr.add, h]
      have l0 : (J : Int) < (n : Int) := by omega
      have l1 : (x : Int) + 2 < 256 := by omega
      have l2 : (0 : Int) ≤ (J : Int) := by omega
      obtain ⟨Wn, hWn⟩ : ∃ Wn, wr.alloc (.cells #[.int .u8 ((x : Int) + 2)] 5) = Wn := ⟨_, rfl⟩
      have hcv : (convert 39 9 (.slice (some ⟨wr.heap.size, 0, none⟩) 1 1)).run Tryz.prog Wn = .ok (.string (mkS [x + 2])) Wn := by
        refine conv_row (B := wr.heap.size) ?_
        rw [strCells_mkS (fun y hy => by simp at hy; omega), mkS_size, ← hWn]
        exact ⟨rfl, .inr ⟨wr.heap.size, 1, #[.int .u8 ((x : Int) + 2)], rfl, Nat.le_refl _, At.new _ _ _, Nat.le_refl _, by unfold maxLen; decide, rfl, by simp⟩⟩
      obtain ⟨Y, hY⟩ : ∃ Y, mkS [x + 2] = Y := ⟨_, rfl⟩
      rw [hY] at hcv
      have hYs : Y.size = 1 := by rw [← hY, mkS_size]; rfl
      have hTn : Hid (T ++ Y = ⟨#[93]⟩ ++ mkS (shutsL (OP.drop J))) := hid (by
        have hJ : J < OP.length := by have := hOl.out; omega
        have hd : OP.drop J = x :: OP.drop (J + 1) := by
          rw [List.drop_eq_getElem_cons hJ]
          congr 1
          rw [List.getElem?_eq_getElem hJ] at hx
          injection hx
        rw [hT.out, ← hY, ByteArray.append_assoc, ← mkS_appV, ← shuts_cons, hd])
      have hY' := hid hYs
      have hnew := hid (And.intro (show Wn.ownsRow w.heap.size 5 1 (.slice (some ⟨g, 0, none⟩) n cap) n (opC m'.op) by rw [← hWn]; exact World.ownsRow.alloc hr.out _) (And.intro (show At Wn b (mcC (.slice (some ⟨g, 0, none⟩) n cap) wd m') 43 by rw [← hWn]; exact hA.out.alloc _) (show Below w.heap.size w Wn by rw [← hWn]; exact hB.out.alloc hB.out.size _)))
      clear hx hxm hx2 hY
      go_wp2
      exact ⟨⟨J, T ++ Y, by omega, rfl, rfl, by rw [ByteArray.size_append]; have := hY'.out; omega, hTn, hid hnew.out.1, hid hnew.out.2.1, hid hnew.out.2.2⟩, by first | (simp [intOf]; done) | (simp [intOf]; omega)⟩

set_option maxRecDepth 10000 in
set_option maxHeartbeats 2000000 in
theorem fin16_2 (s : ByteArray) (hs : s.size ≤ 1048576) (k : Nat) (m : Mc) (hkm : runM mc0 (byts s) = (k, m)) (hst : m.st = 2) (w : World) :
    Calls Tryz.prog 20 #[.string s] w fun e w' => e = .returned (.string (mkS (finM m))) ∧ Below w.heap.size w w' := by
  have hfin : Hid (finM m = [125] ++ shutsL m.op.dropLast) := hid (by unfold finM; rw [if_neg (by omega), if_neg (by omega), if_pos (by omega)])
  obtain ⟨Z, hZ⟩ : ∃ Z, Hid (mkS (finM m) = Z) := ⟨_, rfl⟩
  rw [hZ.out]
  have hrk := run_ok (byts s)
  have hlo := run_lo (byts s)
  rw [hkm, byts_length] at hrk
  rw [hkm] at hlo
  have hop0 : m.op.length ≤ s.size := hrk.1.op
  have hop : m.op.length ≤ 1048576 := by omega
  have hok := hid hrk.1.ok
  have hf2 := hid hrk.1.fit2
  have hfit := hid hrk.1.fit
  have hlo' := hid hlo
  have hst' := hid hst
  have hlf4 := hid hrk.1.lf
  have hrun := hid (run16_calls s hs w)
  have hkm' := hid hkm
  clear hrk hlo hop0 hkm
  go_enter Tryz.func20, Tryz.ntmps20
  go_wp2_with fail
  refine hrun.out.mono ?_
  rintro e W1 ⟨k', m', v, wd, hkm2, rfl, hrow, hword, hB1⟩
  obtain ⟨rfl, rfl⟩ : k' = k ∧ m' = m := by
    have h := hkm2.symm.trans hkm'.out
    injection h with h1 h2
    exact ⟨h1, h2⟩
  obtain ⟨ao, cap, rfl⟩ := own_len hrow
  obtain ⟨n, hnn⟩ : ∃ n, Hid (m'.op.length = n) := ⟨_, rfl⟩
  have hwd' := hid hword
  rw [hnn.out] at hop
  obtain ⟨W2, hW2⟩ : ∃ W2, W1.alloc (.cells #[.slice ao n cap, .int .i64 2, .bool m'.nm, .string wd, .int .i64 (m'.lf : Int), .int .i64 (m'.lo : Int), .int .i64 (m'.hi : Int)] 43) = W2 := ⟨_, rfl⟩
  obtain ⟨b, hb⟩ : ∃ b, W1.heap.size = b := ⟨_, rfl⟩
  have hM2 : At W2 b (mcC (.slice ao n cap) wd m') 43 := by
    rw [← hW2, ← hb]
    have h := At.new W1 (mcC (.slice ao n cap) wd m') 43
    simpa [mcC, hst] using h
  have hr2 : W2.ownsRow w.heap.size 5 1 (.slice ao n cap) n (opC m'.op) := by
    rw [← hW2]
    rw [hnn.out] at hrow
    exact World.ownsRow.alloc hrow _
  have hBB : Below w.heap.size w W2 := by rw [← hW2]; exact hB1.alloc hB1.size _
  have c0 := (mcAt_of hM2).c0
  have c1 : W2.cell? ⟨b, 1, none⟩ = some (.int .i64 2) := by rw [(mcAt_of hM2).c1, hst]; rfl
  have c3 := (mcAt_of hM2).c3
  have hM2' := hid hM2
  have hr2' := hid hr2
  have hB2' := hid hBB
  have hni : (n : Int) ≤ 1048576 := by omega
  clear hrun hkm2 hrow hword hB1 hM2 hr2 hBB
  dsimp only [mcC]
  rw [hnn.out, hst]
  clear hst
  have hP : Hid (mkS [125] = ⟨#[125]⟩) := hid rfl
  have hpos : n ≠ 0 := fun e => hok.out.s12 (by have := hst'.out; omega) (List.eq_nil_of_length_eq_zero (by rw [hnn.out]; exact e))
  obtain ⟨N, hNa, hNb⟩ : ∃ N, N + 1 ≤ n ∧ n ≤ N + 1 := ⟨n - 1, by omega, by omega⟩
  obtain ⟨OP, hOP⟩ : ∃ OP, Hid (m'.op.dropLast = OP) := ⟨_, rfl⟩
  have hOl : Hid (OP.length = N) := hid (by rw [← hOP.out, List.length_dropLast, hnn.out]; omega)
  have hOg : Hid (∀ (i x : Nat), OP[i]? = some x → m'.op[i]? = some x) := hid (fun i x h => by rw [← hOP.out] at h; rw [List.getElem?_dropLast] at h; split at h; exact h; cases h)
  go_wp2
  go_loopw [5, 7] (fun ss ii wr => ∃ (j : Nat) (T : ByteArray), j ≤ N ∧ ii = .int .i64 ((j : Int) - 1) ∧ ss = .string T ∧ T.size ≤ 2097152 + (N - j) ∧ Hid (T = ⟨#[125]⟩ ++ mkS (shutsL (OP.drop j))) ∧ Hid (wr.ownsRow w.heap.size 5 1 (.slice ao n cap) n (opC m'.op)) ∧ Hid (At wr b (mcC (.slice ao n cap) wd m') 43) ∧ Hid (Below w.heap.size w wr)) (fun _ ii _ => (intOf ii + 1).toNat)
  case atStart =>
    refine ⟨N, ⟨#[125]⟩, Nat.le_refl _, congrArg (Value.int IntKind.i64) (by omega), rfl, by first | (show ByteArray.size _ ≤ _; simp [ByteArray.size]; done) | omega, hid ?_, hr2', hM2', hB2'⟩
    rw [List.drop_of_length_le (by have := hOl.out; omega)]
    show _ = _ ++ mkS []
    apply ByteArray.ext
    simp [mkS]
  case round =>
    clear c0 c1 c3
    obtain ⟨j, T, hj, rfl, rfl, hTs, hT, hr, hA, hB⟩ := hrel
    have c0 := (mcAt_of hA.out).c0
    cases j with
    | zero =>
      rw [show (((0 : Nat) : Int) - 1) = -1 from rfl]
      have hTZ : T = Z := by
        rw [hT.out, ← hZ.out, hfin.out, List.drop_zero, mkS_appV, ← hOP.out]
        rfl
      subst hTZ
      go_wp2
      go_ret
      exact ⟨rfl, hB.out⟩
    | succ J =>
      rw [show (((J + 1 : Nat) : Int) - 1) = (J : Int) by omega]
      obtain ⟨x, hx⟩ : ∃ x, OP[J]? = some x := ⟨_, List.getElem?_eq_getElem (by have := hOl.out; omega)⟩
      have hxm := hOg.out J x hx
      have hx2 : x = 91 ∨ x = 123 := hf2.out.op x (List.mem_of_getElem? hxm)
      obtain ⟨g, rfl, hcell⟩ := own_cellU hr.out hxm
      have hadd : (⟨g, 0, none⟩ : Addr).add J = ⟨g, J, none⟩ := by by_cases h : J = 0 <;> simp [Addr.add, h]
      have l0 : (J : Int) < (n : Int) := by omega
      have l1 : (x : Int) + 2 < 256 := by omega
      have l2 : (0 : Int) ≤ (J : Int) := by omega
      obtain ⟨Wn, hWn⟩ : ∃ Wn, wr.alloc (.cells #[.int .u8 ((x : Int) + 2)] 5) = Wn := ⟨_, rfl⟩
      have hcv : (convert 39 9 (.slice (some ⟨wr.heap.size, 0, none⟩) 1 1)).run Tryz.prog Wn = .ok (.string (mkS [x + 2])) Wn := by
        refine conv_row (B := wr.heap.size) ?_
        rw [strCells_mkS (fun y hy => by simp at hy; omega), mkS_size, ← hWn]
        exact ⟨rfl, .inr ⟨wr.heap.size, 1, #[.int .u8 ((x : Int) + 2)], rfl, Nat.le_refl _, At.new _ _ _, Nat.le_refl _, by unfold maxLen; decide, rfl, by simp⟩⟩
      obtain ⟨Y, hY⟩ : ∃ Y, mkS [x + 2] = Y := ⟨_, rfl⟩
      rw [hY] at hcv
      have hYs : Y.size = 1 := by rw [← hY, mkS_size]; rfl
      have hTn : Hid (T ++ Y = ⟨#[125]⟩ ++ mkS (shutsL (OP.drop J))) := hid (by
        have hJ : J < OP.length := by have := hOl.out; omega
        have hd : OP.drop J = x :: OP.drop (J + 1) := by
          rw [List.drop_eq_getElem_cons hJ]
          congr 1
          rw [List.getElem?_eq_getElem hJ] at hx
          injection hx
        rw [hT.out, ← hY, ByteArray.append_assoc, ← mkS_appV, ← shuts_cons, hd])
      have hY' := hid hYs
      have hnew := hid (And.intro (show Wn.ownsRow w.heap.size 5 1 (.slice (some ⟨g, 0, none⟩) n cap) n (opC m'.op) by rw [← hWn]; exact World.ownsRow.alloc hr.out _) (And.intro (show At Wn b (mcC (.slice (some ⟨g, 0, none⟩) n cap) wd m') 43 by rw [← hWn]; exact hA.out.alloc _) (show Below w.heap.size w Wn by rw [← hWn]; exact hB.out.alloc hB.out.size _)))
      clear hx hxm hx2 hY
      go_wp2
      exact ⟨⟨J, T ++ Y, by omega, rfl, rfl, by rw [ByteArray.size_append]; have := hY'.out; omega, hTn, hid hnew.out.1, hid hnew.out.2.1, hid hnew.out.2.2⟩, by first | (simp [intOf]; done) | (simp [intOf]; omega)⟩

set_option maxRecDepth 10000 in
set_option maxHeartbeats 2000000 in
theorem fin16_3 (s : ByteArray) (hs : s.size ≤ 1048576) (k : Nat) (m : Mc) (hkm : runM mc0 (byts s) = (k, m)) (hst : m.st = 3) (w : World) :
    Calls Tryz.prog 20 #[.string s] w fun e w' => e = .returned (.string (mkS (finM m))) ∧ Below w.heap.size w w' := by
  have hfin : Hid (finM m = [34, 34, 58, 48] ++ shutsL m.op) := hid (by unfold finM; rw [if_neg (by omega), if_neg (by omega), if_neg (by omega), if_pos (by omega)])
  obtain ⟨Z, hZ⟩ : ∃ Z, Hid (mkS (finM m) = Z) := ⟨_, rfl⟩
  rw [hZ.out]
  have hrk := run_ok (byts s)
  have hlo := run_lo (byts s)
  rw [hkm, byts_length] at hrk
  rw [hkm] at hlo
  have hop0 : m.op.length ≤ s.size := hrk.1.op
  have hop : m.op.length ≤ 1048576 := by omega
  have hok := hid hrk.1.ok
  have hf2 := hid hrk.1.fit2
  have hfit := hid hrk.1.fit
  have hlo' := hid hlo
  have hst' := hid hst
  have hlf4 := hid hrk.1.lf
  have hrun := hid (run16_calls s hs w)
  have hkm' := hid hkm
  clear hrk hlo hop0 hkm
  go_enter Tryz.func20, Tryz.ntmps20
  go_wp2_with fail
  refine hrun.out.mono ?_
  rintro e W1 ⟨k', m', v, wd, hkm2, rfl, hrow, hword, hB1⟩
  obtain ⟨rfl, rfl⟩ : k' = k ∧ m' = m := by
    have h := hkm2.symm.trans hkm'.out
    injection h with h1 h2
    exact ⟨h1, h2⟩
  obtain ⟨ao, cap, rfl⟩ := own_len hrow
  obtain ⟨n, hnn⟩ : ∃ n, Hid (m'.op.length = n) := ⟨_, rfl⟩
  have hwd' := hid hword
  rw [hnn.out] at hop
  obtain ⟨W2, hW2⟩ : ∃ W2, W1.alloc (.cells #[.slice ao n cap, .int .i64 3, .bool m'.nm, .string wd, .int .i64 (m'.lf : Int), .int .i64 (m'.lo : Int), .int .i64 (m'.hi : Int)] 43) = W2 := ⟨_, rfl⟩
  obtain ⟨b, hb⟩ : ∃ b, W1.heap.size = b := ⟨_, rfl⟩
  have hM2 : At W2 b (mcC (.slice ao n cap) wd m') 43 := by
    rw [← hW2, ← hb]
    have h := At.new W1 (mcC (.slice ao n cap) wd m') 43
    simpa [mcC, hst] using h
  have hr2 : W2.ownsRow w.heap.size 5 1 (.slice ao n cap) n (opC m'.op) := by
    rw [← hW2]
    rw [hnn.out] at hrow
    exact World.ownsRow.alloc hrow _
  have hBB : Below w.heap.size w W2 := by rw [← hW2]; exact hB1.alloc hB1.size _
  have c0 := (mcAt_of hM2).c0
  have c1 : W2.cell? ⟨b, 1, none⟩ = some (.int .i64 3) := by rw [(mcAt_of hM2).c1, hst]; rfl
  have c3 := (mcAt_of hM2).c3
  have hM2' := hid hM2
  have hr2' := hid hr2
  have hB2' := hid hBB
  have hni : (n : Int) ≤ 1048576 := by omega
  clear hrun hkm2 hrow hword hB1 hM2 hr2 hBB
  dsimp only [mcC]
  rw [hnn.out, hst]
  clear hst
  have hP : Hid (mkS [34, 34, 58, 48] = ⟨#[34, 34, 58, 48]⟩) := hid rfl
  obtain ⟨OP, hOP⟩ : ∃ OP, Hid (m'.op = OP) := ⟨_, rfl⟩
  have hOl : Hid (OP.length = n) := hid (by rw [← hOP.out]; exact hnn.out)
  have hOg : Hid (∀ (i x : Nat), OP[i]? = some x → m'.op[i]? = some x) := hid (fun i x h => by rw [← hOP.out] at h; exact h)
  go_wp2
  go_loopw [5, 7] (fun ss ii wr => ∃ (j : Nat) (T : ByteArray), j ≤ n ∧ ii = .int .i64 ((j : Int) - 1) ∧ ss = .string T ∧ T.size ≤ 2097152 + (n - j) ∧ Hid (T = ⟨#[34, 34, 58, 48]⟩ ++ mkS (shutsL (OP.drop j))) ∧ Hid (wr.ownsRow w.heap.size 5 1 (.slice ao n cap) n (opC m'.op)) ∧ Hid (At wr b (mcC (.slice ao n cap) wd m') 43) ∧ Hid (Below w.heap.size w wr)) (fun _ ii _ => (intOf ii + 1).toNat)
  case atStart =>
    refine ⟨n, ⟨#[34, 34, 58, 48]⟩, Nat.le_refl _, congrArg (Value.int IntKind.i64) (by omega), rfl, by first | (show ByteArray.size _ ≤ _; simp [ByteArray.size]; done) | omega, hid ?_, hr2', hM2', hB2'⟩
    rw [List.drop_of_length_le (by have := hOl.out; omega)]
    show _ = _ ++ mkS []
    apply ByteArray.ext
    simp [mkS]
  case round =>
    clear c0 c1 c3
    obtain ⟨j, T, hj, rfl, rfl, hTs, hT, hr, hA, hB⟩ := hrel
    have c0 := (mcAt_of hA.out).c0
    cases j with
    | zero =>
      rw [show (((0 : Nat) : Int) - 1) = -1 from rfl]
      have hTZ : T = Z := by
        rw [hT.out, ← hZ.out, hfin.out, List.drop_zero, mkS_appV, ← hOP.out]
        rfl
      subst hTZ
      go_wp2
      go_ret
      exact ⟨rfl, hB.out⟩
    | succ J =>
      rw [show (((J + 1 : Nat) : Int) - 1) = (J : Int) by omega]
      obtain ⟨x, hx⟩ : ∃ x, OP[J]? = some x := ⟨_, List.getElem?_eq_getElem (by have := hOl.out; omega)⟩
      have hxm := hOg.out J x hx
      have hx2 : x = 91 ∨ x = 123 := hf2.out.op x (List.mem_of_getElem? hxm)
      obtain ⟨g, rfl, hcell⟩ := own_cellU hr.out hxm
      have hadd : (⟨g, 0, none⟩ : Addr).add J = ⟨g, J, none⟩ := by by_cases h : J = 0 <;> simp [Addr.add, h]
      have l0 : (J : Int) < (n : Int) := by omega
      have l1 : (x : Int) + 2 < 256 := by omega
      have l2 : (0 : Int) ≤ (J : Int) := by omega
      obtain ⟨Wn, hWn⟩ : ∃ Wn, wr.alloc (.cells #[.int .u8 ((x : Int) + 2)] 5) = Wn := ⟨_, rfl⟩
      have hcv : (convert 39 9 (.slice (some ⟨wr.heap.size, 0, none⟩) 1 1)).run Tryz.prog Wn = .ok (.string (mkS [x + 2])) Wn := by
        refine conv_row (B := wr.heap.size) ?_
        rw [strCells_mkS (fun y hy => by simp at hy; omega), mkS_size, ← hWn]
        exact ⟨rfl, .inr ⟨wr.heap.size, 1, #[.int .u8 ((x : Int) + 2)], rfl, Nat.le_refl _, At.new _ _ _, Nat.le_refl _, by unfold maxLen; decide, rfl, by simp⟩⟩
      obtain ⟨Y, hY⟩ : ∃ Y, mkS [x + 2] = Y := ⟨_, rfl⟩
      rw [hY] at hcv
      have hYs : Y.size = 1 := by rw [← hY, mkS_size]; rfl
      have hTn : Hid (T ++ Y = ⟨#[34, 34, 58, 48]⟩ ++ mkS (shutsL (OP.drop J))) := hid (by
        have hJ : J < OP.length := by have := hOl.out; omega
        have hd : OP.drop J = x :: OP.drop (J + 1) := by
          rw [List.drop_eq_getElem_cons hJ]
          congr 1
          rw [List.getElem?_eq_getElem hJ] at hx
          injection hx
        rw [hT.out, ← hY, ByteArray.append_assoc, ← mkS_appV, ← shuts_cons, hd])
      have hY' := hid hYs
      have hnew := hid (And.intro (show Wn.ownsRow w.heap.size 5 1 (.slice (some ⟨g, 0, none⟩) n cap) n (opC m'.op) by rw [← hWn]; exact World.ownsRow.alloc hr.out _) (And.intro (show At Wn b (mcC (.slice (some ⟨g, 0, none⟩) n cap) wd m') 43 by rw [← hWn]; exact hA.out.alloc _) (show Below w.heap.size w Wn by rw [← hWn]; exact hB.out.alloc hB.out.size _)))
      clear hx hxm hx2 hY
      go_wp2
      exact ⟨⟨J, T ++ Y, by omega, rfl, rfl, by rw [ByteArray.size_append]; have := hY'.out; omega, hTn, hid hnew.out.1, hid hnew.out.2.1, hid hnew.out.2.2⟩, by first | (simp [intOf]; done) | (simp [intOf]; omega)⟩

set_option maxRecDepth 10000 in
set_option maxHeartbeats 2000000 in
theorem fin16_4 (s : ByteArray) (hs : s.size ≤ 1048576) (k : Nat) (m : Mc) (hkm : runM mc0 (byts s) = (k, m)) (hst : m.st = 4) (w : World) :
    Calls Tryz.prog 20 #[.string s] w fun e w' => e = .returned (.string (mkS (finM m))) ∧ Below w.heap.size w w' := by
  have hfin : Hid (finM m = [58, 48] ++ shutsL m.op) := hid (by unfold finM; rw [if_neg (by omega), if_neg (by omega), if_neg (by omega), if_neg (by omega), if_pos (by omega)])
  obtain ⟨Z, hZ⟩ : ∃ Z, Hid (mkS (finM m) = Z) := ⟨_, rfl⟩
  rw [hZ.out]
  have hrk := run_ok (byts s)
  have hlo := run_lo (byts s)
  rw [hkm, byts_length] at hrk
  rw [hkm] at hlo
  have hop0 : m.op.length ≤ s.size := hrk.1.op
  have hop : m.op.length ≤ 1048576 := by omega
  have hok := hid hrk.1.ok
  have hf2 := hid hrk.1.fit2
  have hfit := hid hrk.1.fit
  have hlo' := hid hlo
  have hst' := hid hst
  have hlf4 := hid hrk.1.lf
  have hrun := hid (run16_calls s hs w)
  have hkm' := hid hkm
  clear hrk hlo hop0 hkm
  go_enter Tryz.func20, Tryz.ntmps20
  go_wp2_with fail
  refine hrun.out.mono ?_
  rintro e W1 ⟨k', m', v, wd, hkm2, rfl, hrow, hword, hB1⟩
  obtain ⟨rfl, rfl⟩ : k' = k ∧ m' = m := by
    have h := hkm2.symm.trans hkm'.out
    injection h with h1 h2
    exact ⟨h1, h2⟩
  obtain ⟨ao, cap, rfl⟩ := own_len hrow
  obtain ⟨n, hnn⟩ : ∃ n, Hid (m'.op.length = n) := ⟨_, rfl⟩
  have hwd' := hid hword
  rw [hnn.out] at hop
  obtain ⟨W2, hW2⟩ : ∃ W2, W1.alloc (.cells #[.slice ao n cap, .int .i64 4, .bool m'.nm, .string wd, .int .i64 (m'.lf : Int), .int .i64 (m'.lo : Int), .int .i64 (m'.hi : Int)] 43) = W2 := ⟨_, rfl⟩
  obtain ⟨b, hb⟩ : ∃ b, W1.heap.size = b := ⟨_, rfl⟩
  have hM2 : At W2 b (mcC (.slice ao n cap) wd m') 43 := by
    rw [← hW2, ← hb]
    have h := At.new W1 (mcC (.slice ao n cap) wd m') 43
    simpa [mcC, hst] using h
  have hr2 : W2.ownsRow w.heap.size 5 1 (.slice ao n cap) n (opC m'.op) := by
    rw [← hW2]
    rw [hnn.out] at hrow
    exact World.ownsRow.alloc hrow _
  have hBB : Below w.heap.size w W2 := by rw [← hW2]; exact hB1.alloc hB1.size _
  have c0 := (mcAt_of hM2).c0
  have c1 : W2.cell? ⟨b, 1, none⟩ = some (.int .i64 4) := by rw [(mcAt_of hM2).c1, hst]; rfl
  have c3 := (mcAt_of hM2).c3
  have hM2' := hid hM2
  have hr2' := hid hr2
  have hB2' := hid hBB
  have hni : (n : Int) ≤ 1048576 := by omega
  clear hrun hkm2 hrow hword hB1 hM2 hr2 hBB
  dsimp only [mcC]
  rw [hnn.out, hst]
  clear hst
  have hP : Hid (mkS [58, 48] = ⟨#[58, 48]⟩) := hid rfl
  obtain ⟨OP, hOP⟩ : ∃ OP, Hid (m'.op = OP) := ⟨_, rfl⟩
  have hOl : Hid (OP.length = n) := hid (by rw [← hOP.out]; exact hnn.out)
  have hOg : Hid (∀ (i x : Nat), OP[i]? = some x → m'.op[i]? = some x) := hid (fun i x h => by rw [← hOP.out] at h; exact h)
  go_wp2
  go_loopw [5, 7] (fun ss ii wr => ∃ (j : Nat) (T : ByteArray), j ≤ n ∧ ii = .int .i64 ((j : Int) - 1) ∧ ss = .string T ∧ T.size ≤ 2097152 + (n - j) ∧ Hid (T = ⟨#[58, 48]⟩ ++ mkS (shutsL (OP.drop j))) ∧ Hid (wr.ownsRow w.heap.size 5 1 (.slice ao n cap) n (opC m'.op)) ∧ Hid (At wr b (mcC (.slice ao n cap) wd m') 43) ∧ Hid (Below w.heap.size w wr)) (fun _ ii _ => (intOf ii + 1).toNat)
  case atStart =>
    refine ⟨n, ⟨#[58, 48]⟩, Nat.le_refl _, congrArg (Value.int IntKind.i64) (by omega), rfl, by first | (show ByteArray.size _ ≤ _; simp [ByteArray.size]; done) | omega, hid ?_, hr2', hM2', hB2'⟩
    rw [List.drop_of_length_le (by have := hOl.out; omega)]
    show _ = _ ++ mkS []
    apply ByteArray.ext
    simp [mkS]
  case round =>
    clear c0 c1 c3
    obtain ⟨j, T, hj, rfl, rfl, hTs, hT, hr, hA, hB⟩ := hrel
    have c0 := (mcAt_of hA.out).c0
    cases j with
    | zero =>
      rw [show (((0 : Nat) : Int) - 1) = -1 from rfl]
      have hTZ : T = Z := by
        rw [hT.out, ← hZ.out, hfin.out, List.drop_zero, mkS_appV, ← hOP.out]
        rfl
      subst hTZ
      go_wp2
      go_ret
      exact ⟨rfl, hB.out⟩
    | succ J =>
      rw [show (((J + 1 : Nat) : Int) - 1) = (J : Int) by omega]
      obtain ⟨x, hx⟩ : ∃ x, OP[J]? = some x := ⟨_, List.getElem?_eq_getElem (by have := hOl.out; omega)⟩
      have hxm := hOg.out J x hx
      have hx2 : x = 91 ∨ x = 123 := hf2.out.op x (List.mem_of_getElem? hxm)
      obtain ⟨g, rfl, hcell⟩ := own_cellU hr.out hxm
      have hadd : (⟨g, 0, none⟩ : Addr).add J = ⟨g, J, none⟩ := by by_cases h : J = 0 <;> simp [Addr.add, h]
      have l0 : (J : Int) < (n : Int) := by omega
      have l1 : (x : Int) + 2 < 256 := by omega
      have l2 : (0 : Int) ≤ (J : Int) := by omega
      obtain ⟨Wn, hWn⟩ : ∃ Wn, wr.alloc (.cells #[.int .u8 ((x : Int) + 2)] 5) = Wn := ⟨_, rfl⟩
      have hcv : (convert 39 9 (.slice (some ⟨wr.heap.size, 0, none⟩) 1 1)).run Tryz.prog Wn = .ok (.string (mkS [x + 2])) Wn := by
        refine conv_row (B := wr.heap.size) ?_
        rw [strCells_mkS (fun y hy => by simp at hy; omega), mkS_size, ← hWn]
        exact ⟨rfl, .inr ⟨wr.heap.size, 1, #[.int .u8 ((x : Int) + 2)], rfl, Nat.le_refl _, At.new _ _ _, Nat.le_refl _, by unfold maxLen; decide, rfl, by simp⟩⟩
      obtain ⟨Y, hY⟩ : ∃ Y, mkS [x + 2] = Y := ⟨_, rfl⟩
      rw [hY] at hcv
      have hYs : Y.size = 1 := by rw [← hY, mkS_size]; rfl
      have hTn : Hid (T ++ Y = ⟨#[58, 48]⟩ ++ mkS (shutsL (OP.drop J))) := hid (by
        have hJ : J < OP.length := by have := hOl.out; omega
        have hd : OP.drop J = x :: OP.drop (J + 1) := by
          rw [List.drop_eq_getElem_cons hJ]
          congr 1
          rw [List.getElem?_eq_getElem hJ] at hx
          injection hx
        rw [hT.out, ← hY, ByteArray.append_assoc, ← mkS_appV, ← shuts_cons, hd])
      have hY' := hid hYs
      have hnew := hid (And.intro (show Wn.ownsRow w.heap.size 5 1 (.slice (some ⟨g, 0, none⟩) n cap) n (opC m'.op) by rw [← hWn]; exact World.ownsRow.alloc hr.out _) (And.intro (show At Wn b (mcC (.slice (some ⟨g, 0, none⟩) n cap) wd m') 43 by rw [← hWn]; exact hA.out.alloc _) (show Below w.heap.size w Wn by rw [← hWn]; exact hB.out.alloc hB.out.size _)))
      clear hx hxm hx2 hY
      go_wp2
      exact ⟨⟨J, T ++ Y, by omega, rfl, rfl, by rw [ByteArray.size_append]; have := hY'.out; omega, hTn, hid hnew.out.1, hid hnew.out.2.1, hid hnew.out.2.2⟩, by first | (simp [intOf]; done) | (simp [intOf]; omega)⟩

set_option maxRecDepth 10000 in
set_option maxHeartbeats 2000000 in
theorem fin16_9 (s : ByteArray) (hs : s.size ≤ 1048576) (k : Nat) (m : Mc) (hkm : runM mc0 (byts s) = (k, m)) (hst : m.st = 9) (w : World) :
    Calls Tryz.prog 20 #[.string s] w fun e w' => e = .returned (.string (mkS (finM m))) ∧ Below w.heap.size w w' := by
  have hfin : Hid (finM m = m.wd ++ shutsL m.op) := hid (by unfold finM; rw [if_neg (by omega), if_neg (by omega), if_neg (by omega), if_neg (by omega), if_neg (by omega), if_pos (by omega)])
  obtain ⟨Z, hZ⟩ : ∃ Z, Hid (mkS (finM m) = Z) := ⟨_, rfl⟩
  rw [hZ.out]
  have hrk := run_ok (byts s)
  have hlo := run_lo (byts s)
  rw [hkm, byts_length] at hrk
  rw [hkm] at hlo
  have hop0 : m.op.length ≤ s.size := hrk.1.op
  have hop : m.op.length ≤ 1048576 := by omega
  have hok := hid hrk.1.ok
  have hf2 := hid hrk.1.fit2
  have hfit := hid hrk.1.fit
  have hlo' := hid hlo
  have hst' := hid hst
  have hlf4 := hid hrk.1.lf
  have hrun := hid (run16_calls s hs w)
  have hkm' := hid hkm
  clear hrk hlo hop0 hkm
  go_enter Tryz.func20, Tryz.ntmps20
  go_wp2_with fail
  refine hrun.out.mono ?_
  rintro e W1 ⟨k', m', v, wd, hkm2, rfl, hrow, hword, hB1⟩
  obtain ⟨rfl, rfl⟩ : k' = k ∧ m' = m := by
    have h := hkm2.symm.trans hkm'.out
    injection h with h1 h2
    exact ⟨h1, h2⟩
  obtain ⟨ao, cap, rfl⟩ := own_len hrow
  obtain ⟨n, hnn⟩ : ∃ n, Hid (m'.op.length = n) := ⟨_, rfl⟩
  have hwd' := hid hword
  rw [hnn.out] at hop
  obtain ⟨W2, hW2⟩ : ∃ W2, W1.alloc (.cells #[.slice ao n cap, .int .i64 9, .bool m'.nm, .string wd, .int .i64 (m'.lf : Int), .int .i64 (m'.lo : Int), .int .i64 (m'.hi : Int)] 43) = W2 := ⟨_, rfl⟩
  obtain ⟨b, hb⟩ : ∃ b, W1.heap.size = b := ⟨_, rfl⟩
  have hM2 : At W2 b (mcC (.slice ao n cap) wd m') 43 := by
    rw [← hW2, ← hb]
    have h := At.new W1 (mcC (.slice ao n cap) wd m') 43
    simpa [mcC, hst] using h
  have hr2 : W2.ownsRow w.heap.size 5 1 (.slice ao n cap) n (opC m'.op) := by
    rw [← hW2]
    rw [hnn.out] at hrow
    exact World.ownsRow.alloc hrow _
  have hBB : Below w.heap.size w W2 := by rw [← hW2]; exact hB1.alloc hB1.size _
  have c0 := (mcAt_of hM2).c0
  have c1 : W2.cell? ⟨b, 1, none⟩ = some (.int .i64 9) := by rw [(mcAt_of hM2).c1, hst]; rfl
  have c3 := (mcAt_of hM2).c3
  have hM2' := hid hM2
  have hr2' := hid hr2
  have hB2' := hid hBB
  have hni : (n : Int) ≤ 1048576 := by omega
  clear hrun hkm2 hrow hword hB1 hM2 hr2 hBB
  dsimp only [mcC]
  rw [hnn.out, hst]
  clear hst
  obtain ⟨P, hP⟩ : ∃ P, Hid (mkS m'.wd = P) := ⟨_, rfl⟩
  have hPe : wd = P := by rw [← hP.out, ← hwd'.out, mkS_byts]
  subst hPe
  have hPs : wd.size ≤ 2097152 := by
    rw [← byts_length, hwd'.out]
    have h4 := run_wd (byts s)
    rw [hkm'.out] at h4
    have h5 : m'.wd.length ≤ 4 := h4
    omega
  obtain ⟨OP, hOP⟩ : ∃ OP, Hid (m'.op = OP) := ⟨_, rfl⟩
  have hOl : Hid (OP.length = n) := hid (by rw [← hOP.out]; exact hnn.out)
  have hOg : Hid (∀ (i x : Nat), OP[i]? = some x → m'.op[i]? = some x) := hid (fun i x h => by rw [← hOP.out] at h; exact h)
  go_wp2
  go_loopw [5, 7] (fun ss ii wr => ∃ (j : Nat) (T : ByteArray), j ≤ n ∧ ii = .int .i64 ((j : Int) - 1) ∧ ss = .string T ∧ T.size ≤ 2097152 + (n - j) ∧ Hid (T = wd ++ mkS (shutsL (OP.drop j))) ∧ Hid (wr.ownsRow w.heap.size 5 1 (.slice ao n cap) n (opC m'.op)) ∧ Hid (At wr b (mcC (.slice ao n cap) wd m') 43) ∧ Hid (Below w.heap.size w wr)) (fun _ ii _ => (intOf ii + 1).toNat)
  case atStart =>
    refine ⟨n, wd, Nat.le_refl _, congrArg (Value.int IntKind.i64) (by omega), rfl, by omega, hid ?_, hr2', hM2', hB2'⟩
    rw [List.drop_of_length_le (by have := hOl.out; omega)]
    show _ = _ ++ mkS []
    apply ByteArray.ext
    simp [mkS]
  case round =>
    clear c0 c1 c3
    obtain ⟨j, T, hj, rfl, rfl, hTs, hT, hr, hA, hB⟩ := hrel
    have c0 := (mcAt_of hA.out).c0
    cases j with
    | zero =>
      rw [show (((0 : Nat) : Int) - 1) = -1 from rfl]
      have hTZ : T = Z := by
        rw [hT.out, ← hZ.out, hfin.out, List.drop_zero, mkS_appV, ← hOP.out]
        rw [hP.out]
      subst hTZ
      go_wp2
      go_ret
      exact ⟨rfl, hB.out⟩
    | succ J =>
      rw [show (((J + 1 : Nat) : Int) - 1) = (J : Int) by omega]
      obtain ⟨x, hx⟩ : ∃ x, OP[J]? = some x := ⟨_, List.getElem?_eq_getElem (by have := hOl.out; omega)⟩
      have hxm := hOg.out J x hx
      have hx2 : x = 91 ∨ x = 123 := hf2.out.op x (List.mem_of_getElem? hxm)
      obtain ⟨g, rfl, hcell⟩ := own_cellU hr.out hxm
      have hadd : (⟨g, 0, none⟩ : Addr).add J = ⟨g, J, none⟩ := by by_cases h : J = 0 <;> simp [Addr.add, h]
      have l0 : (J : Int) < (n : Int) := by omega
      have l1 : (x : Int) + 2 < 256 := by omega
      have l2 : (0 : Int) ≤ (J : Int) := by omega
      obtain ⟨Wn, hWn⟩ : ∃ Wn, wr.alloc (.cells #[.int .u8 ((x : Int) + 2)] 5) = Wn := ⟨_, rfl⟩
      have hcv : (convert 39 9 (.slice (some ⟨wr.heap.size, 0, none⟩) 1 1)).run Tryz.prog Wn = .ok (.string (mkS [x + 2])) Wn := by
        refine conv_row (B := wr.heap.size) ?_
        rw [strCells_mkS (fun y hy => by simp at hy; omega), mkS_size, ← hWn]
        exact ⟨rfl, .inr ⟨wr.heap.size, 1, #[.int .u8 ((x : Int) + 2)], rfl, Nat.le_refl _, At.new _ _ _, Nat.le_refl _, by unfold maxLen; decide, rfl, by simp⟩⟩
      obtain ⟨Y, hY⟩ : ∃ Y, mkS [x + 2] = Y := ⟨_, rfl⟩
      rw [hY] at hcv
      have hYs : Y.size = 1 := by rw [← hY, mkS_size]; rfl
      have hTn : Hid (T ++ Y = wd ++ mkS (shutsL (OP.drop J))) := hid (by
        have hJ : J < OP.length := by have := hOl.out; omega
        have hd : OP.drop J = x :: OP.drop (J + 1) := by
          rw [List.drop_eq_getElem_cons hJ]
          congr 1
          rw [List.getElem?_eq_getElem hJ] at hx
          injection hx
        rw [hT.out, ← hY, ByteArray.append_assoc, ← mkS_appV, ← shuts_cons, hd])
      have hY' := hid hYs
      have hnew := hid (And.intro (show Wn.ownsRow w.heap.size 5 1 (.slice (some ⟨g, 0, none⟩) n cap) n (opC m'.op) by rw [← hWn]; exact World.ownsRow.alloc hr.out _) (And.intro (show At Wn b (mcC (.slice (some ⟨g, 0, none⟩) n cap) wd m') 43 by rw [← hWn]; exact hA.out.alloc _) (show Below w.heap.size w Wn by rw [← hWn]; exact hB.out.alloc hB.out.size _)))
      clear hx hxm hx2 hY
      go_wp2
      exact ⟨⟨J, T ++ Y, by omega, rfl, rfl, by rw [ByteArray.size_append]; have := hY'.out; omega, hTn, hid hnew.out.1, hid hnew.out.2.1, hid hnew.out.2.2⟩, by first | (simp [intOf]; done) | (simp [intOf]; omega)⟩

set_option maxRecDepth 10000 in
set_option maxHeartbeats 2000000 in
theorem fin16_6 (s : ByteArray) (hs : s.size ≤ 1048576) (k : Nat) (m : Mc) (hkm : runM mc0 (byts s) = (k, m)) (hst : m.st = 6) (w : World) :
    Calls Tryz.prog 20 #[.string s] w fun e w' => e = .returned (.string (mkS (finM m))) ∧ Below w.heap.size w w' := by
  have hfin : Hid (finM m = textE m ++ shutsL m.op) := hid (by unfold finM; rw [if_neg (by omega), if_neg (by omega), if_neg (by omega), if_neg (by omega), if_neg (by omega), if_neg (by omega), if_pos (by omega)])
  obtain ⟨Z, hZ⟩ : ∃ Z, Hid (mkS (finM m) = Z) := ⟨_, rfl⟩
  rw [hZ.out]
  have hrk := run_ok (byts s)
  have hlo := run_lo (byts s)
  rw [hkm, byts_length] at hrk
  rw [hkm] at hlo
  have hop0 : m.op.length ≤ s.size := hrk.1.op
  have hop : m.op.length ≤ 1048576 := by omega
  have hok := hid hrk.1.ok
  have hf2 := hid hrk.1.fit2
  have hfit := hid hrk.1.fit
  have hlo' := hid hlo
  have hst' := hid hst
  have hlf4 := hid hrk.1.lf
  have hrun := hid (run16_calls s hs w)
  have hkm' := hid hkm
  clear hrk hlo hop0 hkm
  go_enter Tryz.func20, Tryz.ntmps20
  go_wp2_with fail
  refine hrun.out.mono ?_
  rintro e W1 ⟨k', m', v, wd, hkm2, rfl, hrow, hword, hB1⟩
  obtain ⟨rfl, rfl⟩ : k' = k ∧ m' = m := by
    have h := hkm2.symm.trans hkm'.out
    injection h with h1 h2
    exact ⟨h1, h2⟩
  obtain ⟨ao, cap, rfl⟩ := own_len hrow
  obtain ⟨n, hnn⟩ : ∃ n, Hid (m'.op.length = n) := ⟨_, rfl⟩
  have hwd' := hid hword
  rw [hnn.out] at hop
  obtain ⟨W2, hW2⟩ : ∃ W2, W1.alloc (.cells #[.slice ao n cap, .int .i64 6, .bool m'.nm, .string wd, .int .i64 (m'.lf : Int), .int .i64 (m'.lo : Int), .int .i64 (m'.hi : Int)] 43) = W2 := ⟨_, rfl⟩
  obtain ⟨b, hb⟩ : ∃ b, W1.heap.size = b := ⟨_, rfl⟩
  have hM2 : At W2 b (mcC (.slice ao n cap) wd m') 43 := by
    rw [← hW2, ← hb]
    have h := At.new W1 (mcC (.slice ao n cap) wd m') 43
    simpa [mcC, hst] using h
  have hr2 : W2.ownsRow w.heap.size 5 1 (.slice ao n cap) n (opC m'.op) := by
    rw [← hW2]
    rw [hnn.out] at hrow
    exact World.ownsRow.alloc hrow _
  have hBB : Below w.heap.size w W2 := by rw [← hW2]; exact hB1.alloc hB1.size _
  have c0 := (mcAt_of hM2).c0
  have c1 : W2.cell? ⟨b, 1, none⟩ = some (.int .i64 6) := by rw [(mcAt_of hM2).c1, hst]; rfl
  have c3 := (mcAt_of hM2).c3
  have hM2' := hid hM2
  have hr2' := hid hr2
  have hB2' := hid hBB
  have hni : (n : Int) ≤ 1048576 := by omega
  clear hrun hkm2 hrow hword hB1 hM2 hr2 hBB
  dsimp only [mcC]
  rw [hnn.out, hst]
  clear hst
  have htx := hid (text16_6 b 43 _ wd m' W2 hM2'.out hst'.out hlf4.out hlo'.out)
  obtain ⟨P, hP⟩ : ∃ P, Hid (mkS (textE m') = P) := ⟨_, rfl⟩
  rw [hP.out] at htx
  have hPs : P.size ≤ 2097152 := by
    rw [← hP.out, mkS_size, text_E]
    have h4 := hlf4.out
    simp only [List.length_append, tL, List.length_map, List.length_range]
    repeat' split
    all_goals simp
    all_goals omega
  go_wp2_with fail
  refine htx.out.mono ?_
  rintro e W3 ⟨rfl, hb3⟩
  replace hM2' := hid (hM2'.out.keptAll hb3)
  replace hr2' := hid (own_below hr2'.out hb3)
  replace hB2' := hid (hB2'.out.trans (hb3.mono hB2'.out.size))
  clear hb3 c0 c1 c3 htx hW2 hb
  obtain ⟨OP, hOP⟩ : ∃ OP, Hid (m'.op = OP) := ⟨_, rfl⟩
  have hOl : Hid (OP.length = n) := hid (by rw [← hOP.out]; exact hnn.out)
  have hOg : Hid (∀ (i x : Nat), OP[i]? = some x → m'.op[i]? = some x) := hid (fun i x h => by rw [← hOP.out] at h; exact h)
  go_wp2
  go_loopw [5, 7] (fun ss ii wr => ∃ (j : Nat) (T : ByteArray), j ≤ n ∧ ii = .int .i64 ((j : Int) - 1) ∧ ss = .string T ∧ T.size ≤ 2097152 + (n - j) ∧ Hid (T = P ++ mkS (shutsL (OP.drop j))) ∧ Hid (wr.ownsRow w.heap.size 5 1 (.slice ao n cap) n (opC m'.op)) ∧ Hid (At wr b (mcC (.slice ao n cap) wd m') 43) ∧ Hid (Below w.heap.size w wr)) (fun _ ii _ => (intOf ii + 1).toNat)
  case atStart =>
    refine ⟨n, P, Nat.le_refl _, congrArg (Value.int IntKind.i64) (by omega), rfl, by omega, hid ?_, hr2', hM2', hB2'⟩
    rw [List.drop_of_length_le (by have := hOl.out; omega)]
    show _ = _ ++ mkS []
    apply ByteArray.ext
    simp [mkS]
  case round =>
    skip
    obtain ⟨j, T, hj, rfl, rfl, hTs, hT, hr, hA, hB⟩ := hrel
    have c0 := (mcAt_of hA.out).c0
    cases j with
    | zero =>
      rw [show (((0 : Nat) : Int) - 1) = -1 from rfl]
      have hTZ : T = Z := by
        rw [hT.out, ← hZ.out, hfin.out, List.drop_zero, mkS_appV, ← hOP.out]
        rw [hP.out]
      subst hTZ
      go_wp2
      go_ret
      exact ⟨rfl, hB.out⟩
    | succ J =>
      rw [show (((J + 1 : Nat) : Int) - 1) = (J : Int) by omega]
      obtain ⟨x, hx⟩ : ∃ x, OP[J]? = some x := ⟨_, List.getElem?_eq_getElem (by have := hOl.out; omega)⟩
      have hxm := hOg.out J x hx
      have hx2 : x = 91 ∨ x = 123 := hf2.out.op x (List.mem_of_getElem? hxm)
      obtain ⟨g, rfl, hcell⟩ := own_cellU hr.out hxm
      have hadd : (⟨g, 0, none⟩ : Addr).add J = ⟨g, J, none⟩ := by by_cases h : J = 0 <;> simp [Addr.add, h]
      have l0 : (J : Int) < (n : Int) := by omega
      have l1 : (x : Int) + 2 < 256 := by omega
      have l2 : (0 : Int) ≤ (J : Int) := by omega
      obtain ⟨Wn, hWn⟩ : ∃ Wn, wr.alloc (.cells #[.int .u8 ((x : Int) + 2)] 5) = Wn := ⟨_, rfl⟩
      have hcv : (convert 39 9 (.slice (some ⟨wr.heap.size, 0, none⟩) 1 1)).run Tryz.prog Wn = .ok (.string (mkS [x + 2])) Wn := by
        refine conv_row (B := wr.heap.size) ?_
        rw [strCells_mkS (fun y hy => by simp at hy; omega), mkS_size, ← hWn]
        exact ⟨rfl, .inr ⟨wr.heap.size, 1, #[.int .u8 ((x : Int) + 2)], rfl, Nat.le_refl _, At.new _ _ _, Nat.le_refl _, by unfold maxLen; decide, rfl, by simp⟩⟩
      obtain ⟨Y, hY⟩ : ∃ Y, mkS [x + 2] = Y := ⟨_, rfl⟩
      rw [hY] at hcv
      have hYs : Y.size = 1 := by rw [← hY, mkS_size]; rfl
      have hTn : Hid (T ++ Y = P ++ mkS (shutsL (OP.drop J))) := hid (by
        have hJ : J < OP.length := by have := hOl.out; omega
        have hd : OP.drop J = x :: OP.drop (J + 1) := by
          rw [List.drop_eq_getElem_cons hJ]
          congr 1
          rw [List.getElem?_eq_getElem hJ] at hx
          injection hx
        rw [hT.out, ← hY, ByteArray.append_assoc, ← mkS_appV, ← shuts_cons, hd])
      have hY' := hid hYs
      have hnew := hid (And.intro (show Wn.ownsRow w.heap.size 5 1 (.slice (some ⟨g, 0, none⟩) n cap) n (opC m'.op) by rw [← hWn]; exact World.ownsRow.alloc hr.out _) (And.intro (show At Wn b (mcC (.slice (some ⟨g, 0, none⟩) n cap) wd m') 43 by rw [← hWn]; exact hA.out.alloc _) (show Below w.heap.size w Wn by rw [← hWn]; exact hB.out.alloc hB.out.size _)))
      clear hx hxm hx2 hY
      go_wp2
      exact ⟨⟨J, T ++ Y, by omega, rfl, rfl, by rw [ByteArray.size_append]; have := hY'.out; omega, hTn, hid hnew.out.1, hid hnew.out.2.1, hid hnew.out.2.2⟩, by first | (simp [intOf]; done) | (simp [intOf]; omega)⟩

set_option maxRecDepth 10000 in
set_option maxHeartbeats 2000000 in
theorem fin16_7 (s : ByteArray) (hs : s.size ≤ 1048576) (k : Nat) (m : Mc) (hkm : runM mc0 (byts s) = (k, m)) (hst : m.st = 7) (w : World) :
    Calls Tryz.prog 20 #[.string s] w fun e w' => e = .returned (.string (mkS (finM m))) ∧ Below w.heap.size w w' := by
  have hfin : Hid (finM m = textE m ++ shutsL m.op) := hid (by unfold finM; rw [if_neg (by omega), if_neg (by omega), if_neg (by omega), if_neg (by omega), if_neg (by omega), if_neg (by omega), if_pos (by omega)])
  obtain ⟨Z, hZ⟩ : ∃ Z, Hid (mkS (finM m) = Z) := ⟨_, rfl⟩
  rw [hZ.out]
  have hrk := run_ok (byts s)
  have hlo := run_lo (byts s)
  rw [hkm, byts_length] at hrk
  rw [hkm] at hlo
  have hop0 : m.op.length ≤ s.size := hrk.1.op
  have hop : m.op.length ≤ 1048576 := by omega
  have hok := hid hrk.1.ok
  have hf2 := hid hrk.1.fit2
  have hfit := hid hrk.1.fit
  have hlo' := hid hlo
  have hst' := hid hst
  have hlf4 := hid hrk.1.lf
  have hrun := hid (run16_calls s hs w)
  have hkm' := hid hkm
  clear hrk hlo hop0 hkm
  go_enter Tryz.func20, Tryz.ntmps20
  go_wp2_with fail
  refine hrun.out.mono ?_
  rintro e W1 ⟨k', m', v, wd, hkm2, rfl, hrow, hword, hB1⟩
  obtain ⟨rfl, rfl⟩ : k' = k ∧ m' = m := by
    have h := hkm2.symm.trans hkm'.out
    injection h with h1 h2
    exact ⟨h1, h2⟩
  obtain ⟨ao, cap, rfl⟩ := own_len hrow
  obtain ⟨n, hnn⟩ : ∃ n, Hid (m'.op.length = n) := ⟨_, rfl⟩
  have hwd' := hid hword
  rw [hnn.out] at hop
  obtain ⟨W2, hW2⟩ : ∃ W2, W1.alloc (.cells #[.slice ao n cap, .int .i64 7, .bool m'.nm, .string wd, .int .i64 (m'.lf : Int), .int .i64 (m'.lo : Int), .int .i64 (m'.hi : Int)] 43) = W2 := ⟨_, rfl⟩
  obtain ⟨b, hb⟩ : ∃ b, W1.heap.size = b := ⟨_, rfl⟩
  have hM2 : At W2 b (mcC (.slice ao n cap) wd m') 43 := by
    rw [← hW2, ← hb]
    have h := At.new W1 (mcC (.slice ao n cap) wd m') 43
    simpa [mcC, hst] using h
  have hr2 : W2.ownsRow w.heap.size 5 1 (.slice ao n cap) n (opC m'.op) := by
    rw [← hW2]
    rw [hnn.out] at hrow
    exact World.ownsRow.alloc hrow _
  have hBB : Below w.heap.size w W2 := by rw [← hW2]; exact hB1.alloc hB1.size _
  have c0 := (mcAt_of hM2).c0
  have c1 : W2.cell? ⟨b, 1, none⟩ = some (.int .i64 7) := by rw [(mcAt_of hM2).c1, hst]; rfl
  have c3 := (mcAt_of hM2).c3
  have hM2' := hid hM2
  have hr2' := hid hr2
  have hB2' := hid hBB
  have hni : (n : Int) ≤ 1048576 := by omega
  clear hrun hkm2 hrow hword hB1 hM2 hr2 hBB
  dsimp only [mcC]
  rw [hnn.out, hst]
  clear hst
  have htx := hid (text16_7 b 43 _ wd m' W2 hM2'.out hst'.out (hfit.out.lf (by have := hst'.out; omega) (by have := hst'.out; omega)))
  obtain ⟨P, hP⟩ : ∃ P, Hid (mkS (textE m') = P) := ⟨_, rfl⟩
  rw [hP.out] at htx
  have hPs : P.size ≤ 2097152 := by
    rw [← hP.out, mkS_size, text_E]
    have h4 := hlf4.out
    simp only [List.length_append, tL, List.length_map, List.length_range]
    repeat' split
    all_goals simp
    all_goals omega
  go_wp2_with fail
  refine htx.out.mono ?_
  rintro e W3 ⟨rfl, hb3⟩
  replace hM2' := hid (hM2'.out.keptAll hb3)
  replace hr2' := hid (own_below hr2'.out hb3)
  replace hB2' := hid (hB2'.out.trans (hb3.mono hB2'.out.size))
  clear hb3 c0 c1 c3 htx hW2 hb
  obtain ⟨OP, hOP⟩ : ∃ OP, Hid (m'.op = OP) := ⟨_, rfl⟩
  have hOl : Hid (OP.length = n) := hid (by rw [← hOP.out]; exact hnn.out)
  have hOg : Hid (∀ (i x : Nat), OP[i]? = some x → m'.op[i]? = some x) := hid (fun i x h => by rw [← hOP.out] at h; exact h)
  go_wp2
  go_loopw [5, 7] (fun ss ii wr => ∃ (j : Nat) (T : ByteArray), j ≤ n ∧ ii = .int .i64 ((j : Int) - 1) ∧ ss = .string T ∧ T.size ≤ 2097152 + (n - j) ∧ Hid (T = P ++ mkS (shutsL (OP.drop j))) ∧ Hid (wr.ownsRow w.heap.size 5 1 (.slice ao n cap) n (opC m'.op)) ∧ Hid (At wr b (mcC (.slice ao n cap) wd m') 43) ∧ Hid (Below w.heap.size w wr)) (fun _ ii _ => (intOf ii + 1).toNat)
  case atStart =>
    refine ⟨n, P, Nat.le_refl _, congrArg (Value.int IntKind.i64) (by omega), rfl, by omega, hid ?_, hr2', hM2', hB2'⟩
    rw [List.drop_of_length_le (by have := hOl.out; omega)]
    show _ = _ ++ mkS []
    apply ByteArray.ext
    simp [mkS]
  case round =>
    skip
    obtain ⟨j, T, hj, rfl, rfl, hTs, hT, hr, hA, hB⟩ := hrel
    have c0 := (mcAt_of hA.out).c0
    cases j with
    | zero =>
      rw [show (((0 : Nat) : Int) - 1) = -1 from rfl]
      have hTZ : T = Z := by
        rw [hT.out, ← hZ.out, hfin.out, List.drop_zero, mkS_appV, ← hOP.out]
        rw [hP.out]
      subst hTZ
      go_wp2
      go_ret
      exact ⟨rfl, hB.out⟩
    | succ J =>
      rw [show (((J + 1 : Nat) : Int) - 1) = (J : Int) by omega]
      obtain ⟨x, hx⟩ : ∃ x, OP[J]? = some x := ⟨_, List.getElem?_eq_getElem (by have := hOl.out; omega)⟩
      have hxm := hOg.out J x hx
      have hx2 : x = 91 ∨ x = 123 := hf2.out.op x (List.mem_of_getElem? hxm)
      obtain ⟨g, rfl, hcell⟩ := own_cellU hr.out hxm
      have hadd : (⟨g, 0, none⟩ : Addr).add J = ⟨g, J, none⟩ := by by_cases h : J = 0 <;> simp [Addr.add, h]
      have l0 : (J : Int) < (n : Int) := by omega
      have l1 : (x : Int) + 2 < 256 := by omega
      have l2 : (0 : Int) ≤ (J : Int) := by omega
      obtain ⟨Wn, hWn⟩ : ∃ Wn, wr.alloc (.cells #[.int .u8 ((x : Int) + 2)] 5) = Wn := ⟨_, rfl⟩
      have hcv : (convert 39 9 (.slice (some ⟨wr.heap.size, 0, none⟩) 1 1)).run Tryz.prog Wn = .ok (.string (mkS [x + 2])) Wn := by
        refine conv_row (B := wr.heap.size) ?_
        rw [strCells_mkS (fun y hy => by simp at hy; omega), mkS_size, ← hWn]
        exact ⟨rfl, .inr ⟨wr.heap.size, 1, #[.int .u8 ((x : Int) + 2)], rfl, Nat.le_refl _, At.new _ _ _, Nat.le_refl _, by unfold maxLen; decide, rfl, by simp⟩⟩
      obtain ⟨Y, hY⟩ : ∃ Y, mkS [x + 2] = Y := ⟨_, rfl⟩
      rw [hY] at hcv
      have hYs : Y.size = 1 := by rw [← hY, mkS_size]; rfl
      have hTn : Hid (T ++ Y = P ++ mkS (shutsL (OP.drop J))) := hid (by
        have hJ : J < OP.length := by have := hOl.out; omega
        have hd : OP.drop J = x :: OP.drop (J + 1) := by
          rw [List.drop_eq_getElem_cons hJ]
          congr 1
          rw [List.getElem?_eq_getElem hJ] at hx
          injection hx
        rw [hT.out, ← hY, ByteArray.append_assoc, ← mkS_appV, ← shuts_cons, hd])
      have hY' := hid hYs
      have hnew := hid (And.intro (show Wn.ownsRow w.heap.size 5 1 (.slice (some ⟨g, 0, none⟩) n cap) n (opC m'.op) by rw [← hWn]; exact World.ownsRow.alloc hr.out _) (And.intro (show At Wn b (mcC (.slice (some ⟨g, 0, none⟩) n cap) wd m') 43 by rw [← hWn]; exact hA.out.alloc _) (show Below w.heap.size w Wn by rw [← hWn]; exact hB.out.alloc hB.out.size _)))
      clear hx hxm hx2 hY
      go_wp2
      exact ⟨⟨J, T ++ Y, by omega, rfl, rfl, by rw [ByteArray.size_append]; have := hY'.out; omega, hTn, hid hnew.out.1, hid hnew.out.2.1, hid hnew.out.2.2⟩, by first | (simp [intOf]; done) | (simp [intOf]; omega)⟩

set_option maxRecDepth 10000 in
set_option maxHeartbeats 2000000 in
theorem fin16_8 (s : ByteArray) (hs : s.size ≤ 1048576) (k : Nat) (m : Mc) (hkm : runM mc0 (byts s) = (k, m)) (hst : m.st = 8) (w : World) :
    Calls Tryz.prog 20 #[.string s] w fun e w' => e = .returned (.string (mkS (finM m))) ∧ Below w.heap.size w w' := by
  have hfin : Hid (finM m = textE m ++ shutsL m.op) := hid (by unfold finM; rw [if_neg (by omega), if_neg (by omega), if_neg (by omega), if_neg (by omega), if_neg (by omega), if_neg (by omega), if_pos (by omega)])
  obtain ⟨Z, hZ⟩ : ∃ Z, Hid (mkS (finM m) = Z) := ⟨_, rfl⟩
  rw [hZ.out]
  have hrk := run_ok (byts s)
  have hlo := run_lo (byts s)
  rw [hkm, byts_length] at hrk
  rw [hkm] at hlo
  have hop0 : m.op.length ≤ s.size := hrk.1.op
  have hop : m.op.length ≤ 1048576 := by omega
  have hok := hid hrk.1.ok
  have hf2 := hid hrk.1.fit2
  have hfit := hid hrk.1.fit
  have hlo' := hid hlo
  have hst' := hid hst
  have hlf4 := hid hrk.1.lf
  have hrun := hid (run16_calls s hs w)
  have hkm' := hid hkm
  clear hrk hlo hop0 hkm
  go_enter Tryz.func20, Tryz.ntmps20
  go_wp2_with fail
  refine hrun.out.mono ?_
  rintro e W1 ⟨k', m', v, wd, hkm2, rfl, hrow, hword, hB1⟩
  obtain ⟨rfl, rfl⟩ : k' = k ∧ m' = m := by
    have h := hkm2.symm.trans hkm'.out
    injection h with h1 h2
    exact ⟨h1, h2⟩
  obtain ⟨ao, cap, rfl⟩ := own_len hrow
  obtain ⟨n, hnn⟩ : ∃ n, Hid (m'.op.length = n) := ⟨_, rfl⟩
  have hwd' := hid hword
  rw [hnn.out] at hop
  obtain ⟨W2, hW2⟩ : ∃ W2, W1.alloc (.cells #[.slice ao n cap, .int .i64 8, .bool m'.nm, .string wd, .int .i64 (m'.lf : Int), .int .i64 (m'.lo : Int), .int .i64 (m'.hi : Int)] 43) = W2 := ⟨_, rfl⟩
  obtain ⟨b, hb⟩ : ∃ b, W1.heap.size = b := ⟨_, rfl⟩
  have hM2 : At W2 b (mcC (.slice ao n cap) wd m') 43 := by
    rw [← hW2, ← hb]
    have h := At.new W1 (mcC (.slice ao n cap) wd m') 43
    simpa [mcC, hst] using h
  have hr2 : W2.ownsRow w.heap.size 5 1 (.slice ao n cap) n (opC m'.op) := by
    rw [← hW2]
    rw [hnn.out] at hrow
    exact World.ownsRow.alloc hrow _
  have hBB : Below w.heap.size w W2 := by rw [← hW2]; exact hB1.alloc hB1.size _
  have c0 := (mcAt_of hM2).c0
  have c1 : W2.cell? ⟨b, 1, none⟩ = some (.int .i64 8) := by rw [(mcAt_of hM2).c1, hst]; rfl
  have c3 := (mcAt_of hM2).c3
  have hM2' := hid hM2
  have hr2' := hid hr2
  have hB2' := hid hBB
  have hni : (n : Int) ≤ 1048576 := by omega
  clear hrun hkm2 hrow hword hB1 hM2 hr2 hBB
  dsimp only [mcC]
  rw [hnn.out, hst]
  clear hst
  have htx := hid (text16_8 b 43 _ wd m' W2 hM2'.out hst'.out hlf4.out hlo'.out)
  obtain ⟨P, hP⟩ : ∃ P, Hid (mkS (textE m') = P) := ⟨_, rfl⟩
  rw [hP.out] at htx
  have hPs : P.size ≤ 2097152 := by
    rw [← hP.out, mkS_size, text_E]
    have h4 := hlf4.out
    simp only [List.length_append, tL, List.length_map, List.length_range]
    repeat' split
    all_goals simp
    all_goals omega
  go_wp2_with fail
  refine htx.out.mono ?_
  rintro e W3 ⟨rfl, hb3⟩
  replace hM2' := hid (hM2'.out.keptAll hb3)
  replace hr2' := hid (own_below hr2'.out hb3)
  replace hB2' := hid (hB2'.out.trans (hb3.mono hB2'.out.size))
  clear hb3 c0 c1 c3 htx hW2 hb
  obtain ⟨OP, hOP⟩ : ∃ OP, Hid (m'.op = OP) := ⟨_, rfl⟩
  have hOl : Hid (OP.length = n) := hid (by rw [← hOP.out]; exact hnn.out)
  have hOg : Hid (∀ (i x : Nat), OP[i]? = some x → m'.op[i]? = some x) := hid (fun i x h => by rw [← hOP.out] at h; exact h)
  go_wp2
  go_loopw [5, 7] (fun ss ii wr => ∃ (j : Nat) (T : ByteArray), j ≤ n ∧ ii = .int .i64 ((j : Int) - 1) ∧ ss = .string T ∧ T.size ≤ 2097152 + (n - j) ∧ Hid (T = P ++ mkS (shutsL (OP.drop j))) ∧ Hid (wr.ownsRow w.heap.size 5 1 (.slice ao n cap) n (opC m'.op)) ∧ Hid (At wr b (mcC (.slice ao n cap) wd m') 43) ∧ Hid (Below w.heap.size w wr)) (fun _ ii _ => (intOf ii + 1).toNat)
  case atStart =>
    refine ⟨n, P, Nat.le_refl _, congrArg (Value.int IntKind.i64) (by omega), rfl, by omega, hid ?_, hr2', hM2', hB2'⟩
    rw [List.drop_of_length_le (by have := hOl.out; omega)]
    show _ = _ ++ mkS []
    apply ByteArray.ext
    simp [mkS]
  case round =>
    skip
    obtain ⟨j, T, hj, rfl, rfl, hTs, hT, hr, hA, hB⟩ := hrel
    have c0 := (mcAt_of hA.out).c0
    cases j with
    | zero =>
      rw [show (((0 : Nat) : Int) - 1) = -1 from rfl]
      have hTZ : T = Z := by
        rw [hT.out, ← hZ.out, hfin.out, List.drop_zero, mkS_appV, ← hOP.out]
        rw [hP.out]
      subst hTZ
      go_wp2
      go_ret
      exact ⟨rfl, hB.out⟩
    | succ J =>
      rw [show (((J + 1 : Nat) : Int) - 1) = (J : Int) by omega]
      obtain ⟨x, hx⟩ : ∃ x, OP[J]? = some x := ⟨_, List.getElem?_eq_getElem (by have := hOl.out; omega)⟩
      have hxm := hOg.out J x hx
      have hx2 : x = 91 ∨ x = 123 := hf2.out.op x (List.mem_of_getElem? hxm)
      obtain ⟨g, rfl, hcell⟩ := own_cellU hr.out hxm
      have hadd : (⟨g, 0, none⟩ : Addr).add J = ⟨g, J, none⟩ := by by_cases h : J = 0 <;> simp [Addr.add, h]
      have l0 : (J : Int) < (n : Int) := by omega
      have l1 : (x : Int) + 2 < 256 := by omega
      have l2 : (0 : Int) ≤ (J : Int) := by omega
      obtain ⟨Wn, hWn⟩ : ∃ Wn, wr.alloc (.cells #[.int .u8 ((x : Int) + 2)] 5) = Wn := ⟨_, rfl⟩
      have hcv : (convert 39 9 (.slice (some ⟨wr.heap.size, 0, none⟩) 1 1)).run Tryz.prog Wn = .ok (.string (mkS [x + 2])) Wn := by
        refine conv_row (B := wr.heap.size) ?_
        rw [strCells_mkS (fun y hy => by simp at hy; omega), mkS_size, ← hWn]
        exact ⟨rfl, .inr ⟨wr.heap.size, 1, #[.int .u8 ((x : Int) + 2)], rfl, Nat.le_refl _, At.new _ _ _, Nat.le_refl _, by unfold maxLen; decide, rfl, by simp⟩⟩
      obtain ⟨Y, hY⟩ : ∃ Y, mkS [x + 2] = Y := ⟨_, rfl⟩
      rw [hY] at hcv
      have hYs : Y.size = 1 := by rw [← hY, mkS_size]; rfl
      have hTn : Hid (T ++ Y = P ++ mkS (shutsL (OP.drop J))) := hid (by
        have hJ : J < OP.length := by have := hOl.out; omega
        have hd : OP.drop J = x :: OP.drop (J + 1) := by
          rw [List.drop_eq_getElem_cons hJ]
          congr 1
          rw [List.getElem?_eq_getElem hJ] at hx
          injection hx
        rw [hT.out, ← hY, ByteArray.append_assoc, ← mkS_appV, ← shuts_cons, hd])
      have hY' := hid hYs
      have hnew := hid (And.intro (show Wn.ownsRow w.heap.size 5 1 (.slice (some ⟨g, 0, none⟩) n cap) n (opC m'.op) by rw [← hWn]; exact World.ownsRow.alloc hr.out _) (And.intro (show At Wn b (mcC (.slice (some ⟨g, 0, none⟩) n cap) wd m') 43 by rw [← hWn]; exact hA.out.alloc _) (show Below w.heap.size w Wn by rw [← hWn]; exact hB.out.alloc hB.out.size _)))
      clear hx hxm hx2 hY
      go_wp2
      exact ⟨⟨J, T ++ Y, by omega, rfl, rfl, by rw [ByteArray.size_append]; have := hY'.out; omega, hTn, hid hnew.out.1, hid hnew.out.2.1, hid hnew.out.2.2⟩, by first | (simp [intOf]; done) | (simp [intOf]; omega)⟩

set_option maxRecDepth 10000 in
set_option maxHeartbeats 2000000 in
theorem fin16_5 (s : ByteArray) (hs : s.size ≤ 1048576) (k : Nat) (m : Mc) (hkm : runM mc0 (byts s) = (k, m)) (hst : m.st = 5) (w : World) :
    Calls Tryz.prog 20 #[.string s] w fun e w' => e = .returned (.string (mkS (finM m))) ∧ Below w.heap.size w w' := by
  have hfin : Hid (finM m = [] ++ shutsL m.op) := hid (by unfold finM; rw [if_neg (by omega), if_neg (by omega), if_neg (by omega), if_neg (by omega), if_neg (by omega), if_neg (by omega), if_neg (by omega)]; rfl)
  obtain ⟨Z, hZ⟩ : ∃ Z, Hid (mkS (finM m) = Z) := ⟨_, rfl⟩
  rw [hZ.out]
  have hrk := run_ok (byts s)
  have hlo := run_lo (byts s)
  rw [hkm, byts_length] at hrk
  rw [hkm] at hlo
  have hop0 : m.op.length ≤ s.size := hrk.1.op
  have hop : m.op.length ≤ 1048576 := by omega
  have hok := hid hrk.1.ok
  have hf2 := hid hrk.1.fit2
  have hfit := hid hrk.1.fit
  have hlo' := hid hlo
  have hst' := hid hst
  have hlf4 := hid hrk.1.lf
  have hrun := hid (run16_calls s hs w)
  have hkm' := hid hkm
  clear hrk hlo hop0 hkm
  go_enter Tryz.func20, Tryz.ntmps20
  go_wp2_with fail
  refine hrun.out.mono ?_
  rintro e W1 ⟨k', m', v, wd, hkm2, rfl, hrow, hword, hB1⟩
  obtain ⟨rfl, rfl⟩ : k' = k ∧ m' = m := by
    have h := hkm2.symm.trans hkm'.out
    injection h with h1 h2
    exact ⟨h1, h2⟩
  obtain ⟨ao, cap, rfl⟩ := own_len hrow
  obtain ⟨n, hnn⟩ : ∃ n, Hid (m'.op.length = n) := ⟨_, rfl⟩
  have hwd' := hid hword
  rw [hnn.out] at hop
  obtain ⟨W2, hW2⟩ : ∃ W2, W1.alloc (.cells #[.slice ao n cap, .int .i64 5, .bool m'.nm, .string wd, .int .i64 (m'.lf : Int), .int .i64 (m'.lo : Int), .int .i64 (m'.hi : Int)] 43) = W2 := ⟨_, rfl⟩
  obtain ⟨b, hb⟩ : ∃ b, W1.heap.size = b := ⟨_, rfl⟩
  have hM2 : At W2 b (mcC (.slice ao n cap) wd m') 43 := by
    rw [← hW2, ← hb]
    have h := At.new W1 (mcC (.slice ao n cap) wd m') 43
    simpa [mcC, hst] using h
  have hr2 : W2.ownsRow w.heap.size 5 1 (.slice ao n cap) n (opC m'.op) := by
    rw [← hW2]
    rw [hnn.out] at hrow
    exact World.ownsRow.alloc hrow _
  have hBB : Below w.heap.size w W2 := by rw [← hW2]; exact hB1.alloc hB1.size _
  have c0 := (mcAt_of hM2).c0
  have c1 : W2.cell? ⟨b, 1, none⟩ = some (.int .i64 5) := by rw [(mcAt_of hM2).c1, hst]; rfl
  have c3 := (mcAt_of hM2).c3
  have hM2' := hid hM2
  have hr2' := hid hr2
  have hB2' := hid hBB
  have hni : (n : Int) ≤ 1048576 := by omega
  clear hrun hkm2 hrow hword hB1 hM2 hr2 hBB
  dsimp only [mcC]
  rw [hnn.out, hst]
  clear hst
  have hP : Hid (mkS [] = ⟨#[]⟩) := hid rfl
  obtain ⟨OP, hOP⟩ : ∃ OP, Hid (m'.op = OP) := ⟨_, rfl⟩
  have hOl : Hid (OP.length = n) := hid (by rw [← hOP.out]; exact hnn.out)
  have hOg : Hid (∀ (i x : Nat), OP[i]? = some x → m'.op[i]? = some x) := hid (fun i x h => by rw [← hOP.out] at h; exact h)
  go_wp2
  go_loopw [5, 7] (fun ss ii wr => ∃ (j : Nat) (T : ByteArray), j ≤ n ∧ ii = .int .i64 ((j : Int) - 1) ∧ ss = .string T ∧ T.size ≤ 2097152 + (n - j) ∧ Hid (T = ⟨#[]⟩ ++ mkS (shutsL (OP.drop j))) ∧ Hid (wr.ownsRow w.heap.size 5 1 (.slice ao n cap) n (opC m'.op)) ∧ Hid (At wr b (mcC (.slice ao n cap) wd m') 43) ∧ Hid (Below w.heap.size w wr)) (fun _ ii _ => (intOf ii + 1).toNat)
  case atStart =>
    refine ⟨n, ⟨#[]⟩, Nat.le_refl _, congrArg (Value.int IntKind.i64) (by omega), rfl, by first | (show ByteArray.size _ ≤ _; simp [ByteArray.size]; done) | omega, hid ?_, hr2', hM2', hB2'⟩
    rw [List.drop_of_length_le (by have := hOl.out; omega)]
    show _ = _ ++ mkS []
    apply ByteArray.ext
    simp [mkS]
  case round =>
    clear c0 c1 c3
    obtain ⟨j, T, hj, rfl, rfl, hTs, hT, hr, hA, hB⟩ := hrel
    have c0 := (mcAt_of hA.out).c0
    cases j with
    | zero =>
      rw [show (((0 : Nat) : Int) - 1) = -1 from rfl]
      have hTZ : T = Z := by
        rw [hT.out, ← hZ.out, hfin.out, List.drop_zero, mkS_appV, ← hOP.out]
        rfl
      subst hTZ
      go_wp2
      go_ret
      exact ⟨rfl, hB.out⟩
    | succ J =>
      rw [show (((J + 1 : Nat) : Int) - 1) = (J : Int) by omega]
      obtain ⟨x, hx⟩ : ∃ x, OP[J]? = some x := ⟨_, List.getElem?_eq_getElem (by have := hOl.out; omega)⟩
      have hxm := hOg.out J x hx
      have hx2 : x = 91 ∨ x = 123 := hf2.out.op x (List.mem_of_getElem? hxm)
      obtain ⟨g, rfl, hcell⟩ := own_cellU hr.out hxm
      have hadd : (⟨g, 0, none⟩ : Addr).add J = ⟨g, J, none⟩ := by by_cases h : J = 0 <;> simp [Addr.add, h]
      have l0 : (J : Int) < (n : Int) := by omega
      have l1 : (x : Int) + 2 < 256 := by omega
      have l2 : (0 : Int) ≤ (J : Int) := by omega
      obtain ⟨Wn, hWn⟩ : ∃ Wn, wr.alloc (.cells #[.int .u8 ((x : Int) + 2)] 5) = Wn := ⟨_, rfl⟩
      have hcv : (convert 39 9 (.slice (some ⟨wr.heap.size, 0, none⟩) 1 1)).run Tryz.prog Wn = .ok (.string (mkS [x + 2])) Wn := by
        refine conv_row (B := wr.heap.size) ?_
        rw [strCells_mkS (fun y hy => by simp at hy; omega), mkS_size, ← hWn]
        exact ⟨rfl, .inr ⟨wr.heap.size, 1, #[.int .u8 ((x : Int) + 2)], rfl, Nat.le_refl _, At.new _ _ _, Nat.le_refl _, by unfold maxLen; decide, rfl, by simp⟩⟩
      obtain ⟨Y, hY⟩ : ∃ Y, mkS [x + 2] = Y := ⟨_, rfl⟩
      rw [hY] at hcv
      have hYs : Y.size = 1 := by rw [← hY, mkS_size]; rfl
      have hTn : Hid (T ++ Y = ⟨#[]⟩ ++ mkS (shutsL (OP.drop J))) := hid (by
        have hJ : J < OP.length := by have := hOl.out; omega
        have hd : OP.drop J = x :: OP.drop (J + 1) := by
          rw [List.drop_eq_getElem_cons hJ]
          congr 1
          rw [List.getElem?_eq_getElem hJ] at hx
          injection hx
        rw [hT.out, ← hY, ByteArray.append_assoc, ← mkS_appV, ← shuts_cons, hd])
      have hY' := hid hYs
      have hnew := hid (And.intro (show Wn.ownsRow w.heap.size 5 1 (.slice (some ⟨g, 0, none⟩) n cap) n (opC m'.op) by rw [← hWn]; exact World.ownsRow.alloc hr.out _) (And.intro (show At Wn b (mcC (.slice (some ⟨g, 0, none⟩) n cap) wd m') 43 by rw [← hWn]; exact hA.out.alloc _) (show Below w.heap.size w Wn by rw [← hWn]; exact hB.out.alloc hB.out.size _)))
      clear hx hxm hx2 hY
      go_wp2
      exact ⟨⟨J, T ++ Y, by omega, rfl, rfl, by rw [ByteArray.size_append]; have := hY'.out; omega, hTn, hid hnew.out.1, hid hnew.out.2.1, hid hnew.out.2.2⟩, by first | (simp [intOf]; done) | (simp [intOf]; omega)⟩

set_option maxRecDepth 10000 in
set_option maxHeartbeats 2000000 in
theorem fin16_11 (s : ByteArray) (hs : s.size ≤ 1048576) (k : Nat) (m : Mc) (hkm : runM mc0 (byts s) = (k, m)) (hst : m.st = 11) (w : World) :
    Calls Tryz.prog 20 #[.string s] w fun e w' => e = .returned (.string (mkS (finM m))) ∧ Below w.heap.size w w' := by
  have hfin : Hid (finM m = [] ++ shutsL m.op) := hid (by unfold finM; rw [if_neg (by omega), if_neg (by omega), if_neg (by omega), if_neg (by omega), if_neg (by omega), if_neg (by omega), if_neg (by omega)]; rfl)
  obtain ⟨Z, hZ⟩ : ∃ Z, Hid (mkS (finM m) = Z) := ⟨_, rfl⟩
  rw [hZ.out]
  have hrk := run_ok (byts s)
  have hlo := run_lo (byts s)
  rw [hkm, byts_length] at hrk
  rw [hkm] at hlo
  have hop0 : m.op.length ≤ s.size := hrk.1.op
  have hop : m.op.length ≤ 1048576 := by omega
  have hok := hid hrk.1.ok
  have hf2 := hid hrk.1.fit2
  have hfit := hid hrk.1.fit
  have hlo' := hid hlo
  have hst' := hid hst
  have hlf4 := hid hrk.1.lf
  have hrun := hid (run16_calls s hs w)
  have hkm' := hid hkm
  clear hrk hlo hop0 hkm
  go_enter Tryz.func20, Tryz.ntmps20
  go_wp2_with fail
  refine hrun.out.mono ?_
  rintro e W1 ⟨k', m', v, wd, hkm2, rfl, hrow, hword, hB1⟩
  obtain ⟨rfl, rfl⟩ : k' = k ∧ m' = m := by
    have h := hkm2.symm.trans hkm'.out
    injection h with h1 h2
    exact ⟨h1, h2⟩
  obtain ⟨ao, cap, rfl⟩ := own_len hrow
  obtain ⟨n, hnn⟩ : ∃ n, Hid (m'.op.length = n) := ⟨_, rfl⟩
  have hwd' := hid hword
  rw [hnn.out] at hop
  obtain ⟨W2, hW2⟩ : ∃ W2, W1.alloc (.cells #[.slice ao n cap, .int .i64 11, .bool m'.nm, .string wd, .int .i64 (m'.lf : Int), .int .i64 (m'.lo : Int), .int .i64 (m'.hi : Int)] 43) = W2 := ⟨_, rfl⟩
  obtain ⟨b, hb⟩ : ∃ b, W1.heap.size = b := ⟨_, rfl⟩
  have hM2 : At W2 b (mcC (.slice ao n cap) wd m') 43 := by
    rw [← hW2, ← hb]
    have h := At.new W1 (mcC (.slice ao n cap) wd m') 43
    simpa [mcC, hst] using h
  have hr2 : W2.ownsRow w.heap.size 5 1 (.slice ao n cap) n (opC m'.op) := by
    rw [← hW2]
    rw [hnn.out] at hrow
    exact World.ownsRow.alloc hrow _
  have hBB : Below w.heap.size w W2 := by rw [← hW2]; exact hB1.alloc hB1.size _
  have c0 := (mcAt_of hM2).c0
  have c1 : W2.cell? ⟨b, 1, none⟩ = some (.int .i64 11) := by rw [(mcAt_of hM2).c1, hst]; rfl
  have c3 := (mcAt_of hM2).c3
  have hM2' := hid hM2
  have hr2' := hid hr2
  have hB2' := hid hBB
  have hni : (n : Int) ≤ 1048576 := by omega
  clear hrun hkm2 hrow hword hB1 hM2 hr2 hBB
  dsimp only [mcC]
  rw [hnn.out, hst]
  clear hst
  have hP : Hid (mkS [] = ⟨#[]⟩) := hid rfl
  obtain ⟨OP, hOP⟩ : ∃ OP, Hid (m'.op = OP) := ⟨_, rfl⟩
  have hOl : Hid (OP.length = n) := hid (by rw [← hOP.out]; exact hnn.out)
  have hOg : Hid (∀ (i x : Nat), OP[i]? = some x → m'.op[i]? = some x) := hid (fun i x h => by rw [← hOP.out] at h; exact h)
  go_wp2
  go_loopw [5, 7] (fun ss ii wr => ∃ (j : Nat) (T : ByteArray), j ≤ n ∧ ii = .int .i64 ((j : Int) - 1) ∧ ss = .string T ∧ T.size ≤ 2097152 + (n - j) ∧ Hid (T = ⟨#[]⟩ ++ mkS (shutsL (OP.drop j))) ∧ Hid (wr.ownsRow w.heap.size 5 1 (.slice ao n cap) n (opC m'.op)) ∧ Hid (At wr b (mcC (.slice ao n cap) wd m') 43) ∧ Hid (Below w.heap.size w wr)) (fun _ ii _ => (intOf ii + 1).toNat)
  case atStart =>
    refine ⟨n, ⟨#[]⟩, Nat.le_refl _, congrArg (Value.int IntKind.i64) (by omega), rfl, by first | (show ByteArray.size _ ≤ _; simp [ByteArray.size]; done) | omega, hid ?_, hr2', hM2', hB2'⟩
    rw [List.drop_of_length_le (by have := hOl.out; omega)]
    show _ = _ ++ mkS []
    apply ByteArray.ext
    simp [mkS]
  case round =>
    clear c0 c1 c3
    obtain ⟨j, T, hj, rfl, rfl, hTs, hT, hr, hA, hB⟩ := hrel
    have c0 := (mcAt_of hA.out).c0
    cases j with
    | zero =>
      rw [show (((0 : Nat) : Int) - 1) = -1 from rfl]
      have hTZ : T = Z := by
        rw [hT.out, ← hZ.out, hfin.out, List.drop_zero, mkS_appV, ← hOP.out]
        rfl
      subst hTZ
      go_wp2
      go_ret
      exact ⟨rfl, hB.out⟩
    | succ J =>
      rw [show (((J + 1 : Nat) : Int) - 1) = (J : Int) by omega]
      obtain ⟨x, hx⟩ : ∃ x, OP[J]? = some x := ⟨_, List.getElem?_eq_getElem (by have := hOl.out; omega)⟩
      have hxm := hOg.out J x hx
      have hx2 : x = 91 ∨ x = 123 := hf2.out.op x (List.mem_of_getElem? hxm)
      obtain ⟨g, rfl, hcell⟩ := own_cellU hr.out hxm
      have hadd : (⟨g, 0, none⟩ : Addr).add J = ⟨g, J, none⟩ := by by_cases h : J = 0 <;> simp [Addr.add, h]
      have l0 : (J : Int) < (n : Int) := by omega
      have l1 : (x : Int) + 2 < 256 := by omega
      have l2 : (0 : Int) ≤ (J : Int) := by omega
      obtain ⟨Wn, hWn⟩ : ∃ Wn, wr.alloc (.cells #[.int .u8 ((x : Int) + 2)] 5) = Wn := ⟨_, rfl⟩
      have hcv : (convert 39 9 (.slice (some ⟨wr.heap.size, 0, none⟩) 1 1)).run Tryz.prog Wn = .ok (.string (mkS [x + 2])) Wn := by
        refine conv_row (B := wr.heap.size) ?_
        rw [strCells_mkS (fun y hy => by simp at hy; omega), mkS_size, ← hWn]
        exact ⟨rfl, .inr ⟨wr.heap.size, 1, #[.int .u8 ((x : Int) + 2)], rfl, Nat.le_refl _, At.new _ _ _, Nat.le_refl _, by unfold maxLen; decide, rfl, by simp⟩⟩
      obtain ⟨Y, hY⟩ : ∃ Y, mkS [x + 2] = Y := ⟨_, rfl⟩
      rw [hY] at hcv
      have hYs : Y.size = 1 := by rw [← hY, mkS_size]; rfl
      have hTn : Hid (T ++ Y = ⟨#[]⟩ ++ mkS (shutsL (OP.drop J))) := hid (by
        have hJ : J < OP.length := by have := hOl.out; omega
        have hd : OP.drop J = x :: OP.drop (J + 1) := by
          rw [List.drop_eq_getElem_cons hJ]
          congr 1
          rw [List.getElem?_eq_getElem hJ] at hx
          injection hx
        rw [hT.out, ← hY, ByteArray.append_assoc, ← mkS_appV, ← shuts_cons, hd])
      have hY' := hid hYs
      have hnew := hid (And.intro (show Wn.ownsRow w.heap.size 5 1 (.slice (some ⟨g, 0, none⟩) n cap) n (opC m'.op) by rw [← hWn]; exact World.ownsRow.alloc hr.out _) (And.intro (show At Wn b (mcC (.slice (some ⟨g, 0, none⟩) n cap) wd m') 43 by rw [← hWn]; exact hA.out.alloc _) (show Below w.heap.size w Wn by rw [← hWn]; exact hB.out.alloc hB.out.size _)))
      clear hx hxm hx2 hY
      go_wp2
      exact ⟨⟨J, T ++ Y, by omega, rfl, rfl, by rw [ByteArray.size_append]; have := hY'.out; omega, hTn, hid hnew.out.1, hid hnew.out.2.1, hid hnew.out.2.2⟩, by first | (simp [intOf]; done) | (simp [intOf]; omega)⟩

set_option maxRecDepth 10000 in
set_option maxHeartbeats 2000000 in
theorem fin16_12 (s : ByteArray) (hs : s.size ≤ 1048576) (k : Nat) (m : Mc) (hkm : runM mc0 (byts s) = (k, m)) (hst : m.st = 12) (w : World) :
    Calls Tryz.prog 20 #[.string s] w fun e w' => e = .returned (.string (mkS (finM m))) ∧ Below w.heap.size w w' := by
  have hfin : Hid (finM m = [] ++ shutsL m.op) := hid (by unfold finM; rw [if_neg (by omega), if_neg (by omega), if_neg (by omega), if_neg (by omega), if_neg (by omega), if_neg (by omega), if_neg (by omega)]; rfl)
  obtain ⟨Z, hZ⟩ : ∃ Z, Hid (mkS (finM m) = Z) := ⟨_, rfl⟩
  rw [hZ.out]
  have hrk := run_ok (byts s)
  have hlo := run_lo (byts s)
  rw [hkm, byts_length] at hrk
  rw [hkm] at hlo
  have hop0 : m.op.length ≤ s.size := hrk.1.op
  have hop : m.op.length ≤ 1048576 := by omega
  have hok := hid hrk.1.ok
  have hf2 := hid hrk.1.fit2
  have hfit := hid hrk.1.fit
  have hlo' := hid hlo
  have hst' := hid hst
  have hlf4 := hid hrk.1.lf
  have hrun := hid (run16_calls s hs w)
  have hkm' := hid hkm
  clear hrk hlo hop0 hkm
  go_enter Tryz.func20, Tryz.ntmps20
  go_wp2_with fail
  refine hrun.out.mono ?_
  rintro e W1 ⟨k', m', v, wd, hkm2, rfl, hrow, hword, hB1⟩
  obtain ⟨rfl, rfl⟩ : k' = k ∧ m' = m := by
    have h := hkm2.symm.trans hkm'.out
    injection h with h1 h2
    exact ⟨h1, h2⟩
  obtain ⟨ao, cap, rfl⟩ := own_len hrow
  obtain ⟨n, hnn⟩ : ∃ n, Hid (m'.op.length = n) := ⟨_, rfl⟩
  have hwd' := hid hword
  rw [hnn.out] at hop
  obtain ⟨W2, hW2⟩ : ∃ W2, W1.alloc (.cells #[.slice ao n cap, .int .i64 12, .bool m'.nm, .string wd, .int .i64 (m'.lf : Int), .int .i64 (m'.lo : Int), .int .i64 (m'.hi : Int)] 43) = W2 := ⟨_, rfl⟩
  obtain ⟨b, hb⟩ : ∃ b, W1.heap.size = b := ⟨_, rfl⟩
  have hM2 : At W2 b (mcC (.slice ao n cap) wd m') 43 := by
    rw [← hW2, ← hb]
    have h := At.new W1 (mcC (.slice ao n cap) wd m') 43
    simpa [mcC, hst] using h
  have hr2 : W2.ownsRow w.heap.size 5 1 (.slice ao n cap) n (opC m'.op) := by
    rw [← hW2]
    rw [hnn.out] at hrow
    exact World.ownsRow.alloc hrow _
  have hBB : Below w.heap.size w W2 := by rw [← hW2]; exact hB1.alloc hB1.size _
  have c0 := (mcAt_of hM2).c0
  have c1 : W2.cell? ⟨b, 1, none⟩ = some (.int .i64 12) := by rw [(mcAt_of hM2).c1, hst]; rfl
  have c3 := (mcAt_of hM2).c3
  have hM2' := hid hM2
  have hr2' := hid hr2
  have hB2' := hid hBB
  have hni : (n : Int) ≤ 1048576 := by omega
  clear hrun hkm2 hrow hword hB1 hM2 hr2 hBB
  dsimp only [mcC]
  rw [hnn.out, hst]
  clear hst
  have hP : Hid (mkS [] = ⟨#[]⟩) := hid rfl
  obtain ⟨OP, hOP⟩ : ∃ OP, Hid (m'.op = OP) := ⟨_, rfl⟩
  have hOl : Hid (OP.length = n) := hid (by rw [← hOP.out]; exact hnn.out)
  have hOg : Hid (∀ (i x : Nat), OP[i]? = some x → m'.op[i]? = some x) := hid (fun i x h => by rw [← hOP.out] at h; exact h)
  go_wp2
  go_loopw [5, 7] (fun ss ii wr => ∃ (j : Nat) (T : ByteArray), j ≤ n ∧ ii = .int .i64 ((j : Int) - 1) ∧ ss = .string T ∧ T.size ≤ 2097152 + (n - j) ∧ Hid (T = ⟨#[]⟩ ++ mkS (shutsL (OP.drop j))) ∧ Hid (wr.ownsRow w.heap.size 5 1 (.slice ao n cap) n (opC m'.op)) ∧ Hid (At wr b (mcC (.slice ao n cap) wd m') 43) ∧ Hid (Below w.heap.size w wr)) (fun _ ii _ => (intOf ii + 1).toNat)
  case atStart =>
    refine ⟨n, ⟨#[]⟩, Nat.le_refl _, congrArg (Value.int IntKind.i64) (by omega), rfl, by first | (show ByteArray.size _ ≤ _; simp [ByteArray.size]; done) | omega, hid ?_, hr2', hM2', hB2'⟩
    rw [List.drop_of_length_le (by have := hOl.out; omega)]
    show _ = _ ++ mkS []
    apply ByteArray.ext
    simp [mkS]
  case round =>
    clear c0 c1 c3
    obtain ⟨j, T, hj, rfl, rfl, hTs, hT, hr, hA, hB⟩ := hrel
    have c0 := (mcAt_of hA.out).c0
    cases j with
    | zero =>
      rw [show (((0 : Nat) : Int) - 1) = -1 from rfl]
      have hTZ : T = Z := by
        rw [hT.out, ← hZ.out, hfin.out, List.drop_zero, mkS_appV, ← hOP.out]
        rfl
      subst hTZ
      go_wp2
      go_ret
      exact ⟨rfl, hB.out⟩
    | succ J =>
      rw [show (((J + 1 : Nat) : Int) - 1) = (J : Int) by omega]
      obtain ⟨x, hx⟩ : ∃ x, OP[J]? = some x := ⟨_, List.getElem?_eq_getElem (by have := hOl.out; omega)⟩
      have hxm := hOg.out J x hx
      have hx2 : x = 91 ∨ x = 123 := hf2.out.op x (List.mem_of_getElem? hxm)
      obtain ⟨g, rfl, hcell⟩ := own_cellU hr.out hxm
      have hadd : (⟨g, 0, none⟩ : Addr).add J = ⟨g, J, none⟩ := by by_cases h : J = 0 <;> simp [Addr.add, h]
      have l0 : (J : Int) < (n : Int) := by omega
      have l1 : (x : Int) + 2 < 256 := by omega
      have l2 : (0 : Int) ≤ (J : Int) := by omega
      obtain ⟨Wn, hWn⟩ : ∃ Wn, wr.alloc (.cells #[.int .u8 ((x : Int) + 2)] 5) = Wn := ⟨_, rfl⟩
      have hcv : (convert 39 9 (.slice (some ⟨wr.heap.size, 0, none⟩) 1 1)).run Tryz.prog Wn = .ok (.string (mkS [x + 2])) Wn := by
        refine conv_row (B := wr.heap.size) ?_
        rw [strCells_mkS (fun y hy => by simp at hy; omega), mkS_size, ← hWn]
        exact ⟨rfl, .inr ⟨wr.heap.size, 1, #[.int .u8 ((x : Int) + 2)], rfl, Nat.le_refl _, At.new _ _ _, Nat.le_refl _, by unfold maxLen; decide, rfl, by simp⟩⟩
      obtain ⟨Y, hY⟩ : ∃ Y, mkS [x + 2] = Y := ⟨_, rfl⟩
      rw [hY] at hcv
      have hYs : Y.size = 1 := by rw [← hY, mkS_size]; rfl
      have hTn : Hid (T ++ Y = ⟨#[]⟩ ++ mkS (shutsL (OP.drop J))) := hid (by
        have hJ : J < OP.length := by have := hOl.out; omega
        have hd : OP.drop J = x :: OP.drop (J + 1) := by
          rw [List.drop_eq_getElem_cons hJ]
          congr 1
          rw [List.getElem?_eq_getElem hJ] at hx
          injection hx
        rw [hT.out, ← hY, ByteArray.append_assoc, ← mkS_appV, ← shuts_cons, hd])
      have hY' := hid hYs
      have hnew := hid (And.intro (show Wn.ownsRow w.heap.size 5 1 (.slice (some ⟨g, 0, none⟩) n cap) n (opC m'.op) by rw [← hWn]; exact World.ownsRow.alloc hr.out _) (And.intro (show At Wn b (mcC (.slice (some ⟨g, 0, none⟩) n cap) wd m') 43 by rw [← hWn]; exact hA.out.alloc _) (show Below w.heap.size w Wn by rw [← hWn]; exact hB.out.alloc hB.out.size _)))
      clear hx hxm hx2 hY
      go_wp2
      exact ⟨⟨J, T ++ Y, by omega, rfl, rfl, by rw [ByteArray.size_append]; have := hY'.out; omega, hTn, hid hnew.out.1, hid hnew.out.2.1, hid hnew.out.2.2⟩, by first | (simp [intOf]; done) | (simp [intOf]; omega)⟩

set_option maxRecDepth 10000 in
set_option maxHeartbeats 2000000 in
theorem fin16_14 (s : ByteArray) (hs : s.size ≤ 1048576) (k : Nat) (m : Mc) (hkm : runM mc0 (byts s) = (k, m)) (hst : m.st = 14) (w : World) :
    Calls Tryz.prog 20 #[.string s] w fun e w' => e = .returned (.string (mkS (finM m))) ∧ Below w.heap.size w w' := by
  have hfin : Hid (finM m = [] ++ shutsL m.op) := hid (by unfold finM; rw [if_neg (by omega), if_neg (by omega), if_neg (by omega), if_neg (by omega), if_neg (by omega), if_neg (by omega), if_neg (by omega)]; rfl)
  obtain ⟨Z, hZ⟩ : ∃ Z, Hid (mkS (finM m) = Z) := ⟨_, rfl⟩
  rw [hZ.out]
  have hrk := run_ok (byts s)
  have hlo := run_lo (byts s)
  rw [hkm, byts_length] at hrk
  rw [hkm] at hlo
  have hop0 : m.op.length ≤ s.size := hrk.1.op
  have hop : m.op.length ≤ 1048576 := by omega
  have hok := hid hrk.1.ok
  have hf2 := hid hrk.1.fit2
  have hfit := hid hrk.1.fit
  have hlo' := hid hlo
  have hst' := hid hst
  have hlf4 := hid hrk.1.lf
  have hrun := hid (run16_calls s hs w)
  have hkm' := hid hkm
  clear hrk hlo hop0 hkm
  go_enter Tryz.func20, Tryz.ntmps20
  go_wp2_with fail
  refine hrun.out.mono ?_
  rintro e W1 ⟨k', m', v, wd, hkm2, rfl, hrow, hword, hB1⟩
  obtain ⟨rfl, rfl⟩ : k' = k ∧ m' = m := by
    have h := hkm2.symm.trans hkm'.out
    injection h with h1 h2
    exact ⟨h1, h2⟩
  obtain ⟨ao, cap, rfl⟩ := own_len hrow
  obtain ⟨n, hnn⟩ : ∃ n, Hid (m'.op.length = n) := ⟨_, rfl⟩
  have hwd' := hid hword
  rw [hnn.out] at hop
  obtain ⟨W2, hW2⟩ : ∃ W2, W1.alloc (.cells #[.slice ao n cap, .int .i64 14, .bool m'.nm, .string wd, .int .i64 (m'.lf : Int), .int .i64 (m'.lo : Int), .int .i64 (m'.hi : Int)] 43) = W2 := ⟨_, rfl⟩
  obtain ⟨b, hb⟩ : ∃ b, W1.heap.size = b := ⟨_, rfl⟩
  have hM2 : At W2 b (mcC (.slice ao n cap) wd m') 43 := by
    rw [← hW2, ← hb]
    have h := At.new W1 (mcC (.slice ao n cap) wd m') 43
    simpa [mcC, hst] using h
  have hr2 : W2.ownsRow w.heap.size 5 1 (.slice ao n cap) n (opC m'.op) := by
    rw [← hW2]
    rw [hnn.out] at hrow
    exact World.ownsRow.alloc hrow _
  have hBB : Below w.heap.size w W2 := by rw [← hW2]; exact hB1.alloc hB1.size _
  have c0 := (mcAt_of hM2).c0
  have c1 : W2.cell? ⟨b, 1, none⟩ = some (.int .i64 14) := by rw [(mcAt_of hM2).c1, hst]; rfl
  have c3 := (mcAt_of hM2).c3
  have hM2' := hid hM2
  have hr2' := hid hr2
  have hB2' := hid hBB
  have hni : (n : Int) ≤ 1048576 := by omega
  clear hrun hkm2 hrow hword hB1 hM2 hr2 hBB
  dsimp only [mcC]
  rw [hnn.out, hst]
  clear hst
  have hP : Hid (mkS [] = ⟨#[]⟩) := hid rfl
  obtain ⟨OP, hOP⟩ : ∃ OP, Hid (m'.op = OP) := ⟨_, rfl⟩
  have hOl : Hid (OP.length = n) := hid (by rw [← hOP.out]; exact hnn.out)
  have hOg : Hid (∀ (i x : Nat), OP[i]? = some x → m'.op[i]? = some x) := hid (fun i x h => by rw [← hOP.out] at h; exact h)
  go_wp2
  go_loopw [5, 7] (fun ss ii wr => ∃ (j : Nat) (T : ByteArray), j ≤ n ∧ ii = .int .i64 ((j : Int) - 1) ∧ ss = .string T ∧ T.size ≤ 2097152 + (n - j) ∧ Hid (T = ⟨#[]⟩ ++ mkS (shutsL (OP.drop j))) ∧ Hid (wr.ownsRow w.heap.size 5 1 (.slice ao n cap) n (opC m'.op)) ∧ Hid (At wr b (mcC (.slice ao n cap) wd m') 43) ∧ Hid (Below w.heap.size w wr)) (fun _ ii _ => (intOf ii + 1).toNat)
  case atStart =>
    refine ⟨n, ⟨#[]⟩, Nat.le_refl _, congrArg (Value.int IntKind.i64) (by omega), rfl, by first | (show ByteArray.size _ ≤ _; simp [ByteArray.size]; done) | omega, hid ?_, hr2', hM2', hB2'⟩
    rw [List.drop_of_length_le (by have := hOl.out; omega)]
    show _ = _ ++ mkS []
    apply ByteArray.ext
    simp [mkS]
  case round =>
    clear c0 c1 c3
    obtain ⟨j, T, hj, rfl, rfl, hTs, hT, hr, hA, hB⟩ := hrel
    have c0 := (mcAt_of hA.out).c0
    cases j with
    | zero =>
      rw [show (((0 : Nat) : Int) - 1) = -1 from rfl]
      have hTZ : T = Z := by
        rw [hT.out, ← hZ.out, hfin.out, List.drop_zero, mkS_appV, ← hOP.out]
        rfl
      subst hTZ
      go_wp2
      go_ret
      exact ⟨rfl, hB.out⟩
    | succ J =>
      rw [show (((J + 1 : Nat) : Int) - 1) = (J : Int) by omega]
      obtain ⟨x, hx⟩ : ∃ x, OP[J]? = some x := ⟨_, List.getElem?_eq_getElem (by have := hOl.out; omega)⟩
      have hxm := hOg.out J x hx
      have hx2 : x = 91 ∨ x = 123 := hf2.out.op x (List.mem_of_getElem? hxm)
      obtain ⟨g, rfl, hcell⟩ := own_cellU hr.out hxm
      have hadd : (⟨g, 0, none⟩ : Addr).add J = ⟨g, J, none⟩ := by by_cases h : J = 0 <;> simp [Addr.add, h]
      have l0 : (J : Int) < (n : Int) := by omega
      have l1 : (x : Int) + 2 < 256 := by omega
      have l2 : (0 : Int) ≤ (J : Int) := by omega
      obtain ⟨Wn, hWn⟩ : ∃ Wn, wr.alloc (.cells #[.int .u8 ((x : Int) + 2)] 5) = Wn := ⟨_, rfl⟩
      have hcv : (convert 39 9 (.slice (some ⟨wr.heap.size, 0, none⟩) 1 1)).run Tryz.prog Wn = .ok (.string (mkS [x + 2])) Wn := by
        refine conv_row (B := wr.heap.size) ?_
        rw [strCells_mkS (fun y hy => by simp at hy; omega), mkS_size, ← hWn]
        exact ⟨rfl, .inr ⟨wr.heap.size, 1, #[.int .u8 ((x : Int) + 2)], rfl, Nat.le_refl _, At.new _ _ _, Nat.le_refl _, by unfold maxLen; decide, rfl, by simp⟩⟩
      obtain ⟨Y, hY⟩ : ∃ Y, mkS [x + 2] = Y := ⟨_, rfl⟩
      rw [hY] at hcv
      have hYs : Y.size = 1 := by rw [← hY, mkS_size]; rfl
      have hTn : Hid (T ++ Y = ⟨#[]⟩ ++ mkS (shutsL (OP.drop J))) := hid (by
        have hJ : J < OP.length := by have := hOl.out; omega
        have hd : OP.drop J = x :: OP.drop (J + 1) := by
          rw [List.drop_eq_getElem_cons hJ]
          congr 1
          rw [List.getElem?_eq_getElem hJ] at hx
          injection hx
        rw [hT.out, ← hY, ByteArray.append_assoc, ← mkS_appV, ← shuts_cons, hd])
      have hY' := hid hYs
      have hnew := hid (And.intro (show Wn.ownsRow w.heap.size 5 1 (.slice (some ⟨g, 0, none⟩) n cap) n (opC m'.op) by rw [← hWn]; exact World.ownsRow.alloc hr.out _) (And.intro (show At Wn b (mcC (.slice (some ⟨g, 0, none⟩) n cap) wd m') 43 by rw [← hWn]; exact hA.out.alloc _) (show Below w.heap.size w Wn by rw [← hWn]; exact hB.out.alloc hB.out.size _)))
      clear hx hxm hx2 hY
      go_wp2
      exact ⟨⟨J, T ++ Y, by omega, rfl, rfl, by rw [ByteArray.size_append]; have := hY'.out; omega, hTn, hid hnew.out.1, hid hnew.out.2.1, hid hnew.out.2.2⟩, by first | (simp [intOf]; done) | (simp [intOf]; omega)⟩

set_option maxRecDepth 10000 in
set_option maxHeartbeats 2000000 in
theorem fin16_17 (s : ByteArray) (hs : s.size ≤ 1048576) (k : Nat) (m : Mc) (hkm : runM mc0 (byts s) = (k, m)) (hst : m.st = 17) (w : World) :
    Calls Tryz.prog 20 #[.string s] w fun e w' => e = .returned (.string (mkS (finM m))) ∧ Below w.heap.size w w' := by
  have hfin : Hid (finM m = [] ++ shutsL m.op) := hid (by unfold finM; rw [if_neg (by omega), if_neg (by omega), if_neg (by omega), if_neg (by omega), if_neg (by omega), if_neg (by omega), if_neg (by omega)]; rfl)
  obtain ⟨Z, hZ⟩ : ∃ Z, Hid (mkS (finM m) = Z) := ⟨_, rfl⟩
  rw [hZ.out]
  have hrk := run_ok (byts s)
  have hlo := run_lo (byts s)
  rw [hkm, byts_length] at hrk
  rw [hkm] at hlo
  have hop0 : m.op.length ≤ s.size := hrk.1.op
  have hop : m.op.length ≤ 1048576 := by omega
  have hok := hid hrk.1.ok
  have hf2 := hid hrk.1.fit2
  have hfit := hid hrk.1.fit
  have hlo' := hid hlo
  have hst' := hid hst
  have hlf4 := hid hrk.1.lf
  have hrun := hid (run16_calls s hs w)
  have hkm' := hid hkm
  clear hrk hlo hop0 hkm
  go_enter Tryz.func20, Tryz.ntmps20
  go_wp2_with fail
  refine hrun.out.mono ?_
  rintro e W1 ⟨k', m', v, wd, hkm2, rfl, hrow, hword, hB1⟩
  obtain ⟨rfl, rfl⟩ : k' = k ∧ m' = m := by
    have h := hkm2.symm.trans hkm'.out
    injection h with h1 h2
    exact ⟨h1, h2⟩
  obtain ⟨ao, cap, rfl⟩ := own_len hrow
  obtain ⟨n, hnn⟩ : ∃ n, Hid (m'.op.length = n) := ⟨_, rfl⟩
  have hwd' := hid hword
  rw [hnn.out] at hop
  obtain ⟨W2, hW2⟩ : ∃ W2, W1.alloc (.cells #[.slice ao n cap, .int .i64 17, .bool m'.nm, .string wd, .int .i64 (m'.lf : Int), .int .i64 (m'.lo : Int), .int .i64 (m'.hi : Int)] 43) = W2 := ⟨_, rfl⟩
  obtain ⟨b, hb⟩ : ∃ b, W1.heap.size = b := ⟨_, rfl⟩
  have hM2 : At W2 b (mcC (.slice ao n cap) wd m') 43 := by
    rw [← hW2, ← hb]
    have h := At.new W1 (mcC (.slice ao n cap) wd m') 43
    simpa [mcC, hst] using h
  have hr2 : W2.ownsRow w.heap.size 5 1 (.slice ao n cap) n (opC m'.op) := by
    rw [← hW2]
    rw [hnn.out] at hrow
    exact World.ownsRow.alloc hrow _
  have hBB : Below w.heap.size w W2 := by rw [← hW2]; exact hB1.alloc hB1.size _
  have c0 := (mcAt_of hM2).c0
  have c1 : W2.cell? ⟨b, 1, none⟩ = some (.int .i64 17) := by rw [(mcAt_of hM2).c1, hst]; rfl
  have c3 := (mcAt_of hM2).c3
  have hM2' := hid hM2
  have hr2' := hid hr2
  have hB2' := hid hBB
  have hni : (n : Int) ≤ 1048576 := by omega
  clear hrun hkm2 hrow hword hB1 hM2 hr2 hBB
  dsimp only [mcC]
  rw [hnn.out, hst]
  clear hst
  have hP : Hid (mkS [] = ⟨#[]⟩) := hid rfl
  obtain ⟨OP, hOP⟩ : ∃ OP, Hid (m'.op = OP) := ⟨_, rfl⟩
  have hOl : Hid (OP.length = n) := hid (by rw [← hOP.out]; exact hnn.out)
  have hOg : Hid (∀ (i x : Nat), OP[i]? = some x → m'.op[i]? = some x) := hid (fun i x h => by rw [← hOP.out] at h; exact h)
  go_wp2
  go_loopw [5, 7] (fun ss ii wr => ∃ (j : Nat) (T : ByteArray), j ≤ n ∧ ii = .int .i64 ((j : Int) - 1) ∧ ss = .string T ∧ T.size ≤ 2097152 + (n - j) ∧ Hid (T = ⟨#[]⟩ ++ mkS (shutsL (OP.drop j))) ∧ Hid (wr.ownsRow w.heap.size 5 1 (.slice ao n cap) n (opC m'.op)) ∧ Hid (At wr b (mcC (.slice ao n cap) wd m') 43) ∧ Hid (Below w.heap.size w wr)) (fun _ ii _ => (intOf ii + 1).toNat)
  case atStart =>
    refine ⟨n, ⟨#[]⟩, Nat.le_refl _, congrArg (Value.int IntKind.i64) (by omega), rfl, by first | (show ByteArray.size _ ≤ _; simp [ByteArray.size]; done) | omega, hid ?_, hr2', hM2', hB2'⟩
    rw [List.drop_of_length_le (by have := hOl.out; omega)]
    show _ = _ ++ mkS []
    apply ByteArray.ext
    simp [mkS]
  case round =>
    clear c0 c1 c3
    obtain ⟨j, T, hj, rfl, rfl, hTs, hT, hr, hA, hB⟩ := hrel
    have c0 := (mcAt_of hA.out).c0
    cases j with
    | zero =>
      rw [show (((0 : Nat) : Int) - 1) = -1 from rfl]
      have hTZ : T = Z := by
        rw [hT.out, ← hZ.out, hfin.out, List.drop_zero, mkS_appV, ← hOP.out]
        rfl
      subst hTZ
      go_wp2
      go_ret
      exact ⟨rfl, hB.out⟩
    | succ J =>
      rw [show (((J + 1 : Nat) : Int) - 1) = (J : Int) by omega]
      obtain ⟨x, hx⟩ : ∃ x, OP[J]? = some x := ⟨_, List.getElem?_eq_getElem (by have := hOl.out; omega)⟩
      have hxm := hOg.out J x hx
      have hx2 : x = 91 ∨ x = 123 := hf2.out.op x (List.mem_of_getElem? hxm)
      obtain ⟨g, rfl, hcell⟩ := own_cellU hr.out hxm
      have hadd : (⟨g, 0, none⟩ : Addr).add J = ⟨g, J, none⟩ := by by_cases h : J = 0 <;> simp [Addr.add, h]
      have l0 : (J : Int) < (n : Int) := by omega
      have l1 : (x : Int) + 2 < 256 := by omega
      have l2 : (0 : Int) ≤ (J : Int) := by omega
      obtain ⟨Wn, hWn⟩ : ∃ Wn, wr.alloc (.cells #[.int .u8 ((x : Int) + 2)] 5) = Wn := ⟨_, rfl⟩
      have hcv : (convert 39 9 (.slice (some ⟨wr.heap.size, 0, none⟩) 1 1)).run Tryz.prog Wn = .ok (.string (mkS [x + 2])) Wn := by
        refine conv_row (B := wr.heap.size) ?_
        rw [strCells_mkS (fun y hy => by simp at hy; omega), mkS_size, ← hWn]
        exact ⟨rfl, .inr ⟨wr.heap.size, 1, #[.int .u8 ((x : Int) + 2)], rfl, Nat.le_refl _, At.new _ _ _, Nat.le_refl _, by unfold maxLen; decide, rfl, by simp⟩⟩
      obtain ⟨Y, hY⟩ : ∃ Y, mkS [x + 2] = Y := ⟨_, rfl⟩
      rw [hY] at hcv
      have hYs : Y.size = 1 := by rw [← hY, mkS_size]; rfl
      have hTn : Hid (T ++ Y = ⟨#[]⟩ ++ mkS (shutsL (OP.drop J))) := hid (by
        have hJ : J < OP.length := by have := hOl.out; omega
        have hd : OP.drop J = x :: OP.drop (J + 1) := by
          rw [List.drop_eq_getElem_cons hJ]
          congr 1
          rw [List.getElem?_eq_getElem hJ] at hx
          injection hx
        rw [hT.out, ← hY, ByteArray.append_assoc, ← mkS_appV, ← shuts_cons, hd])
      have hY' := hid hYs
      have hnew := hid (And.intro (show Wn.ownsRow w.heap.size 5 1 (.slice (some ⟨g, 0, none⟩) n cap) n (opC m'.op) by rw [← hWn]; exact World.ownsRow.alloc hr.out _) (And.intro (show At Wn b (mcC (.slice (some ⟨g, 0, none⟩) n cap) wd m') 43 by rw [← hWn]; exact hA.out.alloc _) (show Below w.heap.size w Wn by rw [← hWn]; exact hB.out.alloc hB.out.size _)))
      clear hx hxm hx2 hY
      go_wp2
      exact ⟨⟨J, T ++ Y, by omega, rfl, rfl, by rw [ByteArray.size_append]; have := hY'.out; omega, hTn, hid hnew.out.1, hid hnew.out.2.1, hid hnew.out.2.2⟩, by first | (simp [intOf]; done) | (simp [intOf]; omega)⟩

theorem fin16_calls (s : ByteArray) (hs : s.size ≤ 1048576) (w : World) :
    Calls Tryz.prog 20 #[.string s] w fun e w' => e = .returned (.string (mkS (finM (runM mc0 (byts s)).2))) ∧ Below w.heap.size w w' := by
  obtain ⟨k, m, hkm⟩ : ∃ k m, runM mc0 (byts s) = (k, m) := ⟨_, _, rfl⟩
  have h17 : m.st ≤ 17 := by have := (run_ok (byts s)).1.fit.st; rw [hkm] at this; exact this
  rw [hkm]
  by_cases h0 : m.st = 0
  · exact fin16_0 s hs k m hkm h0 w
  by_cases h1 : m.st = 1
  · exact fin16_1 s hs k m hkm h1 w
  by_cases h2 : m.st = 2
  · exact fin16_2 s hs k m hkm h2 w
  by_cases h3 : m.st = 3
  · exact fin16_3 s hs k m hkm h3 w
  by_cases h4 : m.st = 4
  · exact fin16_4 s hs k m hkm h4 w
  by_cases h5 : m.st = 5
  · exact fin16_5 s hs k m hkm h5 w
  by_cases h6 : m.st = 6
  · exact fin16_6 s hs k m hkm h6 w
  by_cases h7 : m.st = 7
  · exact fin16_7 s hs k m hkm h7 w
  by_cases h8 : m.st = 8
  · exact fin16_8 s hs k m hkm h8 w
  by_cases h9 : m.st = 9
  · exact fin16_9 s hs k m hkm h9 w
  by_cases h10 : m.st = 10
  · exact fin16_10 s hs k m hkm h10 w
  by_cases h11 : m.st = 11
  · exact fin16_11 s hs k m hkm h11 w
  by_cases h12 : m.st = 12
  · exact fin16_12 s hs k m hkm h12 w
  by_cases h13 : m.st = 13
  · exact fin16_13 s hs k m hkm h13 w
  by_cases h14 : m.st = 14
  · exact fin16_14 s hs k m hkm h14 w
  by_cases h15 : m.st = 15
  · exact fin16_15 s hs k m hkm h15 w
  by_cases h16 : m.st = 16
  · exact fin16_16 s hs k m hkm h16 w
  by_cases h17 : m.st = 17
  · exact fin16_17 s hs k m hkm h17 w
  omega

end Go.Proofs.YtlckhiflhnlgpaaGreatDoor
