/-
  What whole.Int and whole.Uint answer, type by type (by gen_whl.py).
-/
import Derived.Test.YtheeonlfbnkhgaaDoorWhlGat
namespace Go.Proofs.YtheeonlfbnkhgaaDoor
open Go.RowKit Go.Shelf

set_option maxRecDepth 10000 in
theorem behind_int8 (b : Bool) (n d : Int) (hs : Hid (sgN b n)) (h0 : Hid (0 ≤ d)) (h9 : Hid (d ≤ 9)) (w : World) :
    Calls Tryd.prog 79 #[.int .i8 n, .int .i8 d, .bool b] w fun e w' => e = endN .i8 (nxN b n d) ∧ w' = w := by
  cases b
  · go_enter Tryd.func79, Tryd.ntmps79
    go_wp2
    all_goals first
      | exact ⟨rfl, beh_pq kW_i8 hs.out h0.out h9.out (by assumption), rfl⟩
      | exact ⟨rfl, beh_p0 kW_i8 hs.out h0.out h9.out (by assumption), rfl⟩
      | (go_ret; exact ⟨beh_ret0 kW_i8 hs.out h0.out h9.out (by assumption) (by assumption), rfl⟩)
  · go_enter Tryd.func79, Tryd.ntmps79
    go_wp2
    all_goals first
      | exact ⟨rfl, beh_pq kW_i8 hs.out h0.out h9.out (by assumption), rfl⟩
      | exact ⟨rfl, beh_p1 kW_i8 hs.out h0.out h9.out (by assumption), rfl⟩
      | (go_ret; exact ⟨beh_ret1 kW_i8 hs.out h0.out h9.out (by assumption) (by assumption), rfl⟩)
set_option maxRecDepth 10000 in
theorem gather_int8 (s D : ByteArray) (B : Bool) (hP : Hid (PlainN s B D)) (hs : D.size ≤ 281474976710656) (w : World) :
    Calls Tryd.prog 64 #[.string s] w fun e w' => e = endN .i8 (sgV B (pwN D.data.toList)) ∧ w' = w := by
  have hc := hid (fun w1 => cut_calls s D B hP.out.dig_eq hP.out.lk0.symm w1)
  have hz : sgV B 0 = 0 := (sgV_zero .i8 B).2
  have hz' := hid hz
  clear hz
  go_enter Tryd.func64, Tryd.ntmps64
  go_wp2_with fail
  refine Calls.mono (hc.out _) ?_
  rintro e w1 ⟨rfl, hw⟩
  rw [hw]
  clear hw hc w1
  go_wp2_with fail
  go_loop [5, 6, 15] (fun nn _ ii => ∃ (i m : Nat), i ≤ D.size ∧ ii = .int .i64 (i : Int) ∧ nn = .int .i8 (sgV B m) ∧ Hid (GatR .i8 B D i m)) (fun _ _ ii => D.size - (intOf ii).toNat)
  case atStart => exact ⟨0, 0, Nat.zero_le _, rfl, by rw [hz'.out], GatR.zero _ _ _⟩
  case round =>
    obtain ⟨i, m, hi, rfl, rfl, hg⟩ := hrel
    by_cases hin : i < D.size
    · have e1 : decide ((i : Int) < (D.size : Int)) = true := by simp; omega
      obtain ⟨x, hx⟩ : ∃ x : UInt8, D[i]'hin = x := ⟨_, rfl⟩
      have hxl : lk D i = x.toNat := by rw [lk_at D i hin, hx]
      have hdg := hP.out.dig i hin
      rw [hxl] at hdg
      obtain ⟨d, hd⟩ : ∃ d : Nat, x.toNat - 48 = d := ⟨_, rfl⟩
      have h9 : d ≤ 9 := by have := (dgB_iff _).1 hdg; omega
      have e2 : IntKind.u8.wrap ((x.toNat : Int) - 48) = (d : Int) := by rw [u8_dig hdg, hd]
      have e3 := k_dig .i8 kW_i8 h9
      have hb := hid (fun w1 => behind_int8 B (sgV B m) (d : Int) (sgV_sg B m) (Int.natCast_nonneg d) (by show (d : Int) ≤ 9; omega) w1)
      rw [sgV_nx] at hb
      have hdl := hid (show lk D i - 48 = d by rw [hxl, hd])
      clear hxl hdg hd h9 hz'
      generalize hn : sgV B m = n at hb ⊢
      have hn' := hid hn
      clear hn
      go_wp2_with fail
      refine Calls.mono (hb.out _) ?_
      rintro e w1 ⟨he, hw⟩
      rw [hw, he]
      clear hw hb he w1 e
      by_cases hf : fitN .i8 (sgV B (10 * m + d))
      · rw [endN, if_pos hf]
        have hf' := hid hf
        clear hf
        go_wp2
        go_round
        case rel => exact ⟨i + 1, 10 * m + d, by omega, by simp, rfl, by have := hg.out.next hin (by rw [hdl.out]; exact hf'.out); rw [hdl.out] at this; exact this⟩
        case measure => simp [intOf]; omega
      · rw [endN, if_neg hf, overE]
        have hov := hid (hg.out.off hin (by rw [hdl.out]; exact hf))
        clear hf
        go_wp2
        exact ⟨rfl, hov.out, rfl⟩
    · have e1 : decide ((i : Int) < (D.size : Int)) = false := by simp; omega
      obtain rfl : i = D.size := by omega
      have hend := hid hg.out.all
      clear hg hz'
      generalize sgV B m = n at hend ⊢
      go_wp2
      go_ret
      exact ⟨hend.out, rfl⟩
set_option maxRecDepth 10000 in
theorem read_int8 (s : ByteArray) (hs : s.size ≤ 281474976710656) (w : World) :
    Calls Tryd.prog 49 #[.string s] w fun e w' => e = rdE .i8 s ∧ Below w.heap.size w w' := by
  obtain ⟨r, hr⟩ : ∃ r, ofS s = r := ⟨_, rfl⟩
  obtain ⟨⟨dn, dd, dx⟩, er⟩ := r
  have ho := hid (fun w1 => of_calls s hs w1)
  have hov := hid (show ofV s = .tuple #[.agg #[.bool dn, .string ⟨dd.toArray⟩, .int .i64 dx], .int .i64 (er : Int)] by rw [ofV, hr]; rfl)
  rw [hov.out] at ho
  generalize (⟨dd.toArray⟩ : ByteArray) = TD at ho
  have he2 := hid (show (ofS s).2 = er by rw [hr])
  clear hov hr
  have hs' := hid hs
  clear hs
  go_enter Tryd.func49, Tryd.ntmps49
  go_wp2_with fail
  refine Calls.mono (ho.out _) ?_
  rintro e w1 ⟨rfl, hb⟩
  have hb1 := hid (show Below w.heap.size w (w1.alloc (.cells #[.bool dn, .string TD, .int .i64 dx] 23)) from hb.alloc hb.size _)
  clear ho hb
  go_upto_region 2 with fail
  generalize w1.alloc (.cells #[.bool dn, .string TD, .int .i64 dx] 23) = w2 at hb1 ⊢
  by_cases h1 : er = 110
  · have e1 : ((er : Int) == 110) = true := by simp [h1]
    have hE := hid (show rdE .i8 s = .returned (.tuple #[.int .i8 0, .int .i64 110]) by rw [rdE, if_pos (by rw [he2.out]; exact h1)])
    clear h1
    go_wp2
    refine bodyPost_ret (results_tmp2 rfl _ _ _) rfl ?_
    exact ⟨hE.out.symm, hb1.out⟩
  · have e1 : ((er : Int) == 110) = false := by simp; omega
    have hne : (ofS s).2 ≠ 110 := by rw [he2.out]; exact h1
    obtain ⟨B, hB⟩ : ∃ B, hasP s = B := ⟨_, rfl⟩
    have hc := hid (fun w1 => cany_calls s hs'.out (of_ascii hne) B hB w1)
    have hne' := hid hne
    have hB' := hid hB
    clear hB hne h1
    go_wp2_with fail
    refine Calls.mono (hc.out _) ?_
    rintro e w3 ⟨rfl, hb⟩
    have hb3 := hid (hb1.out.trans (hb.mono hb1.out.size))
    clear hc hb hb1
    cases B with
    | true =>
      have hE := hid (show rdE .i8 s = .returned (.tuple #[.int .i8 0, .int .i64 120]) by rw [rdE, if_neg hne'.out, if_pos hB'.out])
      go_wp2
      refine bodyPost_ret (results_tmp2 rfl _ _ _) rfl ?_
      exact ⟨hE.out.symm, hb3.out⟩
    | false =>
      have hP := plain_of hne'.out hB'.out
      have hg := hid (fun w1 => gather_int8 s _ _ hP (Nat.le_trans (plain_size hP) hs'.out) w1)
      rw [← val_sg hP] at hg
      clear hP
      have hE := hid (show rdE .i8 s = if fitN .i8 (valS s) then .returned (.tuple #[.int .i8 (valS s), .int .i64 0]) else overE by rw [rdE, if_neg hne'.out, if_neg (by rw [hB'.out]; decide)])
      clear hne' hB' hs' he2
      generalize valS s = v at hg hE
      go_wp2_with fail
      refine Calls.mono (hg.out _) ?_
      rintro e w4 ⟨he, hw⟩
      rw [hw, he]
      clear hw hg he w4 e
      by_cases hf : fitN .i8 v
      · rw [endN, if_pos hf]
        rw [if_pos hf] at hE
        clear hf
        go_wp2
        refine bodyPost_ret (results_tmp2 rfl _ _ _) rfl ?_
        exact ⟨hE.out.symm, hb3.out⟩
      · rw [endN, if_neg hf, overE]
        rw [if_neg hf] at hE
        clear hf
        go_wp2
        exact ⟨rfl, hE.out.symm, hb3.out⟩
theorem catch_int8 (p q : Addr) (x y : Value) (u : TypeId) (pv : Value) (older : List PanicEntry) (w : World) (hp : w.cell? p = some x) (hzp : w.frozen? p = false) (hq : (w.setCell p (.int .i8 0)).cell? q = some y) (hzq : (w.setCell p (.int .i8 0)).frozen? q = false) :
    CallsD Tryd.prog 48 #[.pointer (some p), .pointer (some q)] (.panicking ({ v := .iface u pv, recovered := false } :: older)) w fun e u' w' =>
      e = .returned (.tuple #[]) ∧ u' = .panicking ({ v := .iface u pv, recovered := true } :: older) ∧ w' = (w.setCell p (.int .i8 0)).setCell q (.int .i64 121) := by
  refine callsD_of_wpS Tryd.func48 rfl fun c₀ cs hu => ?_
  apply wpS_seq
  apply wpS_region
  simp [wpOpsS, go_sem, recoverD, hu, Tryd.ntmps48, Exit.thenS]
  refine wpS_cond (t := true) (by simp [Act.eval, Array.replicate]) ?_
  simp only [if_true]
  apply wpS_region
  simp [wpOpsS, go_sem, hp, hzp, hq, hzq, bodyPostS, results, Tryd.results48]
theorem idle_int8 (p q : Addr) (w : World) :
    CallsD Tryd.prog 48 #[.pointer (some p), .pointer (some q)] .returning w fun e u' w' => e = .returned (.tuple #[]) ∧ u' = .returning ∧ w' = w := by
  refine callsD_of_wpS Tryd.func48 rfl fun c₀ cs hu => ?_
  apply wpS_seq
  apply wpS_region
  simp [wpOpsS, go_sem, recoverD, hu, Tryd.ntmps48, Exit.thenS]
  refine wpS_cond (t := false) (by simp [Act.eval, Array.replicate]) ?_
  simp only [Bool.false_eq_true, if_false]
  refine wpS_of_wp (wp_skip ?_)
  cases c₀
  simp_all [bodyPostS, results, Tryd.results48]
set_option maxRecDepth 10000 in
theorem face_int8 (s : ByteArray) (hs : s.size ≤ 281474976710656) (X : Int) (E : Nat) (hX : Hid (wholeS IntKind.i8.min IntKind.i8.max s = (X, E))) (w : World) :
    Calls Tryd.prog 38 #[.string s] w fun e w' => e = .returned (.tuple #[.int .i8 X, .int .i64 (E : Int)]) ∧ Below w.heap.size w w' := by
  have hmf : ∀ (fn : Fn) (first cap : Array Value) (w : World), (Instr.makeFunc fn first cap).run Tryd.prog w = .ok (.func fn first cap) w := fun _ _ _ _ => rfl
  have hr := hid (fun w1 => read_int8 s hs w1)
  have hE := hid (rd_whole hX.out)
  clear hX hs
  have A0 := hid ((At.new w #[.int .i8 0] 40).alloc (.cells #[.int .i64 0] 29))
  have B0 := hid (show At _ (w.heap.size + 1) _ _ from by have := At.new (w.alloc (.cells #[.int .i8 0] 40)) #[.int .i64 0] 29; rwa [World.size_alloc] at this)
  have b0 := hid (show Below w.heap.size w ((w.alloc (.cells #[.int .i8 0] 40)).alloc (.cells #[.int .i64 0] 29)) by repeat (first | with_reducible exact Below.refl _ _ | with_reducible refine Below.setCell ?_ (by first | (simp; done) | (simp; omega)) _ | with_reducible refine below_drewN ?_ _ | with_reducible refine Below.alloc ?_ (by first | (simp; done) | (simp; omega)) _ | with_reducible refine Below.drew ?_))
  go_enter_defers Tryd.func38, Tryd.ntmps38
  go_wp2_with fail
  refine Calls.mono (hr.out _) ?_
  rintro e w3 ⟨he, hb⟩
  rw [he]
  have A3 := hid (A0.out.keptAll hb)
  have B3 := hid (B0.out.keptAll hb)
  have b3 := hid (b0.out.trans (hb.mono b0.out.size))
  clear he hb hr A0 B0 b0 e
  rcases hE.out with h | ⟨h, rfl, rfl⟩
  · rw [h]
    have A4 := hid ((A3.out.set 0 (.int .i8 X)).other (p := ⟨w.heap.size + 1, 0, none⟩) (by simp) (.int .i64 (E : Int)))
    have B4 := hid ((B3.out.other (p := ⟨w.heap.size, 0, none⟩) (by simp) (.int .i8 X)).set 0 (.int .i64 (E : Int)))
    have b4 := hid (show Below w.heap.size w ((w3.setCell ⟨w.heap.size, 0, none⟩ (.int .i8 X)).setCell ⟨w.heap.size + 1, 0, none⟩ (.int .i64 (E : Int))) from (b3.out.setCell (Nat.le_refl _) _).setCell (Nat.le_succ _) _)
    have c0 : w3.cell? ⟨w.heap.size, 0, none⟩ = some (.int .i8 0) := A3.out.cell 0
    have f0 := A3.out.frozen 0
    have c1 : w3.cell? ⟨w.heap.size + 1, 0, none⟩ = some (.int .i64 0) := B3.out.cell 0
    have f1 := B3.out.frozen 0
    clear h hE A3 B3 b3
    go_wp2
    clear c0 f0 c1 f1
    generalize (w3.setCell ⟨w.heap.size, 0, none⟩ (.int .i8 X)).setCell ⟨w.heap.size + 1, 0, none⟩ (.int .i64 (E : Int)) = w4 at A4 B4 b4 ⊢
    have c0 : w4.cell? ⟨w.heap.size, 0, none⟩ = some (.int .i8 X) := A4.out.cell 0
    have c1 : w4.cell? ⟨w.heap.size + 1, 0, none⟩ = some (.int .i64 (E : Int)) := B4.out.cell 0
    refine leaves_cons (f := 48) (args := #[.pointer (some ⟨w.heap.size, 0, none⟩), .pointer (some ⟨w.heap.size + 1, 0, none⟩)]) (by simp) (by simp [go_sem]) ?_
    refine (idle_int8 _ _ _).mono ?_
    rintro e u' w'' ⟨rfl, rfl, rfl⟩
    simp [Leaves, settle, results, Tryd.results38, go_sem, c0, c1]
    exact b4.out
  · rw [h, overE]
    have c0 : w3.cell? ⟨w.heap.size, 0, none⟩ = some (.int .i8 0) := A3.out.cell 0
    have f0 := A3.out.frozen 0
    have B4 := hid (B3.out.other (p := ⟨w.heap.size, 0, none⟩) (by simp) (.int .i8 0))
    have A5 := hid ((A3.out.set 0 (.int .i8 0)).other (p := ⟨w.heap.size + 1, 0, none⟩) (by simp) (.int .i64 121))
    have B5 := hid (B4.out.set 0 (.int .i64 121))
    have b5 := hid (show Below w.heap.size w ((w3.setCell ⟨w.heap.size, 0, none⟩ (.int .i8 0)).setCell ⟨w.heap.size + 1, 0, none⟩ (.int .i64 121)) from (b3.out.setCell (Nat.le_refl _) _).setCell (Nat.le_succ _) _)
    clear h hE A3 B3 b3
    go_wp2
    refine leaves_cons (f := 48) (args := #[.pointer (some ⟨w.heap.size, 0, none⟩), .pointer (some ⟨w.heap.size + 1, 0, none⟩)]) (by simp) (by simp [go_sem]) ?_
    refine (catch_int8 _ _ _ _ _ _ [] _ c0 f0 (B4.out.cell 0) (B4.out.frozen 0)).mono ?_
    rintro e u' w'' ⟨rfl, rfl, rfl⟩
    clear c0 f0 B4
    generalize (w3.setCell ⟨w.heap.size, 0, none⟩ (.int .i8 0)).setCell ⟨w.heap.size + 1, 0, none⟩ (.int .i64 121) = w4 at A5 B5 b5 ⊢
    have c0 : w4.cell? ⟨w.heap.size, 0, none⟩ = some (.int .i8 0) := A5.out.cell 0
    have c1 : w4.cell? ⟨w.heap.size + 1, 0, none⟩ = some (.int .i64 121) := B5.out.cell 0
    simp [Leaves, settle, results, Tryd.results38, go_sem, c0, c1]
    exact b5.out
end Go.Proofs.YtheeonlfbnkhgaaDoor
