/-
  A pattern: New.
-/
import Derived.Test.YtiggfigjibggaaaHpQ
namespace Go.Proofs.Ytiggfigjibggaaa
open Go.RowKit Go.Shelf Go.Maps

theorem range_lr {w : World} {b o : Nat} {x : Lr} (h : w.rangeAt b o (lrL x)) : w.rangeAt b o [.string x.r, .string x.n, .int .i64 x.p, .int .i64 x.h] := h
theorem frm_bounds {x : Lr} (h : frm x = true) : 0 ≤ x.p ∧ 0 ≤ x.h ∧ x.h ≤ 4611686018427387904 := by simpa [frm] using h
theorem PatM.mem_key {w : World} {pb : Nat} {S : Nat → Prop} {room came : Nat} {L : List Ent} (h : PatM w pb S room came L) (e : Ent) (he : e ∈ L) : EnOk e := by
  obtain ⟨mb, v, H, h⟩ := h
  exact (h.ok e he).2
/-- What New leaves. -/
def NwP (room : Nat) (l : List Lr) (w : World) (e : Ending) (w' : World) : Prop :=
  Hid (Below w.heap.size w w') ∧ ((Hid (okL l) ∧ ∃ pb, e = .returned (.tuple #[ptB pb, .int .i64 0]) ∧ Hid (PatM w' pb (fun q => w.heap.size ≤ q) room l.length (entsL l))) ∨ (Hid (¬ okL l) ∧ e = .returned (.tuple #[.pointer none, .int .i64 1])))
theorem okL_take {l : List Lr} (h : okL l) (i : Nat) : okL (l.take i) := ⟨fun x hx => h.1 x (List.mem_of_mem_take hx), h.2.sublist (List.take_sublist _ _)⟩
theorem okL_snoc {l : List Lr} {i : Nat} {x : Lr} (h : okL (l.take i)) (hx : l[i]? = some x) (hf : frm x = true) (hd : ∀ y ∈ l.take i, ¬ (y.r = x.r ∧ y.n = x.n)) : okL (l.take (i + 1)) := by
  have e : l.take (i + 1) = l.take i ++ [x] := by rw [List.take_add_one, hx]; rfl
  rw [e]
  refine ⟨fun y hy => ?_, ?_⟩
  · rcases List.mem_append.1 hy with hy | hy
    · exact h.1 y hy
    · obtain rfl := List.mem_singleton.1 hy
      exact hf
  · rw [List.pairwise_append]
    refine ⟨h.2, by simp, fun y hy z hz => ?_⟩
    obtain rfl := List.mem_singleton.1 hz
    exact hd y hy
set_option maxRecDepth 10000 in
set_option maxHeartbeats 8000000 in
theorem new_calls (room : Nat) (hr : room ≤ 4096) (l : List Lr) (N : Nat) (hN : Hid (l.length = N)) (hl : N ≤ room) (ao : Option Addr) (c : Nat) (w : World) (hlns : Hid (LnsAt w ao l)) :
    Calls Try.prog 8 #[.int .i64 (room : Int), .slice ao N c] w fun e w' => NwP room l w e w' := by
  have e1 : decide ((room : Int) < 0) = false := by simp
  have h2 : ¬ (4096 : Int) < (room : Int) := by omega
  have h3 : ¬ (room : Int) < (N : Int) := by omega
  have hNi : (N : Int) ≤ 4096 := by omega
  have hmm := @run_makeMap Try.prog
  obtain ⟨mb, hmb⟩ : ∃ m, w.heap.size = m := ⟨_, rfl⟩
  obtain ⟨W1, hW1⟩ : ∃ W, w.alloc (.map #[] 0) = W := ⟨_, rfl⟩
  have M1 : MpM W1 mb [] := by rw [← hW1, ← hmb]; exact MpM.made w
  have B1 : Below w.heap.size w W1 := by rw [← hW1]; exact (Below.refl _ w).alloc (Nat.le_refl _) _
  have hs1 : W1.heap.size = mb + 1 := by rw [← hW1]; simp [hmb]
  obtain ⟨W2, hW2⟩ : ∃ W, W1.alloc (.cells (patC (room : Int) 0 (.map (some mb)) (.slice none 0 0)) 71) = W := ⟨_, rfl⟩
  obtain ⟨pb, hpb⟩ : ∃ p, mb + 1 = p := ⟨_, rfl⟩
  have A2 : At W2 pb (patC (room : Int) 0 (.map (some mb)) (.slice none 0 0)) 71 := by rw [← hW2, ← hpb, ← hs1]; exact At.new _ _ _
  have b2 : Below W1.heap.size W1 W2 := by rw [← hW2]; exact (Below.refl _ W1).alloc (Nat.le_refl _) _
  have P2 := hid (show PatM W2 pb (fun q => w.heap.size ≤ q) room 0 (entsL (l.take 0)) from
    ⟨mb, .slice none 0 0, [], ⟨A2, by simpa using World.ownsRow_nil W2 0 64 1, fun i x hi => by simp at hi, by simp⟩, hp_none, M1.kept (b2.block mb M1.lt), by simp [entsL], by simp [entsL], fun e he => by simp [entsL] at he, by simp [entsL], hr, fun q hq => by
      rcases hq with (rfl | hq | ⟨z, hz, -⟩) | rfl
      · show _ ≤ _; omega
      · cases hq
      · cases hz
      · show _ ≤ _; omega⟩)
  have B2 := hid (show Below w.heap.size w W2 from B1.trans (b2.mono B1.size))
  have hW2 : W1.alloc (.cells #[.int .i64 (room : Int), .int .i64 0, .map (some mb), .slice none 0 0, .func (.func 22) #[] #[], .func (.func 23) #[] #[]] 71) = W2 := hW2
  have hN' := hN
  clear A2 b2 B1 M1 hN
  go_enter Try.func8, Try.ntmps8
  go_wp2_with fail
  go_loopw [28] (fun ii wr => ∃ i : Nat, i ≤ N ∧ ii = .int .i64 (i : Int) ∧ Hid (PatM wr pb (fun q => w.heap.size ≤ q) room i (entsL (l.take i))) ∧ Hid (okL (l.take i)) ∧ Hid (Below w.heap.size w wr)) (fun ii _ => N - (intOf ii).toNat)
  case atStart => exact ⟨0, Nat.zero_le _, rfl, P2, hid ⟨fun x hx => by simp at hx, by simp⟩, B2⟩
  case round =>
    clear P2 B2 hW1 hW2 hs1 hpb hmb hmm
    obtain ⟨i, hi, rfl, hP, hok, hB⟩ := hrel
    by_cases hlt : i < N
    · have hlti : (i : Int) < (N : Int) := by omega
      have hi' := hid (show i + 1 ≤ N by omega)
      obtain ⟨x, hx⟩ : ∃ x, Hid (l[i]? = some x) := ⟨l[i]'(by rw [hN'.out]; exact hlt), List.getElem?_eq_getElem _⟩
      obtain ⟨hxo, g, o, rfl, hg, hrg⟩ := (hlns.out.kept hB.out) i x hx.out
      have hrg := hid (range_lr hrg)
      have ad : (⟨g, o, none⟩ : Addr).add (i * 4) = ⟨g, o + i * 4, none⟩ := by by_cases h : i * 4 = 0 <;> simp [Addr.add, h]
      have hfo := hid (formed25_calls x)
      have hxo := hid hxo
      obtain ⟨mb', v', H', hPI⟩ := hP.out
      have hPI := hid hPI
      have htk : Hid (l.take (i + 1) = l.take i ++ [x]) := by show _ = _; rw [List.take_add_one, hx.out]; rfl
      have hents : Hid (entsL (l.take (i + 1)) = entsL (l.take i) ++ [entO x i]) := by
        show _ = _
        rw [htk.out, entsL_snoc, List.length_take, Nat.min_eq_left (by rw [hN'.out]; omega)]
      have hlnT : Hid ((entsL (l.take i)).length = i) := by show _ = _; simp [entsL, hN'.out]; omega
      obtain ⟨X, hX⟩ : ∃ X, wr.heap.size = X := ⟨_, rfl⟩
      obtain ⟨W3, hW3⟩ : ∃ W, wr.alloc (.cells #[.string x.r, .string x.n, .int .i64 x.p, .int .i64 x.h] 25) = W := ⟨_, rfl⟩
      have A3 := hid (show At W3 X #[.string x.r, .string x.n, .int .i64 x.p, .int .i64 x.h] 25 by rw [← hW3, ← hX]; exact At.new _ _ _)
      have B3 := hid (show Below wr.heap.size wr W3 by rw [← hW3]; exact (Below.refl _ wr).alloc (Nat.le_refl _) _)
      have hPI3 := hid (hPI.out.kept (w' := W3) (fun q _ hl => B3.out.block q hl))
      have x0 := A3.out.cell 0
      have x1 := A3.out.cell 1
      have c2 := hPI3.out.hv.box.cell 2
      simp only [patC, List.getElem?_toArray, List.getElem?_cons_succ, List.getElem?_cons_zero] at x0 x1 c2
      by_cases htw : ∃ y ∈ H', y.2.r = x.r ∧ y.2.n = x.n
      · obtain ⟨y, hyH, hyr, hyn⟩ := htw
        have hlook : ∀ m, (Instr.lookup 61 (.map (some mb')) (.agg #[.string x.r, .string x.n]) true).run Try.prog (W3.drewN m) = .ok (.tuple #[ptB y.1, .bool true]) (W3.drewN m) := fun m => by
          have := (hPI3.out.mp.kept (w' := W3.drewN m) rfl).look_yes hyH
          rw [hyr, hyn] at this
          exact this
        have hbad := hid (show ¬ okL l from fun h => by
          obtain ⟨z, hz, h1, h2⟩ := entsL_mem (hPI.out.mem.2 ⟨y, hyH, rfl⟩)
          have h3 := (okL_take h (i + 1)).2
          rw [htk.out, List.pairwise_append] at h3
          exact h3.2.2 z hz x (by simp) ⟨by rw [← h1, hyr], by rw [← h2, hyn]⟩)
        have hbel := hid (hB.out.trans (B3.out.mono hB.out.size))
        clear hPI hPI3 hfo hP hok hB A3 B3
        obtain ⟨xr, xn, xp, xh⟩ := x
        dsimp only at *
        go_wp2_with (first | refine wpList_load_want 25 _ g (o + i * 4) [.string xr, .string xn, .int .i64 xp, .int .i64 xh] _ hrg.out Try.underlying25 (by kernel_rfl) rfl rfl rfl (by rfl) ?_ | fail)
        go_quiet (fail)
        go_wp2
        go_ret2
        exact ⟨hid (hbel.out.trans ((below_drewN _ _ _).mono hbel.out.size)), .inr ⟨hbad, rfl⟩⟩
      · have hno := hid (fun (y : Nat × Ent) (hy : y ∈ H') (h : y.2.r = x.r ∧ y.2.n = x.n) => htw ⟨y, hy, h⟩)
        have hlook : ∀ m, (Instr.lookup 61 (.map (some mb')) (.agg #[.string x.r, .string x.n]) true).run Try.prog (W3.drewN m) = .ok (.tuple #[.pointer none, .bool false]) (W3.drewN m) := fun m => (hPI3.out.mp.kept (w' := W3.drewN m) rfl).look_no hxo.out.1 (fun y hy h => hno.out y hy h)
        clear htw
        obtain ⟨F, hF⟩ : ∃ F, Hid (frm x = F) := ⟨_, rfl⟩
        rw [hF.out] at hfo
        obtain ⟨xr, xn, xp, xh⟩ := x
        dsimp only at *
        go_wp2_with (first | refine wpList_load_want 25 _ g (o + i * 4) [.string xr, .string xn, .int .i64 xp, .int .i64 xh] _ hrg.out Try.underlying25 (by kernel_rfl) rfl rfl rfl (by rfl) ?_ | fail)
        go_quiet (fail)
        obtain ⟨W4, hW4⟩ : ∃ W, W3.drewN nq = W := ⟨_, rfl⟩
        rw [hW4]
        have A4 := hid (show At W4 X #[.string xr, .string xn, .int .i64 xp, .int .i64 xh] 25 by rw [← hW4]; exact A3.out.drewN nq)
        have hPI4 := hid (show PatI W4 pb mb' v' H' (fun q => w.heap.size ≤ q) room i (entsL (l.take i)) by rw [← hW4]; exact hPI3.out.kept (fun q _ hl => (below_drewN W3.heap.size W3 nq).block q hl))
        have B4 := hid (show Below w.heap.size w W4 by rw [← hW4]; exact (hB.out.trans (B3.out.mono hB.out.size)).trans ((below_drewN _ _ _).mono (hB.out.trans (B3.out.mono hB.out.size)).size))
        have hf4 := hid (hfo.out W4)
        clear hW4 A3 hPI3 hPI hlook x0 x1 c2 hP hB B3 hfo hW3 hX
        go_wp2_with (first | refine wpList_load_want 25 _ X 0 [.string xr, .string xn, .int .i64 xp, .int .i64 xh] _ (A4.out.range rfl) Try.underlying25 (by kernel_rfl) rfl rfl rfl (by rfl) ?_ | fail)
        refine Calls.mono hf4.out ?_
        rintro e w5 ⟨rfl, b5⟩
        have B5 := hid (show Below w.heap.size w w5 from B4.out.trans (b5.mono B4.out.size))
        have A5 := hid (A4.out.keptAll b5)
        have hPI5 := hid (hPI4.out.kept (w' := w5) (fun q _ hl => b5.block q hl))
        clear hf4 A4 hPI4 B4 b5
        cases F with
        | false =>
          have hbad := hid (show ¬ okL l from fun h => by
            have := h.1 _ (List.mem_of_getElem? hx.out)
            rw [hF.out] at this
            cases this)
          clear hPI5 A5
          go_wp2
          go_ret2
          exact ⟨B5, .inr ⟨hbad, rfl⟩⟩
        | true =>
          have hfb := hid (frm_bounds hF.out)
          obtain ⟨pn, hpn⟩ : ∃ k : Nat, xp = (k : Int) := ⟨xp.toNat, by have := hfb.out.1; dsimp only at this; omega⟩
          obtain ⟨hn, hhn⟩ : ∃ k : Nat, xh = (k : Int) := ⟨xh.toNat, by have := hfb.out.2.1; dsimp only at this; omega⟩
          subst hpn hhn
          have hee := hid (show entO ⟨xr, xn, (pn : Int), (hn : Int)⟩ i = ⟨xr, xn, pn, hn, i⟩ by simp [entO])
          have hco := hid (come_calls pb mb' v' H' (fun q => w.heap.size ≤ q) room i (entsL (l.take i)) (by omega) xr xn pn hn ⟨hxo.out.1, by have := hxo.out.2.2.1; show pn ≤ _; dsimp only at this; omega, by have := hfb.out.2.2; show hn ≤ _; dsimp only at this; omega⟩ (hid (fun y hy h => hno.out y hy h)) (hid (by rw [hlnT.out]; omega)) w5 hPI5)
          have hok' := hid (okL_snoc hok.out hx.out hF.out (fun y hy h => by
            obtain ⟨e, he, h1, h2⟩ := mem_entsL hy
            obtain ⟨z, hz, rfl⟩ := hPI5.out.mem.1 he
            exact hno.out z hz ⟨h1.trans h.1, h2.trans h.2⟩))
          go_wp2_with (first | refine wpList_load_want 25 _ X 0 [.string xr, .string xn, .int .i64 (pn : Int), .int .i64 (hn : Int)] _ (A5.out.range rfl) Try.underlying25 (by kernel_rfl) rfl rfl rfl (by rfl) ?_ | fail)
          refine Calls.mono hco.out ?_
          rintro e w6 ⟨rfl, hP6, hl6⟩
          have hP7 := hid (show PatM w6 pb (fun q => w.heap.size ≤ q) (room) (i + 1) (entsL (l.take (i + 1))) from by
            have := hP6.out.mono (S' := fun q => w.heap.size ≤ q) (fun q _ h => h.elim id (fun h => Nat.le_trans B5.out.size h))
            rw [hents.out, hee.out]
            exact this)
          have B6 := hid (show Below w.heap.size w w6 from B5.out.trans (hl6.out.below B5.out.size (fun q h => h)))
          clear hco A5 hPI5
          go_wp2
          go_roundw
          case rel => exact ⟨i + 1, hi'.out, by simp, hP7, hok', B6⟩
          case measure => simp [intOf]; have := hi'.out; omega
    · obtain rfl : i = N := by omega
      have e : l.take i = l := List.take_of_length_le (by rw [hN'.out]; exact Nat.le_refl _)
      rw [e] at hP hok
      rw [← hN'.out] at hP
      go_wp2
      go_ret2
      exact ⟨hB, .inl ⟨hok, pb, rfl, hP⟩⟩
end Go.Proofs.Ytiggfigjibggaaa
