/-
  A pattern: All.
-/
import Derived.Test.YtiggfigjibggaaaHpO
namespace Go.Proofs.Ytiggfigjibggaaa
open Go.RowKit Go.Shelf Go.Sort

/-- An entry's cells as a learnt place. -/
def lrC (e : Ent) : List Value := [.string e.r, .string e.n, .int .i64 (e.p : Int), .int .i64 (e.h : Int)]
/-- A row of learnt places, in a block of its own. -/
def LrAt (w : World) (g n : Nat) (M : List Ent) : Prop := ∃ cs : Array Value, At w g cs 25 ∧ cs.size = n * 4 ∧ ∀ (j : Nat) (e : Ent), M[j]? = some e → ∀ k, k < 4 → cs[j * 4 + k]? = (lrC e)[k]?
theorem LrAt.kept {w w' : World} {g n : Nat} {M : List Ent} (h : LrAt w g n M) (hb : Below w.heap.size w w') : LrAt w' g n M := by
  obtain ⟨cs, h1, h2⟩ := h
  exact ⟨cs, h1.keptAll hb, h2⟩
theorem LrAt.range {w : World} {g n : Nat} {M : List Ent} (h : LrAt w g n M) {j : Nat} {e : Ent} (hj : M[j]? = some e) : w.rangeAt g (j * 4) (lrC e) := by
  obtain ⟨cs, h1, h2, h3⟩ := h
  intro k u hk
  have hkl := (List.getElem?_eq_some_iff.1 hk).1
  have hk4 : k < 4 := by simpa [lrC] using hkl
  rw [h1.cell (j * 4 + k), h3 j e hj k hk4, hk]
theorem LrAt.lt {w : World} {g n : Nat} {M : List Ent} (h : LrAt w g n M) : g < w.heap.size := by obtain ⟨cs, h1, -⟩ := h; exact h1.lt
/-- One more is stored. -/
theorem LrAt.put {w : World} {g n i : Nat} {K : List Ent} {x : Ent} (h : LrAt w g n (K.take i)) (hi : i < n) (hx : K[i]? = some x) : LrAt (w.setCells g (i * 4) (lrC x)) g n (K.take (i + 1)) := by
  obtain ⟨cs, h1, h2, h3⟩ := h
  obtain ⟨ds, a1, a2, a3, a4, a5⟩ := At.setCells_at (lrC x) (i * 4) h1 (by rw [h2]; simp [lrC]; omega)
  refine ⟨ds, a1, by rw [a2, h2], fun j e hj k hk => ?_⟩
  rw [List.getElem?_take] at hj
  split at hj
  · by_cases hji : j = i
    · subst hji
      rw [hx] at hj
      cases hj
      exact a4 k (by simpa [lrC] using hk)
    · rw [a3 (j * 4 + k) (by omega)]
      exact h3 j e (by rw [List.getElem?_take, if_pos (by omega)]; exact hj) k hk
  · cases hj
theorem LrAt.there {w : World} {g n i : Nat} {K : List Ent} (h : LrAt w g n K) (hi : i < n) : w.there g (i * 4) 4 := by
  obtain ⟨cs, h1, h2, -⟩ := h
  intro j hj
  refine ⟨?_, h1.frozen _⟩
  rw [h1.cell (i * 4 + j), Array.getElem?_eq_getElem (by omega)]
  rfl
theorem lap_setCells {Z : Nat → Prop} {w u : World} {b : Nat} (h : Lap Z w u) (hz : Z b) : ∀ (vs : List Value) (o : Nat), Lap Z w (u.setCells b o vs) := by
  intro vs
  induction vs generalizing u with
  | nil => exact fun _ => h
  | cons v vs ih => exact fun o => ih (h.setCell ⟨b, o, none⟩ hz v) (o + 1)
theorem infoLr : (Try.prog.info? 25).map (fun i => (i.zero, i.size, i.bytes)) = some (some (.agg #[.string ⟨#[]⟩, .string ⟨#[]⟩, .int .i64 0, .int .i64 0]), 4, 48) := by kernel_rfl
/-- What All leaves. -/
def AlP (L : List Ent) (w : World) (e : Ending) (w' : World) : Prop :=
  ∃ (g : Nat) (M : List Ent), e = .returned (.slice (some ⟨g, 0, none⟩) L.length L.length) ∧ Hid (M.Perm L) ∧ Hid (M.Pairwise ltE) ∧ Hid (LrAt w' g L.length M) ∧ Hid (w.heap.size ≤ g) ∧ Hid (Below w.heap.size w w')
set_option maxRecDepth 10000 in
set_option maxHeartbeats 8000000 in
theorem all_calls25 (pb : Nat) (S : Nat → Prop) (room came : Nat) (L : List Ent) (w : World) (hP : PatM w pb S room came L) :
    Calls Try.prog 12 #[ptB pb] w fun e w' => AlP L w e w' := by
  obtain ⟨mb, v, H, hP⟩ := hP
  have hP := hid hP
  have c3 := hP.out.hv.box.cell 3
  simp only [patC, List.getElem?_toArray, List.getElem?_cons_succ, List.getElem?_cons_zero] at c3
  obtain ⟨n, hn⟩ : ∃ n, Hid (H.length = n) := ⟨_, rfl⟩
  have hnL : Hid (L.length = n) := by show _ = _; rw [← hP.out.len]; exact hn.out
  have hn4 : n ≤ 4096 := by have := hP.out.ln; have := hP.out.rm; have := hnL.out; omega
  have hni : (n : Int) ≤ 4096 := by omega
  have hrow := hP.out.hv.row
  rw [hn.out] at hrow
  have hcl := hid (pclone_calls 0 v (H.map fun x => ptB x.1) n hn4 (by
    intro u hu
    obtain ⟨x, -, rfl⟩ := List.mem_map.1 hu
    rfl) w hrow)
  unfold AlP
  rw [hnL.out]
  clear hrow
  go_enter Try.func12, Try.ntmps12
  go_wp2_with fail
  refine Calls.mono hcl.out ?_
  rintro e w1 ⟨⟨p, c, rfl, hrow1⟩, b1⟩
  have hrow1 := hid hrow1
  have hent1 := hid (fun (x : Nat × Ent) (hx : x ∈ H) => (show ∃ q, At w1 x.1 (entC x.2 q) 78 from by
    obtain ⟨i, hi, rfl⟩ := List.mem_iff_getElem.1 hx
    exact ⟨_, (hP.out.hv.ent i _ (List.getElem?_eq_getElem hi)).keptAll b1⟩))
  have hnd : H.Nodup := List.Pairwise.of_map (fun z : Nat × Ent => z.1) (fun a b hab e => hab (congrArg _ e)) hP.out.hv.nd
  have hso := hid (psort_calls p c n hn4 H hn.out w1 w.heap.size (fun h0 => by
    obtain ⟨g, h1, -, h2⟩ := hrow1.out h0
    exact ⟨g, h1, h2⟩) hent1.out (fun x hx y hy he => ages_inj hP.out hx hy he) hnd)
  have B1 := hid b1
  clear hcl c3 b1 hnd
  go_wp2_with fail
  refine Calls.mono hso.out ?_
  rintro e w2 ⟨rfl, M, hMp, hMs, hMc, hl2⟩
  have B2 := hid (show Below w.heap.size w w2 from B1.out.trans (hl2.out.below B1.out.size (fun q hq => by
    have h0 : 0 < n := by
      have := hn.out
      have h2 := hq.2
      cases H with
      | nil => exact absurd rfl h2
      | cons a H => simp at this; omega
    obtain ⟨g, h1, h2, -⟩ := hrow1.out h0
    have hq := hq.1
    rw [h1] at hq
    cases hq
    exact h2)))
  obtain ⟨K, hK⟩ : ∃ K : List Ent, Hid (K = M.map (fun z : Nat × Ent => z.2)) := ⟨_, rfl⟩
  have hKl : Hid (K.length = n) := by show _ = _; rw [hK.out, List.length_map, hMp.out.length_eq]; exact hn.out
  have hKp := hid (show K.Perm L by rw [hK.out]; exact (hMp.out.map _).trans hP.out.pm)
  have hKs := hid (show K.Pairwise ltE by rw [hK.out, List.pairwise_map]; exact hMs.out)
  have hentK := hid (fun (i : Nat) (x : Nat × Ent) (hi : M[i]? = some x) => (show (∃ q, At w2 x.1 (entC x.2 q) 78) ∧ KyOk x.2.r x.2.n from by
    have hxH := hMp.out.mem_iff.1 (List.mem_of_getElem? hi)
    obtain ⟨k, hk, e⟩ := List.mem_iff_getElem.1 hxH
    have h1 := hP.out.hv.ent k x (by rw [← e]; exact List.getElem?_eq_getElem hk)
    exact ⟨⟨_, h1.keptAll B2.out⟩, (hP.out.ok x.2 (hP.out.mem.2 ⟨x, hxH, rfl⟩)).2.1⟩))
  obtain ⟨i0, hi0, hz0, hz1, hz2⟩ := info_partsP infoLr
  obtain ⟨w3, hmk, ho3, hg3⟩ := run_make_full (P := Try.prog) w2 w2.heap.size 22 25 i0 _ 4 Try.underlying22 hi0 hz0 hz1 .i64 .i64 n (by rw [hz2]; omega) (by unfold maxLen; omega) (Nat.le_refl _)
  obtain ⟨g3, hg3e⟩ : ∃ g, w2.heap.size = g := ⟨_, rfl⟩
  rw [hg3e] at hmk ho3
  have b3 : Below w2.heap.size w2 w3 := ⟨hg3.os, hg3.tape, hg3.output, hg3.size, fun k hk => hg3.block k hk (by simp)⟩
  have B3 := hid b3
  have hA3 := hid (show LrAt w3 g3 n (K.take 0) from by
    rcases ho3.2 with ⟨h1, -⟩ | ⟨g', cap, cur, h1, -, h2, -, -, h3, -⟩
    · cases h1
    · cases h1
      exact ⟨cur, h2, h3, fun j e hj => by simp at hj⟩)
  clear hi0 hz0 hz1 hz2 ho3 hg3 b3 hso hMs hP hrow1 hent1 i0
  go_wp2_with fail
  go_loopw [20] (fun ii wr => ∃ i : Nat, i ≤ n ∧ ii = .int .i64 (i : Int) ∧ Hid (LrAt wr g3 n (K.take i)) ∧ Hid (Lap (fun q => q = g3) w3 wr)) (fun ii _ => n - (intOf ii).toNat)
  case atStart => exact ⟨0, Nat.zero_le _, rfl, hA3, hid (Lap.refl _ _)⟩
  case round =>
    clear hA3
    obtain ⟨i, hi, rfl, hA, hL⟩ := hrel
    have hBr := hid (show Below w2.heap.size w2 wr from B3.out.trans (hL.out.below B3.out.size (fun q hq => by rw [hq, hg3e]; exact Nat.le_refl _)))
    by_cases hlt : i < n
    · have hlti : (i : Int) < (n : Int) := by omega
      obtain ⟨x, hx⟩ : ∃ x, Hid (M[i]? = some x) := ⟨M[i]'(by have := hMp.out.length_eq; have := hn.out; omega), List.getElem?_eq_getElem _⟩
      obtain ⟨g, rfl, hgl, hgc⟩ := hMc.out i x hx.out
      have cgi : wr.cell? ⟨g, i, none⟩ = some (ptB x.1) := by rw [hBr.out.cell (p := ⟨g, i, none⟩) hgl]; exact hgc
      have ad : (⟨g, 0, none⟩ : Addr).add i = ⟨g, i, none⟩ := by by_cases h : i = 0 <;> simp [Addr.add, h]
      have ad4 : (⟨g3, 0, none⟩ : Addr).add (i * 4) = ⟨g3, i * 4, none⟩ := by by_cases h : i * 4 = 0 <;> simp [Addr.add, h]
      obtain ⟨⟨q, hxe⟩, hxk⟩ := hentK.out i x hx.out
      have hle := hid (learnt_calls x.1 x.2 q hxk wr (hxe.keptAll hBr.out))
      have hi' := hid (show i + 1 ≤ n by omega)
      have hKi : Hid (K[i]? = some x.2) := by show _ = _; rw [hK.out, List.getElem?_map, hx.out]; rfl
      obtain ⟨xb, ⟨xr, xn, xp, xh, xa⟩⟩ := x
      dsimp only at *
      clear hgc hgl hxe hxk hi
      go_wp2_with fail
      refine Calls.mono hle.out ?_
      rintro e w5 ⟨rfl, b5⟩
      have A5 := hid (hA.out.kept b5)
      have L5 := hid (hL.out.andB b5)
      have th := hid (A5.out.there hlt)
      have A6 := hid (A5.out.put hlt hKi.out)
      have L6 := hid (lap_setCells L5.out rfl (lrC ⟨xr, xn, xp, xh, xa⟩) (i * 4))
      clear hle A5 L5 hA hL b5 cgi
      obtain ⟨y0, k0⟩ : ∃ u, w5.cell? ⟨g3, i * 4, none⟩ = some u := Option.isSome_iff_exists.1 (th.out 0 (by omega)).1
      obtain ⟨y1, k1⟩ : ∃ u, w5.cell? ⟨g3, i * 4 + 1, none⟩ = some u := Option.isSome_iff_exists.1 (th.out 1 (by omega)).1
      obtain ⟨y2, k2⟩ : ∃ u, w5.cell? ⟨g3, i * 4 + 2, none⟩ = some u := Option.isSome_iff_exists.1 (th.out 2 (by omega)).1
      obtain ⟨y3, k3⟩ : ∃ u, w5.cell? ⟨g3, i * 4 + 3, none⟩ = some u := Option.isSome_iff_exists.1 (th.out 3 (by omega)).1
      have f0 : w5.frozen? ⟨g3, i * 4, none⟩ = false := (th.out 0 (by omega)).2
      have f1 : w5.frozen? ⟨g3, i * 4 + 1, none⟩ = false := (th.out 1 (by omega)).2
      have f2 : w5.frozen? ⟨g3, i * 4 + 2, none⟩ = false := (th.out 2 (by omega)).2
      have f3 : w5.frozen? ⟨g3, i * 4 + 3, none⟩ = false := (th.out 3 (by omega)).2
      clear th
      go_wp2
      go_roundw
      case rel => exact ⟨i + 1, hi'.out, by simp, A6, L6⟩
      case measure => simp [intOf]; have := hi'.out; omega
    · obtain rfl : i = n := by omega
      have hfin := hid (show LrAt wr g3 i K from by
        have := hA.out
        rw [List.take_of_length_le (by rw [hKl.out]; exact Nat.le_refl _)] at this
        exact this)
      have hbel := hid (show Below w.heap.size w wr from B2.out.trans (hBr.out.mono B2.out.size))
      have hge := hid (show w.heap.size ≤ g3 by rw [← hg3e]; exact B2.out.size)
      go_wp2
      go_ret
      exact ⟨g3, K, rfl, hKp, hKs, hfin, hge, hbel⟩
end Go.Proofs.Ytiggfigjibggaaa
