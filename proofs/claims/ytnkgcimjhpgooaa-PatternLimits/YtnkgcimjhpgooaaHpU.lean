/-
  PatternLimits: the list of as many places as there may be.
-/
import Derived.Test.YtnkgcimjhpgooaaHpT
import Derived.Lib.ConvBytes
namespace Go.Proofs.Ytnkgcimjhpgooaa
open Go.RowKit Go.Shelf Go.Maps

/-- The name of the place i. -/
def nmS (i : Nat) : ByteArray := ⟨[UInt8.ofNat (i % 256), UInt8.ofNat (i / 256)].toArray⟩
def fullE (i : Nat) : Ent := ⟨⟨#[]⟩, nmS i, i, 0, i⟩
def fullL : List Ent := (List.range 4096).map fullE
theorem fullL_len : fullL.length = 4096 := by simp [fullL]
theorem fullL_get {i : Nat} (h : i < 4096) : fullL[i]? = some (fullE i) := by simp [fullL, List.getElem?_range h]
theorem nmS_inj {i j : Nat} (hi : i < 4096) (hj : j < 4096) (h : nmS i = nmS j) : i = j := by
  unfold nmS at h
  simp at h
  obtain ⟨h1, h2⟩ := h
  have e1 := congrArg UInt8.toNat h1
  have e2 := congrArg UInt8.toNat h2
  simp at e1 e2
  omega
theorem fullE_ok {i : Nat} (h : i < 4096) : EnOk (fullE i) := ⟨⟨by show 0 ≤ _; omega, by show 2 ≤ _; omega⟩, by show i ≤ _; omega, by show 0 ≤ _; omega⟩
theorem fullL_ok : ∀ e ∈ fullL, EnOk e := fun e he => by
  obtain ⟨i, hi, rfl⟩ := List.mem_map.1 he
  exact fullE_ok (List.mem_range.1 hi)
theorem full_okL : okL (fullL.map lrOf) := by
  refine ⟨fun x hx => ?_, ?_⟩
  · obtain ⟨e, he, rfl⟩ := List.mem_map.1 hx
    obtain ⟨i, -, rfl⟩ := List.mem_map.1 he
    simp [frm, lrOf, fullE]
  · rw [List.pairwise_map]
    refine List.pairwise_iff_getElem.2 (fun i j hi hj hlt => ?_)
    have hj' : j < 4096 := by simpa [fullL] using hj
    rintro ⟨-, h⟩
    have := nmS_inj (i := i) (j := j) (by omega) hj' (by simpa [fullL, lrOf, fullE] using h)
    omega
theorem conv_two (a b : Nat) (ha : a < 256) (hb : b < 256) {w : World} {g : Nat} (h : At w g #[.int .u8 ((a : Nat) : Int), .int .u8 ((b : Nat) : Int)] 5) : (convert 23 9 (.slice (some ⟨g, 0, none⟩) 2 2)).run Try.prog w = .ok (.string ⟨[UInt8.ofNat a, UInt8.ofNat b].toArray⟩) w := by
  refine run_convert_bytes_back (P := Try.prog) w 23 9 5 ⟨g, 0, none⟩ 2 [UInt8.ofNat a, UInt8.ofNat b] Try.underlying23 Try.underlying5 Try.underlying9 (fun j hj => ?_)
  have e1 : a % 256 = a := Nat.mod_eq_of_lt ha
  have e2 : b % 256 = b := Nat.mod_eq_of_lt hb
  have hj2 : j = 0 ∨ j = 1 := by simp at hj; omega
  rcases hj2 with rfl | rfl
  · rw [show (⟨g, 0, none⟩ : Addr).add 0 = ⟨g, 0, none⟩ by simp [Addr.add], h.cell 0]
    simp [e1]
  · rw [show (⟨g, 0, none⟩ : Addr).add 1 = ⟨g, 1, none⟩ by simp [Addr.add], h.cell 1]
    simp [e2]

/-- Two patterns: one is kept while the other one learns. -/
theorem PatM.beside {w w' : World} {pb : Nat} {S Z : Nat → Prop} {room came : Nat} {L : List Ent} (h : PatM w pb S room came L) (hl : Lap Z w w') (hd : ∀ q, q < w.heap.size → S q → ¬ Z q) : PatM w' pb S room came L :=
  h.kept (fun q hs hq => hl.block q hq (hd q hq hs))
theorem lrn_len {room came c : Nat} {L L' : List Ent} {r n : ByteArray} {p : Nat} (h : Lrn room came L r n p c L') (hr : 0 < room) (hl : L.length = room) : L'.length = room := by
  rcases h with ⟨A, e, B, rfl, -, -, rfl, -⟩ | ⟨-, ⟨h, -⟩ | ⟨-, L1, h1, rfl, -⟩⟩
  · simpa using hl
  · omega
  · rcases h1 with ⟨h, -⟩ | ⟨-, A, f, B, rfl, -, rfl⟩
    · omega
    · simp at hl ⊢
      omega
theorem lns_one {w : World} {b : Nat} {x : Lr} (h : At w b #[.string x.r, .string x.n, .int .i64 x.p, .int .i64 x.h] 25) (hx : LrOk x) : LnsAt w (some ⟨b, 0, none⟩) [x] := fun j y hj => by
  match j, hj with
  | 0, hj =>
    simp at hj
    subst hj
    exact ⟨hx, b, 0, rfl, h.lt, h.range rfl⟩
  | j + 1, hj => simp at hj
abbrev bE : ByteArray := ⟨#[]⟩
theorem okL_one {x : Lr} (h : frm x = true) : okL [x] := ⟨fun y hy => by obtain rfl := List.mem_singleton.1 hy; exact h, by simp⟩
theorem bad_one {x : Lr} (h : frm x = false) : ¬ okL [x] := fun hk => by
  have := hk.1 x (by simp)
  rw [h] at this
  cases this
set_option maxRecDepth 10000 in
set_option maxHeartbeats 8000000 in
theorem patternLimits_walk (w : World) : Calls Try.prog 3 #[] w fun e w' => e = .returned (.bool true) ∧ Below w.heap.size w w' := by
  obtain ⟨i0, hi0, hz0, hz1, hz2⟩ := info_partsP infoLr
  obtain ⟨w1, hmk0, ho1, hg1⟩ := run_make_full (P := Try.prog) w w.heap.size 22 25 i0 _ 4 Try.underlying22 hi0 hz0 hz1 .i64 .i64 4096 (by rw [hz2]; omega) (by unfold maxLen; omega) (Nat.le_refl _)
  have hmk : (Instr.makeSlice 22 (.int .i64 4096) (.int .i64 4096)).run Try.prog w = .ok (.slice (some ⟨w.heap.size, 0, none⟩) 4096 4096) w1 := hmk0
  obtain ⟨g, hg⟩ : ∃ g, w.heap.size = g := ⟨_, rfl⟩
  have hb1 : Below w.heap.size w w1 := ⟨hg1.os, hg1.tape, hg1.output, hg1.size, fun k hk => hg1.block k hk (by simp)⟩
  rw [hg] at hmk ho1
  have hA1 := hid (show LrAt w1 g 4096 (fullL.take 0) from by
    rcases ho1.2 with ⟨h1, -⟩ | ⟨g', cap, cur, h1, -, h2, -, -, h3, -⟩
    · cases h1
    · cases h1
      exact ⟨cur, h2, h3, fun j e hj => by simp at hj⟩)
  have B1 := hid hb1
  clear hi0 hz0 hz1 hz2 ho1 hg1 hmk0 hb1 i0
  have hgw := hid hg
  clear hg
  go_enter Try.func3, Try.ntmps3
  go_wp2_with fail
  go_loopw [2] (fun ii wr => ∃ i : Nat, i ≤ 4096 ∧ ii = .int .i64 (i : Int) ∧ Hid (LrAt wr g 4096 (fullL.take i)) ∧ Hid (Below w.heap.size w wr)) (fun ii _ => 4096 - (intOf ii).toNat)
  case atStart => exact ⟨0, Nat.zero_le _, rfl, hA1, B1⟩
  case round =>
    clear hA1 B1 hmk
    obtain ⟨i, hi, rfl, hA, hB⟩ := hrel
    by_cases hlt : i < 4096
    · have hlti : (i : Int) < 4096 := by omega
      have hi' := hid (show i + 1 ≤ 4096 by omega)
      obtain ⟨a, ha⟩ : ∃ a, i % 256 = a := ⟨_, rfl⟩
      obtain ⟨b, hb⟩ : ∃ b, i / 256 = b := ⟨_, rfl⟩
      have ha1 : a < 256 := by omega
      have hb1 : b < 256 := by omega
      have hrem : Int.tmod (i : Int) 256 = (a : Int) := by rw [← ha]; rfl
      have hquo : Int.tdiv (i : Int) 256 = (b : Int) := by rw [← hb]; rfl
      have hma : (a : Int) % 256 = (a : Int) := by omega
      have hmb : (b : Int) % 256 = (b : Int) := by omega
      have hai : (a : Int) < 256 := by omega
      have hbi : (b : Int) < 256 := by omega
      obtain ⟨X, hX⟩ : ∃ X, wr.heap.size = X := ⟨_, rfl⟩
      obtain ⟨W1, hW1⟩ : ∃ W, wr.alloc (.cells #[.int .u8 (a : Int), .int .u8 (b : Int)] 5) = W := ⟨_, rfl⟩
      have A1 : At W1 X #[.int .u8 (a : Int), .int .u8 (b : Int)] 5 := by rw [← hW1, ← hX]; exact At.new _ _ _
      have b1 : Below wr.heap.size wr W1 := by rw [← hW1]; exact (Below.refl _ wr).alloc (Nat.le_refl _) _
      have hcv := conv_two a b ha1 hb1 A1
      obtain ⟨nm, hnm⟩ : ∃ nm, nmS i = nm := ⟨_, rfl⟩
      have hnm2 : (⟨[UInt8.ofNat a, UInt8.ofNat b].toArray⟩ : ByteArray) = nm := by rw [← hnm, ← ha, ← hb]; rfl
      rw [hnm2] at hcv
      have A5 := hid (hA.out.kept b1)
      have th := hid (A5.out.there hlt)
      have A6 := hid (A5.out.put hlt (fullL_get hlt))
      have L6 := hid (lap_setCells (Z := fun q => q = g) (Lap.of (b1)) rfl (lrC (fullE i)) (i * 4))
      have eC : lrC (fullE i) = [.string bE, .string nm, .int .i64 (i : Int), .int .i64 0] := by rw [← hnm]; rfl
      rw [eC] at A6 L6
      obtain ⟨y0, k0⟩ : ∃ u, W1.cell? ⟨g, i * 4, none⟩ = some u := Option.isSome_iff_exists.1 (th.out 0 (by omega)).1
      obtain ⟨y1, k1⟩ : ∃ u, W1.cell? ⟨g, i * 4 + 1, none⟩ = some u := Option.isSome_iff_exists.1 (th.out 1 (by omega)).1
      obtain ⟨y2, k2⟩ : ∃ u, W1.cell? ⟨g, i * 4 + 2, none⟩ = some u := Option.isSome_iff_exists.1 (th.out 2 (by omega)).1
      obtain ⟨y3, k3⟩ : ∃ u, W1.cell? ⟨g, i * 4 + 3, none⟩ = some u := Option.isSome_iff_exists.1 (th.out 3 (by omega)).1
      have f0 : W1.frozen? ⟨g, i * 4, none⟩ = false := (th.out 0 (by omega)).2
      have f1 : W1.frozen? ⟨g, i * 4 + 1, none⟩ = false := (th.out 1 (by omega)).2
      have f2 : W1.frozen? ⟨g, i * 4 + 2, none⟩ = false := (th.out 2 (by omega)).2
      have f3 : W1.frozen? ⟨g, i * 4 + 3, none⟩ = false := (th.out 3 (by omega)).2
      have ad4 : (⟨g, 0, none⟩ : Addr).add (i * 4) = ⟨g, i * 4, none⟩ := by by_cases h : i * 4 = 0 <;> simp [Addr.add, h]
      have B6 := hid (show Below w.heap.size w (W1.setCells g (i * 4) [.string bE, .string nm, .int .i64 (i : Int), .int .i64 0]) from hB.out.trans (L6.out.below hB.out.size (fun q hq => by rw [hq, ← hgw.out]; exact Nat.le_refl _)))
      clear th A5 eC hnm hnm2 A1 b1 hA L6 hB ha hb
      go_wp2
      go_roundw
      case rel => exact ⟨i + 1, hi'.out, by simp, A6, B6⟩
      case measure => simp [intOf]; have := hi'.out; omega
    · obtain rfl : i = 4096 := by omega
      have hfull := hid (show LrAt wr g 4096 fullL from by
        have := hA.out
        rw [List.take_of_length_le (by rw [fullL_len]; exact Nat.le_refl _)] at this
        exact this)
      clear hA hi
      have hN1 := hid (show Calls Try.prog 8 #[.int .i64 4096, .slice (some ⟨g, 0, none⟩) 4096 4096] wr fun e w' => NwP 4096 (fullL.map lrOf) wr e w' from
        new_calls 4096 (by omega) (fullL.map lrOf) 4096 (hid (by rw [List.length_map]; exact fullL_len)) (Nat.le_refl _) (some ⟨g, 0, none⟩) 4096 wr (hid (hfull.out.lns fullL_ok)))
      go_wp2_with fail
      refine Calls.mono hN1.out ?_
      rintro e w2 ⟨B2, ⟨-, pb, rfl, P2⟩ | ⟨hbad, -⟩⟩
      rotate_left
      · exact absurd full_okL hbad.out
      obtain ⟨L1, hL1⟩ : ∃ L, Hid (entsL (fullL.map lrOf) = L) := ⟨_, rfl⟩
      have hlen1 : Hid (L1.length = 4096) := by show _ = _; rw [← hL1.out]; simp [entsL, fullL_len]
      have P2 := hid (show PatM w2 pb (fun q => wr.heap.size ≤ q ∧ q < w2.heap.size) 4096 4096 L1 from by
        have := P2.out
        rw [hL1.out, List.length_map, fullL_len] at this
        exact this.mono (fun q hq h => ⟨h, hq⟩))
      have Bw2 := hid (show Below w.heap.size w w2 from hB.out.trans (B2.out.mono hB.out.size))
      have hN2 := hid (new_out 4097 (by omega) none 0 0 w2)
      clear hN1 hfull hL1
      go_wp2_with fail
      refine Calls.mono hN2.out ?_
      rintro e w3 ⟨rfl, rfl⟩
      have hN3 := hid (new_out (-1) (by omega) none 0 0 w3)
      clear hN2
      go_wp2_with fail
      refine Calls.mono hN3.out ?_
      rintro e w4 ⟨rfl, rfl⟩
      clear hN3
      -- the second pattern
      obtain ⟨X, hX⟩ : ∃ X, w4.heap.size = X := ⟨_, rfl⟩
      obtain ⟨W5, hW5⟩ : ∃ W, w4.alloc (.cells #[.string bE, .string bE, .int .i64 0, .int .i64 4611686018427387904] 25) = W := ⟨_, rfl⟩
      have A5 := hid (show At W5 X #[.string bE, .string bE, .int .i64 0, .int .i64 4611686018427387904] 25 by rw [← hW5, ← hX]; exact At.new _ _ _)
      have b5 : Below w4.heap.size w4 W5 := by rw [← hW5]; exact (Below.refl _ w4).alloc (Nat.le_refl _) _
      have P5 := hid (P2.out.keptB b5)
      have B5 := hid (show Below w.heap.size w W5 from Bw2.out.trans (b5.mono Bw2.out.size))
      have hs5 := hid (show w4.heap.size ≤ W5.heap.size from b5.size)
      have hN4 := hid (show Calls Try.prog 8 #[.int .i64 1, .slice (some ⟨X, 0, none⟩) 1 1] W5 fun e w' => NwP 1 [⟨bE, bE, 0, 4611686018427387904⟩] W5 e w' from
        new_calls 1 (by omega) [⟨bE, bE, 0, 4611686018427387904⟩] 1 (hid rfl) (Nat.le_refl _) (some ⟨X, 0, none⟩) 1 W5 (hid (lns_one A5.out ⟨ky_small (by decide) (by decide), by decide, by decide, by decide, by decide⟩)))
      clear P2 b5 A5
      go_wp2_with fail
      refine Calls.mono hN4.out ?_
      rintro e w6 ⟨b6, ⟨-, pq, rfl, Q6⟩ | ⟨hbad, -⟩⟩
      rotate_left
      · exact absurd (okL_one (by simp [frm])) hbad.out
      have P6 := hid (P5.out.keptB b6.out)
      have B6 := hid (show Below w.heap.size w w6 from B5.out.trans (b6.out.mono B5.out.size))
      have Q6 := hid (show PatM w6 pq (fun q => W5.heap.size ≤ q) 1 1 [⟨bE, bE, 0, 4611686018427387904, 0⟩] from Q6.out)
      clear hN4 P5
      obtain ⟨Y, hY⟩ : ∃ X, w6.heap.size = X := ⟨_, rfl⟩
      obtain ⟨W7, hW7⟩ : ∃ W, w6.alloc (.cells #[.string bE, .string bE, .int .i64 0, .int .i64 4611686018427387905] 25) = W := ⟨_, rfl⟩
      have A7 := hid (show At W7 Y #[.string bE, .string bE, .int .i64 0, .int .i64 4611686018427387905] 25 by rw [← hW7, ← hY]; exact At.new _ _ _)
      have b7 : Below w6.heap.size w6 W7 := by rw [← hW7]; exact (Below.refl _ w6).alloc (Nat.le_refl _) _
      have P7 := hid (P6.out.keptB b7)
      have Q7 := hid (Q6.out.keptB b7)
      have B7 := hid (show Below w.heap.size w W7 from B6.out.trans (b7.mono B6.out.size))
      have hN5 := hid (show Calls Try.prog 8 #[.int .i64 1, .slice (some ⟨Y, 0, none⟩) 1 1] W7 fun e w' => NwP 1 [⟨bE, bE, 0, 4611686018427387905⟩] W7 e w' from
        new_calls 1 (by omega) [⟨bE, bE, 0, 4611686018427387905⟩] 1 (hid rfl) (Nat.le_refl _) (some ⟨Y, 0, none⟩) 1 W7 (hid (lns_one A7.out ⟨ky_small (by decide) (by decide), by decide, by decide, by decide, by decide⟩)))
      clear P6 Q6 b7 A7
      go_wp2_with fail
      refine Calls.mono hN5.out ?_
      rintro e w8 ⟨b8, ⟨hgood, -⟩ | ⟨-, rfl⟩⟩
      · exact absurd hgood.out (bad_one (by simp [frm]))
      have P8 := hid (P7.out.keptB b8.out)
      have Q8 := hid (Q7.out.keptB b8.out)
      have B8 := hid (show Below w.heap.size w w8 from B7.out.trans (b8.out.mono B7.out.size))
      have hsz := hid (size_calls25 pb _ 4096 4096 L1 w8 P8.out)
      rw [hlen1.out] at hsz
      clear hN5 P7 Q7
      go_wp2_with fail
      refine Calls.mono hsz.out ?_
      rintro e w9 ⟨rfl, rfl⟩
      have hle := hid (learn_calls pq (fun q => W5.heap.size ≤ q) 1 1 _ (by omega) bE bE (ky_small (by decide) (by decide)) 0 (by omega) w9 Q8.out)
      clear hsz
      go_wp2_with fail
      refine Calls.mono hle.out ?_
      rintro e w10 ⟨rfl, c10, K10, hl10, Q10, lp10⟩
      have hK : c10 = 1 ∧ K10 = [⟨bE, bE, 0, 4611686018427387904, 0⟩] := by
        rcases hl10.out with ⟨A, e, B, h, -, -, h2, h3⟩ | ⟨h, -⟩
        · obtain ⟨rfl, rfl, rfl⟩ := split_one h
          exact ⟨h3, by rw [h2]; simp [upd]⟩
        · exact absurd ⟨rfl, rfl⟩ (h _ (List.mem_cons_self ..))
      obtain ⟨rfl, rfl⟩ := hK
      have P10 := hid (P8.out.beside lp10.out (fun q hq h1 h2 => by
        have h3 : W5.heap.size ≤ q := h2
        have h4 := h1.2
        have h5 := hs5.out
        omega))
      have h5w := hid (show w.heap.size ≤ W5.heap.size from B5.out.size)
      have B10 := hid (show Below w.heap.size w w10 from B8.out.trans (lp10.out.below B8.out.size (fun q h => Nat.le_trans h5w.out h)))
      have hal := hid (all_calls25 pq _ 1 1 _ w10 Q10.out)
      clear hle hl10 lp10 P8 Q8
      go_wp2_with fail
      refine Calls.mono hal.out ?_
      rintro e w11 ⟨g2, M, rfl, hMp, -, hMr, -, b11⟩
      obtain rfl : M = [⟨bE, bE, 0, 4611686018427387904, 0⟩] := List.perm_singleton.1 hMp.out
      have hok := hid Q10.out.ok.1
      have P11 := hid (P10.out.keptB b11.out)
      have B11 := hid (show Below w.heap.size w w11 from B10.out.trans (b11.out.mono B10.out.size))
      obtain ⟨Z, hZ⟩ : ∃ X, w11.heap.size = X := ⟨_, rfl⟩
      obtain ⟨W12, hW12⟩ : ∃ W, w11.alloc (.cells #[.string bE, .string bE, .int .i64 0, .int .i64 4611686018427387904] 25) = W := ⟨_, rfl⟩
      have A12 := hid (show At W12 Z #[.string bE, .string bE, .int .i64 0, .int .i64 4611686018427387904] 25 by rw [← hW12, ← hZ]; exact At.new _ _ _)
      have b12 : Below w11.heap.size w11 W12 := by rw [← hW12]; exact (Below.refl _ w11).alloc (Nat.le_refl _) _
      have P12 := hid (P11.out.keptB b12)
      have B12 := hid (show Below w.heap.size w W12 from B11.out.trans (b12.mono B11.out.size))
      have hsa := hid (fun (c1 c2 : Nat) => same25_calls [⟨bE, bE, 0, 4611686018427387904⟩] (some ⟨g2, 0, none⟩) (some ⟨Z, 0, none⟩) 1 c1 c2 (hid rfl) (by omega) W12 (hid ((hMr.out.kept b12).lns hok.out)) (hid (lns_one A12.out ⟨ky_small (by decide) (by decide), by decide, by decide, by decide, by decide⟩)))
      clear hal hMp hMr b12 A12 P10 P11 Q10 hok
      go_wp2_with fail
      refine Calls.mono (hsa.out _ _) ?_
      rintro e w13 ⟨rfl, b13⟩
      have P13 := hid (P12.out.keptB b13)
      have B13 := hid (show Below w.heap.size w w13 from B12.out.trans (b13.mono B12.out.size))
      have hrw := hid (show w.heap.size ≤ wr.heap.size from hB.out.size)
      have hle := hid (learn_calls pb _ 4096 4096 L1 (by omega) bX bE (ky_small (by decide) (by decide)) 1 (by omega) w13 P13.out)
      clear hsa P12 b13
      go_wp2_with fail
      refine Calls.mono hle.out ?_
      rintro e w14 ⟨rfl, c14, K14, hl14, P14, lp14⟩
      have hln := hid (lrn_len hl14.out (by omega) hlen1.out)
      have B14 := hid (show Below w.heap.size w w14 from B13.out.trans (lp14.out.below B13.out.size (fun q h => Nat.le_trans hrw.out h.1)))
      have hsz := hid (size_calls25 pb _ 4096 c14 K14 w14 P14.out)
      rw [hln.out] at hsz
      clear hle hl14 lp14
      go_wp2_with fail
      refine Calls.mono hsz.out ?_
      rintro e w15 ⟨rfl, rfl⟩
      clear hsz
      go_wp2
      go_ret
      exact ⟨rfl, B14.out⟩
end Go.Proofs.Ytnkgcimjhpgooaa
