/-
 The law PointerFinds, walked (by gen_pts.py out of PtZ.src).
-/
import Derived.Test.YtjlcliicdclooaaDoorPtY
import Derived.Test.YtjlcliicdclooaaDoorPtT
import Derived.Test.YtjlcliicdclooaaDoorTrMb
import Derived.Test.YtjlcliicdclooaaDoorTrJA
import Derived.Test.YtjlcliicdclooaaDoorDecCmp
import Derived.Test.YtjlcliicdclooaaDoorRefForm
import Derived.Deep.MidRow
import Derived.Test.YtjlcliicdclooaaDoorPack3
import Derived.Test.YtjlcliicdclooaaDoorTrG
import Derived.Test.YtjlcliicdclooaaDoorTrN
namespace Go.Proofs.YtjlcliicdclooaaDoor
open Go.RowKit Go.Shelf
set_option maxRecDepth 10000 in
set_option maxHeartbeats 16000000 in
theorem pointerFinds_walk (t0 : Vt) (hz : blkV t0 ≤ 1048576) (va : Value) (s : ByteArray) (hs : s.size ≤ 1048576) (w : World) (hT : TabU w) (ha : ValAt w t0 va) :
  Calls Tryd.prog 5 #[va, .string s] w fun e w' => e = .returned (.bool true) ∧ Below w.heap.size w w' := by
 obtain ⟨l, rfl⟩ : ∃ l, s = mkL l := ⟨_, (mkL_data s).symm⟩
 rw [mkL_size] at hs
 obtain ⟨k1, b1, r1, t1, ko1, N1, kc1, vo1, M1, vc1, rfl⟩ := ha.lets
 have c1 := hid (fun u => small20_calls u)
 have c2 : Hid (∀ (va : Value) (u : World), TabU u → ValAt u small20T va → Calls Tryd.prog 12 #[va, .string ⟨#[47, 97, 47, 49, 47]⟩] u fun e w' => FdQ (sevenT, true, 0) u e w') := hid (fun va u hT ha => by
  have := find_calls small20T ln_small20 [47, 97, 47, 49, 47] (by decide) va u hT ha
  rw [fd_small20] at this
  exact this)
 obtain ⟨B, hB⟩ : ∃ B, Hid (byd t0 = B) := ⟨_, rfl⟩
 have q0 := hid (fun u hu => beyond_calls t0 B hB (.agg #[.int .i64 k1, .bool b1, .string r1, .string t1, .slice ko1 N1 kc1, .slice vo1 M1 vc1]) u hu)
 have q1 : Hid (B = false → ∀ u, TabU u → ValAt u t0 (.agg #[.int .i64 k1, .bool b1, .string r1, .string t1, .slice ko1 N1 kc1, .slice vo1 M1 vc1]) → Calls Tryd.prog 12 #[.agg #[.int .i64 k1, .bool b1, .string r1, .string t1, .slice ko1 N1 kc1, .slice vo1 M1 vc1], .string (mkL l)] u fun e w' => FdQ (fdF t0 l) u e w') := fun e u h1 h2 => find_calls t0 (byd_ln (by rw [hB.out]; exact e)) l (by omega) _ u h1 h2
 have q2 := hid (fun u (h : ValAt u t0 (.agg #[.int .i64 k1, .bool b1, .string r1, .string t1, .slice ko1 N1 kc1, .slice vo1 M1 vc1])) => findR_calls t0 (szV_blk t0 (by omega)) l (by omega) (.agg #[.int .i64 k1, .bool b1, .string r1, .string t1, .slice ko1 N1 kc1, .slice vo1 M1 vc1]) u h)
 have sm := hid (fun (va vb : Value) (u : World) (h1 : ValAt u (fdF t0 l).1 va) (h2 : ValAt u (fdF t0 l).1 vb) => sameV_calls (fdF t0 l).1 (fdF t0 l).1 va vb true (hid ⟨fun _ => rfl, fun _ => rfl⟩) u h1 h2)
 have ha' := hid ha
 have hT' := hid hT
 generalize fdF t0 l = Fd at q1 q2 sm
 obtain ⟨T, Bf, Ef⟩ := Fd
 generalize mkL l = sl at q1 q2 ⊢
 clear hz hs ha hT
 have A1 : Hid (At (w.alloc (.cells #[.int .i64 k1, .bool b1, .string r1, .string t1, .slice ko1 N1 kc1, .slice vo1 M1 vc1] 35)) w.heap.size #[.int .i64 k1, .bool b1, .string r1, .string t1, .slice ko1 N1 kc1, .slice vo1 M1 vc1] 35) := At.new w _ _
 have B1 : Hid (Below w.heap.size w (w.alloc (.cells #[.int .i64 k1, .bool b1, .string r1, .string t1, .slice ko1 N1 kc1, .slice vo1 M1 vc1] 35))) := (Below.refl _ w).alloc (Nat.le_refl _) _
 generalize hW1 : w.alloc (.cells #[.int .i64 k1, .bool b1, .string r1, .string t1, .slice ko1 N1 kc1, .slice vo1 M1 vc1] 35) = W1 at A1 B1
 go_enter Tryd.func5, Tryd.ntmps5
 go_wp2_with fail
 refine Calls.mono (c1.out _) ?_
 rintro e w1 ⟨v, rfl, v1, b1⟩
 have A2 := hid (A1.out.keptAll b1)
 have B2 := hid (B1.out.trans (b1.mono B1.out.size))
 have V1 := hid v1
 clear b1 v1 c1 A1 B1 hW1
 go_wp2_with fail
 refine Calls.mono (c2.out _ _ (hT'.out.below B2.out) V1.out) ?_
 rintro e w2 ⟨x, rfl, v2, b2⟩
 obtain ⟨ko, kc, vo, vc, rfl⟩ := v2.six
 have A3 := hid (A2.out.keptAll b2)
 have B3 := hid (B2.out.trans (b2.mono B2.out.size))
 clear v2 b2 c2 V1 B2 A2
 have D3 := hid (At.new w2 #[.int .i64 3, .bool false, .string ⟨#[55]⟩, .string ⟨#[]⟩, .slice ko 0 kc, .slice vo 0 vc] 35)
 have A4 := hid (A3.out.alloc (.cells #[.int .i64 3, .bool false, .string ⟨#[55]⟩, .string ⟨#[]⟩, .slice ko 0 kc, .slice vo 0 vc] 35))
 have B4 := hid (show Below w.heap.size w (w2.alloc (.cells #[.int .i64 3, .bool false, .string ⟨#[55]⟩, .string ⟨#[]⟩, .slice ko 0 kc, .slice vo 0 vc] 35)) from B3.out.alloc B3.out.size _)
 have H2 := hid A3.out.lt
 obtain ⟨D, hD⟩ : ∃ D, Hid (w2.heap.size = D) := ⟨_, rfl⟩
 have sz4 := hid (show (w2.alloc (.cells #[.int .i64 3, .bool false, .string ⟨#[55]⟩, .string ⟨#[]⟩, .slice ko 0 kc, .slice vo 0 vc] 35)).heap.size = D + 1 by rw [World.size_alloc, hD.out])
 rw [hD.out] at D3 H2
 generalize hW4 : w2.alloc (.cells #[.int .i64 3, .bool false, .string ⟨#[55]⟩, .string ⟨#[]⟩, .slice ko 0 kc, .slice vo 0 vc] 35) = W4 at A4 B4 D3 sz4
 have hW4' : w2.alloc (.cells #[.int .i64 sevenT.kind, .bool sevenT.b, .string sevenT.raw, .string sevenT.text, .slice ko sevenT.keys.length kc, .slice vo sevenT.kids.length vc] 35) = W4 := hW4
 have c2 : W4.cell? ⟨D, 2, none⟩ = some (.string ⟨#[55]⟩) := D3.out.cell 2
 have sz2 : w2.heap.size = D := hD.out
 clear hW4
 go_wp2_with (first | refine wpList_load_want 35 _ w.heap.size 0 [.int .i64 k1, .bool b1, .string r1, .string t1, .slice ko1 N1 kc1, .slice vo1 M1 vc1] _ (A4.out.range rfl) Tryd.underlying35 sizeVl rfl rfl rfl (by rfl) ?_ | fail)
 refine Calls.mono (q0.out _ (ha'.out.kept B4.out)) ?_
 rintro e w5 ⟨rfl, bq⟩
 have A5 := hid (A4.out.keptAll bq)
 have D5 := hid (D3.out.keptAll bq)
 have B5 := hid (B4.out.trans (bq.mono B4.out.size))
 have z5 := hid (show D + 1 ≤ w5.heap.size by have := bq.size; rw [sz4.out] at this; exact this)
 clear bq q0 A4 D3 B4 c2 sz2 hW4' sz4 hD A3 B3
 cases B with
 | true =>
  go_wp2
  go_ret
  exact ⟨rfl, B5.out⟩
 | false =>
  go_wp2_with (first | refine wpList_load_want 35 _ w.heap.size 0 [.int .i64 k1, .bool b1, .string r1, .string t1, .slice ko1 N1 kc1, .slice vo1 M1 vc1] _ (A5.out.range rfl) Tryd.underlying35 sizeVl rfl rfl rfl (by rfl) ?_ | fail)
  have q1' := q1.out (by first | exact trivial | rfl) w5 (hT'.out.below B5.out) (ha'.out.kept B5.out)
  refine Calls.mono q1' ?_
  rintro e w6 ⟨x, rfl, v6, bq⟩
  obtain ⟨k3, b3, r3, t3, ko3, N3, kc3, vo3, M3, vc3, rfl⟩ := v6.at.lets
  have A6 := hid (A5.out.keptAll bq)
  have D6 := hid (D5.out.keptAll bq)
  have B6 := hid (B5.out.trans (bq.mono B5.out.size))
  have V6 := hid v6
  clear bq v6 q1 A5 D5
  have hDw : D ≠ w.heap.size := by have := H2.out; omega
  have A7 := hid (A6.out.setCells_other (b' := D) (fun e => hDw e.symm) [.int .i64 k3, .bool b3, .string r3, .string t3, .slice ko3 N3 kc3, .slice vo3 M3 vc3] 0)
  have D7 := hid (D6.out.setCells [.int .i64 k3, .bool b3, .string r3, .string t3, .slice ko3 N3 kc3, .slice vo3 M3 vc3] rfl)
  have B7 := hid (below_setCells B6.out (b := D) (by have := H2.out; omega) [.int .i64 k3, .bool b3, .string r3, .string t3, .slice ko3 N3 kc3, .slice vo3 M3 vc3] 0)
  have V7 := hid (V6.out.kept (S' := fun b => w5.heap.size ≤ b) (fun _ _ h => h) (same_setCells w6 D [.int .i64 k3, .bool b3, .string r3, .string t3, .slice ko3 N3 kc3, .slice vo3 M3 vc3] (by have := z5.out; omega)))
  generalize hW7 : w6.setCells D 0 [.int .i64 k3, .bool b3, .string r3, .string t3, .slice ko3 N3 kc3, .slice vo3 M3 vc3] = W7 at A7 D7 B7 V7
  go_wp2_with (first | (refine wpList_store_want 35 _ _ D 0 (List.toArray [.int .i64 k3, .bool b3, .string r3, .string t3, .slice ko3 N3 kc3, .slice vo3 M3 vc3]) (D6.out.there 6 rfl) sizeVl (by simp [Value.oneCell']) rfl rfl (by rfl) (by rfl) ?_; rw [List.toList_toArray, hW7]; simp only [Act.put]) | refine wpList_load_want 35 _ w.heap.size 0 [.int .i64 k1, .bool b1, .string r1, .string t1, .slice ko1 N1 kc1, .slice vo1 M1 vc1] _ (A7.out.range rfl) Tryd.underlying35 sizeVl rfl rfl rfl (by rfl) ?_ | fail)
  refine Calls.mono (q2.out _ (ha'.out.kept B7.out)) ?_
  rintro e w8 ⟨x, rfl, v8, bq⟩
  obtain ⟨k4, b4, r4, t4, ko4, N4, kc4, vo4, M4, vc4, rfl⟩ := v8.lets
  have D8 := hid (D7.out.keptAll bq)
  have B8 := hid (B7.out.trans (bq.mono B7.out.size))
  have V8 := hid ((V7.out.keptB bq).at)
  have X8 := hid (v8.kept bq)
  clear bq v8 q2 A7 D7 V7 hW7 A6 D6 V6
  have al := hid (show Below w8.heap.size w8 (w8.alloc (.cells #[.int .i64 k4, .bool b4, .string r4, .string t4, .slice ko4 N4 kc4, .slice vo4 M4 vc4] 35)) from (Below.refl _ _).alloc (Nat.le_refl _) _)
  have D9 := hid (D8.out.alloc (.cells #[.int .i64 k4, .bool b4, .string r4, .string t4, .slice ko4 N4 kc4, .slice vo4 M4 vc4] 35))
  have N9 := hid (At.new w8 #[.int .i64 k4, .bool b4, .string r4, .string t4, .slice ko4 N4 kc4, .slice vo4 M4 vc4] 35)
  have B9 := hid (B8.out.trans (al.out.mono B8.out.size))
  have V9 := hid (V8.out.kept al.out)
  have X9 := hid (X8.out.kept al.out)
  generalize hW9 : w8.alloc (.cells #[.int .i64 k4, .bool b4, .string r4, .string t4, .slice ko4 N4 kc4, .slice vo4 M4 vc4] 35) = W9 at D9 N9 B9 V9 X9 al
  go_wp2_with (first | refine wpList_load_want 35 _ D 0 [.int .i64 k3, .bool b3, .string r3, .string t3, .slice ko3 N3 kc3, .slice vo3 M3 vc3] _ (D9.out.range rfl) Tryd.underlying35 sizeVl rfl rfl rfl (by rfl) ?_ | refine wpList_load_want 35 _ w8.heap.size 0 [.int .i64 k4, .bool b4, .string r4, .string t4, .slice ko4 N4 kc4, .slice vo4 M4 vc4] _ (N9.out.range rfl) Tryd.underlying35 sizeVl rfl rfl rfl (by rfl) ?_ | fail)
  refine Calls.mono (sm.out _ _ _ V9.out X9.out) ?_
  rintro e w10 ⟨rfl, bq⟩
  have B10 := hid (B9.out.trans (bq.mono B9.out.size))
  clear bq
  cases Bf
  ·go_wp2
   go_ret
   exact ⟨rfl, B10.out⟩
  ·go_wp2
   go_ret
   exact ⟨rfl, B10.out⟩
end Go.Proofs.YtjlcliicdclooaaDoor
