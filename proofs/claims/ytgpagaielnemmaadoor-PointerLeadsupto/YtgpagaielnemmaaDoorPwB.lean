/-
 tree.step: how a pointer tells one of the Kids.
-/
import Derived.Test.YtgpagaielnemmaaDoorPack2
import Derived.Test.YtgpagaielnemmaaDoorPtL
import Derived.Test.YtgpagaielnemmaaDoorDecPow
namespace Go.Proofs.YtgpagaielnemmaaDoor
open Go.RowKit Go.Shelf
set_option maxRecDepth 10000 in
set_option maxHeartbeats 4000000 in
theorem tstep_calls (k : Int) (b : Bool) (r t : ByteArray) (ko : Option Addr) (ks : List ByteArray) (N kc : Nat) (hN : Hid (ks.length = N)) (vo : Option Addr) (M vc : Nat) (i : Nat) (hi : i ≤ 1099511627776) (w : World) (hk : Hid (KeysAt w ko ks)) (hP : Hid (PowT w)) (hm : Hid (MxI w))
  (hok : Hid (k = 5 ∨ (k ≠ 5 ∧ ∃ s, ks[i]? = some s ∧ s.size ≤ 1073741820))) (T : List UInt8) (hT : Hid (stpK k ks i = T)) :
  Calls Tryd.prog 51 #[.agg #[.int .i64 k, .bool b, .string r, .string t, .slice ko N kc, .slice vo M vc], .int .i64 (i : Int)] w fun e w' => e = .returned (.string (mkL T)) ∧ Below w.heap.size w w' := by
 have hA := hid (At.new w #[.int .i64 k, .bool b, .string r, .string t, .slice ko N kc, .slice vo M vc] 25)
 have hB := hid (show Below w.heap.size w (w.alloc (.cells #[.int .i64 k, .bool b, .string r, .string t, .slice ko N kc, .slice vo M vc] 25)) from (Below.refl _ _).alloc (Nat.le_refl _) _)
 rcases hok.out with h5 | ⟨h5, s, hs, hsz⟩
 ·subst h5
  have hc := hid (fun u (h : PowT u) => itoa_calls (i : Int) (by omega) (by omega) u h)
  have hTe : Hid ((⟨(Lib.itoa (i : Int)).toArray⟩ : ByteArray) = mkL T) := by rw [← hT.out, stpK, if_pos rfl]; rfl
  clear hok
  go_enter Tryd.func51, Tryd.ntmps51
  go_wp2_with fail
  refine Calls.mono (hc.out _ (hP.out.kept hB.out)) ?_
  rintro e w1 ⟨rfl, hb⟩
  rw [hTe.out]
  have hB1 := hid (hB.out.trans (hb.mono hB.out.size))
  clear hb hc
  go_wp2
  go_ret
  exact ⟨rfl, hB1.out⟩
 ·have h5' : (k == 5) = false := by simpa using h5
  have hiN : i < N := by rw [← hN.out]; exact (List.getElem?_eq_some_iff.1 hs).1
  have hiI : (i : Int) < (N : Int) := by omega
  have hiw : IntKind.i64.wrap (i : Int) = (i : Int) := by rw [IntKind.wrap_i64]; omega
  obtain ⟨g, o, hko, hg, hcell⟩ : ∃ g o, ko = some ⟨g, o, none⟩ ∧ g < w.heap.size ∧ w.cell? ⟨g, o + i, none⟩ = some (.string s) := by
   obtain ⟨-, g, o, h1, h2, h3⟩ := hk.out i s hs
   exact ⟨g, o, h1, h2, h3⟩
  subst hko
  obtain ⟨l, rfl⟩ : ∃ l, s = mkL l := ⟨_, (mkL_data s).symm⟩
  have hll : l.length ≤ 1073741820 := by rw [← mkL_size]; exact hsz
  have hc1 := hid (fun u (h : MxI u) => repl_calls l 126 126 48 (by omega) u h (by decide))
  obtain ⟨l2, hl2⟩ : ∃ l2, Hid (l.flatMap (fun y => if y = 126 then [126, 48] else [y]) = l2) := ⟨_, rfl⟩
  rw [hl2.out] at hc1
  have hl2n : l2.length ≤ 2147483640 := by
   rw [← hl2.out]
   have := flat_len (fun y => if y = 126 then [126, 48] else [y]) 2 (fun x => by split <;> simp) l
   omega
  have hc2 := hid (fun u (h : MxI u) => repl_calls l2 47 126 49 (by omega) u h (by decide))
  have hTe : Hid (mkL (l2.flatMap (fun y => if y = 47 then [126, 49] else [y])) = mkL T) := by
   rw [← hT.out, stpK, if_neg h5, hs, Option.getD_some, data_mkL, ← hl2.out, wrN_two]
   exact hid rfl
  rw [hTe.out] at hc2
  have hcell' : (w.alloc (.cells #[.int .i64 k, .bool b, .string r, .string t, .slice (some ⟨g, o, none⟩) N kc, .slice vo M vc] 25)).cell? ⟨g, o + i, none⟩ = some (.string (mkL l)) := by
   rw [World.cell?_of_block (w := w) (hB.out.block g hg)]
   exact hcell
  have c0 : (w.alloc (.cells #[.int .i64 k, .bool b, .string r, .string t, .slice (some ⟨g, o, none⟩) N kc, .slice vo M vc] 25)).cell? ⟨w.heap.size, 0, none⟩ = some (.int .i64 k) := hA.out.cell 0
  have c4 : (w.alloc (.cells #[.int .i64 k, .bool b, .string r, .string t, .slice (some ⟨g, o, none⟩) N kc, .slice vo M vc] 25)).cell? ⟨w.heap.size, 4, none⟩ = some (.slice (some ⟨g, o, none⟩) N kc) := hA.out.cell 4
  obtain ⟨s1, hs1⟩ : ∃ s1, mkL l = s1 := ⟨_, rfl⟩
  obtain ⟨s2, hs2⟩ : ∃ s2, mkL l2 = s2 := ⟨_, rfl⟩
  obtain ⟨s3, hs3⟩ : ∃ s3, mkL T = s3 := ⟨_, rfl⟩
  rw [hs1] at hcell' hc1
  rw [hs2] at hc1 hc2
  rw [hs3] at hc2
  have hs3' := hid hs3
  clear hok h5 hs hsz hcell hll hl2 hl2n hTe hs1 hs2 hs3 hT hN hk hP hA
  go_enter Tryd.func51, Tryd.ntmps51
  go_wp2_with fail
  refine Calls.mono (hc1.out _ (hm.out.kept hB.out)) ?_
  rintro e w1 ⟨rfl, hb⟩
  have hB1 := hid (hB.out.trans (hb.mono hB.out.size))
  clear hb hc1 hcell' c0 c4
  go_wp2_with fail
  refine Calls.mono (hc2.out _ (hm.out.kept hB1.out)) ?_
  rintro e w2 ⟨rfl, hb⟩
  have hB2 := hid (hB1.out.trans (hb.mono hB1.out.size))
  clear hb hc2
  go_wp2
  go_ret
  rw [hs3'.out]
  exact ⟨rfl, hB2.out⟩
end Go.Proofs.YtgpagaielnemmaaDoor
