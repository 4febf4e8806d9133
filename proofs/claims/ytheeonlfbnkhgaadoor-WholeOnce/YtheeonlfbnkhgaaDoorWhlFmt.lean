/-
  What strconv.FormatInt and strconv.FormatUint answer at ten.
-/
import Derived.Test.YtheeonlfbnkhgaaDoorKitA
import Derived.Test.YtheeonlfbnkhgaaDoorShelfD
import Derived.Test.YtheeonlfbnkhgaaDoorRows
import Derived.Lib.LaidTab
import Derived.Lib.AppendIntMem
import Derived.BigCall
import Derived.BigGuard
namespace Go.Proofs.YtheeonlfbnkhgaaDoor
open Go.RowKit Go.Shelf Go.Sort

/-- The table of powers of ten: its name, as the row has it. -/
abbrev powNm : String := Rows.wholeTextsRow.named.getD 0 default
def PowW (w : World) : Prop := Lib.TabIs Tryd.prog w powNm .u64 Lib.pow10Tab
theorem gPowN : (Tryd.prog.globalNamed powNm).isSome = true := by kernel_rfl
theorem PowW.kept {w w' : World} (h : PowW w) (hb : Below w.heap.size w w') : PowW w' := by
  obtain ⟨g, hg⟩ := Option.isSome_iff_exists.1 gPowN
  unfold PowW Lib.TabIs World.var? at h ⊢
  rw [hg] at h ⊢
  simp only [Option.bind_some] at h ⊢
  cases ho : w.heap[g]? with
  | none => rw [ho] at h; cases h
  | some o =>
    have hlt : g < w.heap.size := (Array.getElem?_eq_some_iff.1 ho).1
    rw [hb.block g hlt]
    exact h
theorem PowW.since {w0 w w' : World} (h : PowW w0) (hb : Below w0.heap.size w0 w) (hb' : Below w.heap.size w w') : PowW w' := h.kept (hb.trans (hb'.mono hb.size))
theorem fmtI_calls (x : Int) (h0 : -9223372036854775808 ≤ x) (h1 : x ≤ 9223372036854775807) (w : World) (hT : PowW w) :
    Calls Tryd.prog 12 #[.int .i64 x, .int .i64 10] w fun e w' => e = .returned (.string ⟨(Lib.itoa x).toArray⟩) ∧ Below w.heap.size w w' := by
  refine Calls.mono (show Calls Tryd.prog 12 #[.int .i64 x, .int .i64 10] w fun e w' => e = .returned (.string ⟨(Lib.itoa x).toArray⟩) ∧ ∃ k os, w' = Sort.grow (w.drewN k) os from Any.strconv_FormatInt_10 Tryd.laysM173 x h0 h1 w hT) ?_
  rintro e w' ⟨rfl, k, os, rfl⟩
  exact ⟨rfl, Lib.below_grow _ w (Nat.le_refl _) k os⟩
theorem small_calls (i : Nat) (h : i < 100) (w : World) :
    Calls Tryd.prog 41 #[.int .i64 (i : Int)] w fun e w' => e = .returned (.string ⟨(Lib.decDigits i).toArray⟩) ∧ w' = w := Any.internal_strconv_small Tryd.lays283 i h w
theorem numDig_calls (u : Nat) (h1 : 1 ≤ u) (h2 : u < 18446744073709551616) (w : World) (hT : PowW w) :
    Calls Tryd.prog 42 #[.int .u64 (u : Int)] w fun e w' => e = .returned (.int .i64 (Lib.nDigits u : Int)) ∧ w' = w := Any.internal_strconv_numDigits Tryd.laysM284 u h1 h2 w hT
theorem fmt10_calls (blk off cap u : Nat) (d : Array UInt8) (w : World) (hH : Holds (fun (b : UInt8) => Value.int .u8 (b.toNat : Int)) w blk off d) (hu : u < 10 ^ d.size) (hu64 : u < 18446744073709551616) (hsz : d.size < 4611686018427387904) :
    Calls Tryd.prog 43 #[.slice (some ⟨blk, off, none⟩) d.size cap, .int .u64 (u : Int)] w fun e w' =>
      e = .returned (.tuple #[]) ∧ ∃ (n v' : Nat) (dk : Array UInt8), w' = (putRow (fun (b : UInt8) => Value.int .u8 (b.toNat : Int)) w blk off dk).drewN n ∧ Lib.FmtInv d.size u 0 v' dk := Any.internal_strconv_formatBase10 Tryd.lays285 blk off cap u d w hH hu hu64 hsz
set_option maxRecDepth 100000 in
set_option maxHeartbeats 4000000 in
theorem fmtU_in (u : Nat) (hu : u < 18446744073709551616) (w : World) (hT : PowW w) :
    Calls Tryd.prog 33 #[.int .u64 (u : Int), .int .i64 10] w fun e w' => e = .returned (.string ⟨(Lib.decDigits u).toArray⟩) ∧ Below w.heap.size w w' := by
  by_cases h : u < 100
  · have hc := hid (fun w1 => small_calls u h w1)
    have e1 : decide ((u : Int) < 100) = true := by simp; omega
    have e2 : wrap64 (u : Int) = (u : Int) := by rw [wrap64]; omega
    clear hu
    go_enter Tryd.func33, Tryd.ntmps33
    go_wp2_with fail
    refine Calls.mono (hc.out _) ?_
    rintro e w1 ⟨rfl, rfl⟩
    go_wp2
    go_ret
    exact ⟨rfl, Below.refl _ _⟩
  · have h1 : 1 ≤ u := by omega
    have e1 : decide ((u : Int) < 100) = false := by simp; omega
    have hnd20 : Lib.nDigits u ≤ 20 := by have := Lib.numDigits_eq u h1 hu; split at this <;> omega
    have hal : Tryd.prog.arrayLen 71 = 24 := by kernel_rfl
    have hsl : ∀ W, (Instr.sliceAt 71 (.pointer (some ⟨w.heap.size, 0, none⟩)) none (some (.int .i64 (Lib.nDigits u : Int))) none).run Tryd.prog W = .ok (.slice (some ⟨w.heap.size, 0, none⟩) (Lib.nDigits u) 24) W := fun W => by
      rw [run_sliceAt_array_h W 71 ⟨w.heap.size, 0, none⟩ (by simp [Program.arrayLen, Program.elem, Tryd.underlying71]) .i64 (Lib.nDigits u : Int) (by omega) (by rw [hal]; omega)]
      go_simp
    have hN := hid (fun w1 h2 => numDig_calls u h1 hu w1 h2)
    have hH0 := Lib.holds_zero0 w 71 (Lib.nDigits u) (by omega)
    have hfmt := fmt10_calls w.heap.size 0 24 u (Array.replicate (Lib.nDigits u) 0) (w.alloc (.cells Lib.zeros24 71)) hH0 (by rw [Array.size_replicate]; exact Lib.lt_pow_nDigits u) hu (by rw [Array.size_replicate]; omega)
    rw [Array.size_replicate] at hfmt
    have Hfmt := hid hfmt
    have HH0 := hid hH0
    have hT' := hid (hT.kept (w' := w.alloc (.cells Lib.zeros24 71)) (by repeat (first | with_reducible exact Below.refl _ _ | with_reducible refine Below.setCell ?_ (by first | (simp; done) | (simp; omega)) _ | with_reducible refine below_drewN ?_ _ | with_reducible refine Below.alloc ?_ (by first | (simp; done) | (simp; omega)) _ | with_reducible refine Below.drew ?_)))
    clear hH0 hal hfmt hT
    go_enter Tryd.func33, Tryd.ntmps33
    go_wp2_with fail
    refine Calls.mono (hN.out _ hT'.out) ?_
    rintro e w1 ⟨rfl, hw⟩
    rw [hw]
    clear hw hN w1
    go_wp2_with fail
    refine Calls.mono Hfmt.out ?_
    rintro e w1 ⟨rfl, k, v', dk, hw, hF⟩
    rw [hw]
    clear hw Hfmt w1
    have hcv : (convert 28 9 (.slice (some ⟨w.heap.size, 0, none⟩) (Lib.nDigits u) 24)).run Tryd.prog ((putRow (fun (b : UInt8) => Value.int .u8 (b.toNat : Int)) (w.alloc (.cells Lib.zeros24 71)) w.heap.size 0 dk).drewN k) = .ok (.string ⟨(Lib.decDigits u).toArray⟩) ((putRow (fun (b : UInt8) => Value.int .u8 (b.toNat : Int)) (w.alloc (.cells Lib.zeros24 71)) w.heap.size 0 dk).drewN k) := by
      have h := run_convert_bytes_back (P := Tryd.prog) ((putRow (fun (b : UInt8) => Value.int .u8 (b.toNat : Int)) (w.alloc (.cells Lib.zeros24 71)) w.heap.size 0 dk).drewN k) 28 9 5 ⟨w.heap.size, 0, none⟩ 24 (Lib.decDigits u) Tryd.underlying28 Tryd.underlying5 Tryd.underlying9 (fun j hj => by
        rw [Lib.row_is_numeral hF j hj, Lib.add_plain, World.cell?_drewN]
        exact cell?_putRow (fun (b : UInt8) => Value.int .u8 (b.toNat : Int)) _ w.heap.size 0 _ dk HH0.out (by rw [hF.size, Array.size_replicate]) j (by rw [hF.size]; rw [Lib.decDigits_length] at hj; exact hj))
      rw [Lib.decDigits_length] at h
      exact h
    have hfin := hid (Lib.fin_at w (.cells Lib.zeros24 71) dk k 0)
    clear hF HH0 hT'
    generalize (putRow (fun (b : UInt8) => Value.int .u8 (b.toNat : Int)) (w.alloc (.cells Lib.zeros24 71)) w.heap.size 0 dk).drewN k = W at hcv hfin ⊢
    go_wp2
    go_ret
    obtain ⟨os, eo⟩ := hfin.out
    exact ⟨rfl, by rw [eo]; exact Lib.below_grow _ w (Nat.le_refl _) k os⟩
set_option maxRecDepth 10000 in
theorem fmtU_calls (u : Nat) (hu : u < 18446744073709551616) (w : World) (hT : PowW w) :
    Calls Tryd.prog 15 #[.int .u64 (u : Int), .int .i64 10] w fun e w' => e = .returned (.string ⟨(Lib.decDigits u).toArray⟩) ∧ Below w.heap.size w w' := by
  have hc := hid (fmtU_in u hu w hT)
  generalize (⟨(Lib.decDigits u).toArray⟩ : ByteArray) = T at hc ⊢
  go_enter Tryd.func15, Tryd.ntmps15
  go_wp2_with fail
  refine Calls.mono hc.out ?_
  rintro e w1 ⟨rfl, hb⟩
  go_wp2
  go_ret
  exact ⟨rfl, hb⟩
end Go.Proofs.YtheeonlfbnkhgaaDoor
