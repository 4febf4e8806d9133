/-
 What texts.written and texts.Escape answer.
-/
import Derived.Test.YtlhbgfhmcjaabaaGreatDoorTxPC
import Derived.Test.YtlhbgfhmcjaabaaGreatDoorRefTx4
import Derived.BigQuiet
namespace Go.Proofs.YtlhbgfhmcjaabaaGreatDoor
open Go.RowKit Go.Shelf
set_option maxRecDepth 10000 in
theorem written34 (w : World) : Calls Tryz.prog 75 #[.int .i32 34] w fun e w' => e = .returned (.string (mkS (oneL 34))) ∧ Below w.heap.size w w' := by
 go_enter Tryz.func75, Tryz.ntmps75
 go_wp2
 go_ret
 exact ⟨rfl, by repeat (first | with_reducible exact Below.refl _ _ | with_reducible refine Below.setCell ?_ (by first | (simp; done) | (simp; omega)) _ | with_reducible refine below_drewN ?_ _ | with_reducible refine Below.alloc ?_ (by first | (simp; done) | (simp; omega)) _ | with_reducible refine Below.drew ?_)⟩
set_option maxRecDepth 10000 in
theorem written92 (w : World) : Calls Tryz.prog 75 #[.int .i32 92] w fun e w' => e = .returned (.string (mkS (oneL 92))) ∧ Below w.heap.size w w' := by
 go_enter Tryz.func75, Tryz.ntmps75
 go_wp2
 go_ret
 exact ⟨rfl, by repeat (first | with_reducible exact Below.refl _ _ | with_reducible refine Below.setCell ?_ (by first | (simp; done) | (simp; omega)) _ | with_reducible refine below_drewN ?_ _ | with_reducible refine Below.alloc ?_ (by first | (simp; done) | (simp; omega)) _ | with_reducible refine Below.drew ?_)⟩
set_option maxRecDepth 10000 in
theorem written8 (w : World) : Calls Tryz.prog 75 #[.int .i32 8] w fun e w' => e = .returned (.string (mkS (oneL 8))) ∧ Below w.heap.size w w' := by
 go_enter Tryz.func75, Tryz.ntmps75
 go_wp2
 go_ret
 exact ⟨rfl, by repeat (first | with_reducible exact Below.refl _ _ | with_reducible refine Below.setCell ?_ (by first | (simp; done) | (simp; omega)) _ | with_reducible refine below_drewN ?_ _ | with_reducible refine Below.alloc ?_ (by first | (simp; done) | (simp; omega)) _ | with_reducible refine Below.drew ?_)⟩
set_option maxRecDepth 10000 in
theorem written12 (w : World) : Calls Tryz.prog 75 #[.int .i32 12] w fun e w' => e = .returned (.string (mkS (oneL 12))) ∧ Below w.heap.size w w' := by
 go_enter Tryz.func75, Tryz.ntmps75
 go_wp2
 go_ret
 exact ⟨rfl, by repeat (first | with_reducible exact Below.refl _ _ | with_reducible refine Below.setCell ?_ (by first | (simp; done) | (simp; omega)) _ | with_reducible refine below_drewN ?_ _ | with_reducible refine Below.alloc ?_ (by first | (simp; done) | (simp; omega)) _ | with_reducible refine Below.drew ?_)⟩
set_option maxRecDepth 10000 in
theorem written10 (w : World) : Calls Tryz.prog 75 #[.int .i32 10] w fun e w' => e = .returned (.string (mkS (oneL 10))) ∧ Below w.heap.size w w' := by
 go_enter Tryz.func75, Tryz.ntmps75
 go_wp2
 go_ret
 exact ⟨rfl, by repeat (first | with_reducible exact Below.refl _ _ | with_reducible refine Below.setCell ?_ (by first | (simp; done) | (simp; omega)) _ | with_reducible refine below_drewN ?_ _ | with_reducible refine Below.alloc ?_ (by first | (simp; done) | (simp; omega)) _ | with_reducible refine Below.drew ?_)⟩
set_option maxRecDepth 10000 in
theorem written13 (w : World) : Calls Tryz.prog 75 #[.int .i32 13] w fun e w' => e = .returned (.string (mkS (oneL 13))) ∧ Below w.heap.size w w' := by
 go_enter Tryz.func75, Tryz.ntmps75
 go_wp2
 go_ret
 exact ⟨rfl, by repeat (first | with_reducible exact Below.refl _ _ | with_reducible refine Below.setCell ?_ (by first | (simp; done) | (simp; omega)) _ | with_reducible refine below_drewN ?_ _ | with_reducible refine Below.alloc ?_ (by first | (simp; done) | (simp; omega)) _ | with_reducible refine Below.drew ?_)⟩
set_option maxRecDepth 10000 in
theorem written9 (w : World) : Calls Tryz.prog 75 #[.int .i32 9] w fun e w' => e = .returned (.string (mkS (oneL 9))) ∧ Below w.heap.size w w' := by
 go_enter Tryz.func75, Tryz.ntmps75
 go_wp2
 go_ret
 exact ⟨rfl, by repeat (first | with_reducible exact Below.refl _ _ | with_reducible refine Below.setCell ?_ (by first | (simp; done) | (simp; omega)) _ | with_reducible refine below_drewN ?_ _ | with_reducible refine Below.alloc ?_ (by first | (simp; done) | (simp; omega)) _ | with_reducible refine Below.drew ?_)⟩
set_option maxRecDepth 10000 in
theorem written0 (w : World) : Calls Tryz.prog 75 #[.int .i32 0] w fun e w' => e = .returned (.string (mkS (oneL 0))) ∧ Below w.heap.size w w' := by
 have h0 : ∀ u : World, (Instr.index 9 (.string ⟨#[48, 49, 50, 51, 52, 53, 54, 55, 56, 57, 97, 98, 99, 100, 101, 102]⟩) (.int .i32 0)).run Tryz.prog u = .ok (.int .u8 48) u := fun u => by kernel_rfl
 have c0 : ∀ u : World, (convert 5 9 (.int .u8 48)).run Tryz.prog u = .ok (.string ⟨#[48]⟩) u := fun u => by kernel_rfl
 have k0 : IntKind.i32.wrap 0 = 0 := by decide
 go_enter Tryz.func75, Tryz.ntmps75
 go_wp2_with fail
 go_quiet (fail)
 go_wp2
 go_ret
 exact ⟨rfl, below_drewN (Below.refl _ _) _⟩
set_option maxRecDepth 10000 in
theorem written1 (w : World) : Calls Tryz.prog 75 #[.int .i32 1] w fun e w' => e = .returned (.string (mkS (oneL 1))) ∧ Below w.heap.size w w' := by
 have h0 : ∀ u : World, (Instr.index 9 (.string ⟨#[48, 49, 50, 51, 52, 53, 54, 55, 56, 57, 97, 98, 99, 100, 101, 102]⟩) (.int .i32 0)).run Tryz.prog u = .ok (.int .u8 48) u := fun u => by kernel_rfl
 have c0 : ∀ u : World, (convert 5 9 (.int .u8 48)).run Tryz.prog u = .ok (.string ⟨#[48]⟩) u := fun u => by kernel_rfl
 have k0 : IntKind.i32.wrap 0 = 0 := by decide
 have h1 : ∀ u : World, (Instr.index 9 (.string ⟨#[48, 49, 50, 51, 52, 53, 54, 55, 56, 57, 97, 98, 99, 100, 101, 102]⟩) (.int .i32 1)).run Tryz.prog u = .ok (.int .u8 49) u := fun u => by kernel_rfl
 have c1 : ∀ u : World, (convert 5 9 (.int .u8 49)).run Tryz.prog u = .ok (.string ⟨#[49]⟩) u := fun u => by kernel_rfl
 have k1 : IntKind.i32.wrap 1 = 1 := by decide
 go_enter Tryz.func75, Tryz.ntmps75
 go_wp2_with fail
 go_quiet (fail)
 go_wp2
 go_ret
 exact ⟨rfl, below_drewN (Below.refl _ _) _⟩
set_option maxRecDepth 10000 in
theorem written2 (w : World) : Calls Tryz.prog 75 #[.int .i32 2] w fun e w' => e = .returned (.string (mkS (oneL 2))) ∧ Below w.heap.size w w' := by
 have h0 : ∀ u : World, (Instr.index 9 (.string ⟨#[48, 49, 50, 51, 52, 53, 54, 55, 56, 57, 97, 98, 99, 100, 101, 102]⟩) (.int .i32 0)).run Tryz.prog u = .ok (.int .u8 48) u := fun u => by kernel_rfl
 have c0 : ∀ u : World, (convert 5 9 (.int .u8 48)).run Tryz.prog u = .ok (.string ⟨#[48]⟩) u := fun u => by kernel_rfl
 have k0 : IntKind.i32.wrap 0 = 0 := by decide
 have h1 : ∀ u : World, (Instr.index 9 (.string ⟨#[48, 49, 50, 51, 52, 53, 54, 55, 56, 57, 97, 98, 99, 100, 101, 102]⟩) (.int .i32 2)).run Tryz.prog u = .ok (.int .u8 50) u := fun u => by kernel_rfl
 have c1 : ∀ u : World, (convert 5 9 (.int .u8 50)).run Tryz.prog u = .ok (.string ⟨#[50]⟩) u := fun u => by kernel_rfl
 have k1 : IntKind.i32.wrap 2 = 2 := by decide
 go_enter Tryz.func75, Tryz.ntmps75
 go_wp2_with fail
 go_quiet (fail)
 go_wp2
 go_ret
 exact ⟨rfl, below_drewN (Below.refl _ _) _⟩
set_option maxRecDepth 10000 in
theorem written3 (w : World) : Calls Tryz.prog 75 #[.int .i32 3] w fun e w' => e = .returned (.string (mkS (oneL 3))) ∧ Below w.heap.size w w' := by
 have h0 : ∀ u : World, (Instr.index 9 (.string ⟨#[48, 49, 50, 51, 52, 53, 54, 55, 56, 57, 97, 98, 99, 100, 101, 102]⟩) (.int .i32 0)).run Tryz.prog u = .ok (.int .u8 48) u := fun u => by kernel_rfl
 have c0 : ∀ u : World, (convert 5 9 (.int .u8 48)).run Tryz.prog u = .ok (.string ⟨#[48]⟩) u := fun u => by kernel_rfl
 have k0 : IntKind.i32.wrap 0 = 0 := by decide
 have h1 : ∀ u : World, (Instr.index 9 (.string ⟨#[48, 49, 50, 51, 52, 53, 54, 55, 56, 57, 97, 98, 99, 100, 101, 102]⟩) (.int .i32 3)).run Tryz.prog u = .ok (.int .u8 51) u := fun u => by kernel_rfl
 have c1 : ∀ u : World, (convert 5 9 (.int .u8 51)).run Tryz.prog u = .ok (.string ⟨#[51]⟩) u := fun u => by kernel_rfl
 have k1 : IntKind.i32.wrap 3 = 3 := by decide
 go_enter Tryz.func75, Tryz.ntmps75
 go_wp2_with fail
 go_quiet (fail)
 go_wp2
 go_ret
 exact ⟨rfl, below_drewN (Below.refl _ _) _⟩
set_option maxRecDepth 10000 in
theorem written4 (w : World) : Calls Tryz.prog 75 #[.int .i32 4] w fun e w' => e = .returned (.string (mkS (oneL 4))) ∧ Below w.heap.size w w' := by
 have h0 : ∀ u : World, (Instr.index 9 (.string ⟨#[48, 49, 50, 51, 52, 53, 54, 55, 56, 57, 97, 98, 99, 100, 101, 102]⟩) (.int .i32 0)).run Tryz.prog u = .ok (.int .u8 48) u := fun u => by kernel_rfl
 have c0 : ∀ u : World, (convert 5 9 (.int .u8 48)).run Tryz.prog u = .ok (.string ⟨#[48]⟩) u := fun u => by kernel_rfl
 have k0 : IntKind.i32.wrap 0 = 0 := by decide
 have h1 : ∀ u : World, (Instr.index 9 (.string ⟨#[48, 49, 50, 51, 52, 53, 54, 55, 56, 57, 97, 98, 99, 100, 101, 102]⟩) (.int .i32 4)).run Tryz.prog u = .ok (.int .u8 52) u := fun u => by kernel_rfl
 have c1 : ∀ u : World, (convert 5 9 (.int .u8 52)).run Tryz.prog u = .ok (.string ⟨#[52]⟩) u := fun u => by kernel_rfl
 have k1 : IntKind.i32.wrap 4 = 4 := by decide
 go_enter Tryz.func75, Tryz.ntmps75
 go_wp2_with fail
 go_quiet (fail)
 go_wp2
 go_ret
 exact ⟨rfl, below_drewN (Below.refl _ _) _⟩
set_option maxRecDepth 10000 in
theorem written5 (w : World) : Calls Tryz.prog 75 #[.int .i32 5] w fun e w' => e = .returned (.string (mkS (oneL 5))) ∧ Below w.heap.size w w' := by
 have h0 : ∀ u : World, (Instr.index 9 (.string ⟨#[48, 49, 50, 51, 52, 53, 54, 55, 56, 57, 97, 98, 99, 100, 101, 102]⟩) (.int .i32 0)).run Tryz.prog u = .ok (.int .u8 48) u := fun u => by kernel_rfl
 have c0 : ∀ u : World, (convert 5 9 (.int .u8 48)).run Tryz.prog u = .ok (.string ⟨#[48]⟩) u := fun u => by kernel_rfl
 have k0 : IntKind.i32.wrap 0 = 0 := by decide
 have h1 : ∀ u : World, (Instr.index 9 (.string ⟨#[48, 49, 50, 51, 52, 53, 54, 55, 56, 57, 97, 98, 99, 100, 101, 102]⟩) (.int .i32 5)).run Tryz.prog u = .ok (.int .u8 53) u := fun u => by kernel_rfl
 have c1 : ∀ u : World, (convert 5 9 (.int .u8 53)).run Tryz.prog u = .ok (.string ⟨#[53]⟩) u := fun u => by kernel_rfl
 have k1 : IntKind.i32.wrap 5 = 5 := by decide
 go_enter Tryz.func75, Tryz.ntmps75
 go_wp2_with fail
 go_quiet (fail)
 go_wp2
 go_ret
 exact ⟨rfl, below_drewN (Below.refl _ _) _⟩
set_option maxRecDepth 10000 in
theorem written6 (w : World) : Calls Tryz.prog 75 #[.int .i32 6] w fun e w' => e = .returned (.string (mkS (oneL 6))) ∧ Below w.heap.size w w' := by
 have h0 : ∀ u : World, (Instr.index 9 (.string ⟨#[48, 49, 50, 51, 52, 53, 54, 55, 56, 57, 97, 98, 99, 100, 101, 102]⟩) (.int .i32 0)).run Tryz.prog u = .ok (.int .u8 48) u := fun u => by kernel_rfl
 have c0 : ∀ u : World, (convert 5 9 (.int .u8 48)).run Tryz.prog u = .ok (.string ⟨#[48]⟩) u := fun u => by kernel_rfl
 have k0 : IntKind.i32.wrap 0 = 0 := by decide
 have h1 : ∀ u : World, (Instr.index 9 (.string ⟨#[48, 49, 50, 51, 52, 53, 54, 55, 56, 57, 97, 98, 99, 100, 101, 102]⟩) (.int .i32 6)).run Tryz.prog u = .ok (.int .u8 54) u := fun u => by kernel_rfl
 have c1 : ∀ u : World, (convert 5 9 (.int .u8 54)).run Tryz.prog u = .ok (.string ⟨#[54]⟩) u := fun u => by kernel_rfl
 have k1 : IntKind.i32.wrap 6 = 6 := by decide
 go_enter Tryz.func75, Tryz.ntmps75
 go_wp2_with fail
 go_quiet (fail)
 go_wp2
 go_ret
 exact ⟨rfl, below_drewN (Below.refl _ _) _⟩
set_option maxRecDepth 10000 in
theorem written7 (w : World) : Calls Tryz.prog 75 #[.int .i32 7] w fun e w' => e = .returned (.string (mkS (oneL 7))) ∧ Below w.heap.size w w' := by
 have h0 : ∀ u : World, (Instr.index 9 (.string ⟨#[48, 49, 50, 51, 52, 53, 54, 55, 56, 57, 97, 98, 99, 100, 101, 102]⟩) (.int .i32 0)).run Tryz.prog u = .ok (.int .u8 48) u := fun u => by kernel_rfl
 have c0 : ∀ u : World, (convert 5 9 (.int .u8 48)).run Tryz.prog u = .ok (.string ⟨#[48]⟩) u := fun u => by kernel_rfl
 have k0 : IntKind.i32.wrap 0 = 0 := by decide
 have h1 : ∀ u : World, (Instr.index 9 (.string ⟨#[48, 49, 50, 51, 52, 53, 54, 55, 56, 57, 97, 98, 99, 100, 101, 102]⟩) (.int .i32 7)).run Tryz.prog u = .ok (.int .u8 55) u := fun u => by kernel_rfl
 have c1 : ∀ u : World, (convert 5 9 (.int .u8 55)).run Tryz.prog u = .ok (.string ⟨#[55]⟩) u := fun u => by kernel_rfl
 have k1 : IntKind.i32.wrap 7 = 7 := by decide
 go_enter Tryz.func75, Tryz.ntmps75
 go_wp2_with fail
 go_quiet (fail)
 go_wp2
 go_ret
 exact ⟨rfl, below_drewN (Below.refl _ _) _⟩
set_option maxRecDepth 10000 in
theorem written11 (w : World) : Calls Tryz.prog 75 #[.int .i32 11] w fun e w' => e = .returned (.string (mkS (oneL 11))) ∧ Below w.heap.size w w' := by
 have h0 : ∀ u : World, (Instr.index 9 (.string ⟨#[48, 49, 50, 51, 52, 53, 54, 55, 56, 57, 97, 98, 99, 100, 101, 102]⟩) (.int .i32 0)).run Tryz.prog u = .ok (.int .u8 48) u := fun u => by kernel_rfl
 have c0 : ∀ u : World, (convert 5 9 (.int .u8 48)).run Tryz.prog u = .ok (.string ⟨#[48]⟩) u := fun u => by kernel_rfl
 have k0 : IntKind.i32.wrap 0 = 0 := by decide
 have h1 : ∀ u : World, (Instr.index 9 (.string ⟨#[48, 49, 50, 51, 52, 53, 54, 55, 56, 57, 97, 98, 99, 100, 101, 102]⟩) (.int .i32 11)).run Tryz.prog u = .ok (.int .u8 98) u := fun u => by kernel_rfl
 have c1 : ∀ u : World, (convert 5 9 (.int .u8 98)).run Tryz.prog u = .ok (.string ⟨#[98]⟩) u := fun u => by kernel_rfl
 have k1 : IntKind.i32.wrap 11 = 11 := by decide
 go_enter Tryz.func75, Tryz.ntmps75
 go_wp2_with fail
 go_quiet (fail)
 go_wp2
 go_ret
 exact ⟨rfl, below_drewN (Below.refl _ _) _⟩
set_option maxRecDepth 10000 in
theorem written14 (w : World) : Calls Tryz.prog 75 #[.int .i32 14] w fun e w' => e = .returned (.string (mkS (oneL 14))) ∧ Below w.heap.size w w' := by
 have h0 : ∀ u : World, (Instr.index 9 (.string ⟨#[48, 49, 50, 51, 52, 53, 54, 55, 56, 57, 97, 98, 99, 100, 101, 102]⟩) (.int .i32 0)).run Tryz.prog u = .ok (.int .u8 48) u := fun u => by kernel_rfl
 have c0 : ∀ u : World, (convert 5 9 (.int .u8 48)).run Tryz.prog u = .ok (.string ⟨#[48]⟩) u := fun u => by kernel_rfl
 have k0 : IntKind.i32.wrap 0 = 0 := by decide
 have h1 : ∀ u : World, (Instr.index 9 (.string ⟨#[48, 49, 50, 51, 52, 53, 54, 55, 56, 57, 97, 98, 99, 100, 101, 102]⟩) (.int .i32 14)).run Tryz.prog u = .ok (.int .u8 101) u := fun u => by kernel_rfl
 have c1 : ∀ u : World, (convert 5 9 (.int .u8 101)).run Tryz.prog u = .ok (.string ⟨#[101]⟩) u := fun u => by kernel_rfl
 have k1 : IntKind.i32.wrap 14 = 14 := by decide
 go_enter Tryz.func75, Tryz.ntmps75
 go_wp2_with fail
 go_quiet (fail)
 go_wp2
 go_ret
 exact ⟨rfl, below_drewN (Below.refl _ _) _⟩
set_option maxRecDepth 10000 in
theorem written15 (w : World) : Calls Tryz.prog 75 #[.int .i32 15] w fun e w' => e = .returned (.string (mkS (oneL 15))) ∧ Below w.heap.size w w' := by
 have h0 : ∀ u : World, (Instr.index 9 (.string ⟨#[48, 49, 50, 51, 52, 53, 54, 55, 56, 57, 97, 98, 99, 100, 101, 102]⟩) (.int .i32 0)).run Tryz.prog u = .ok (.int .u8 48) u := fun u => by kernel_rfl
 have c0 : ∀ u : World, (convert 5 9 (.int .u8 48)).run Tryz.prog u = .ok (.string ⟨#[48]⟩) u := fun u => by kernel_rfl
 have k0 : IntKind.i32.wrap 0 = 0 := by decide
 have h1 : ∀ u : World, (Instr.index 9 (.string ⟨#[48, 49, 50, 51, 52, 53, 54, 55, 56, 57, 97, 98, 99, 100, 101, 102]⟩) (.int .i32 15)).run Tryz.prog u = .ok (.int .u8 102) u := fun u => by kernel_rfl
 have c1 : ∀ u : World, (convert 5 9 (.int .u8 102)).run Tryz.prog u = .ok (.string ⟨#[102]⟩) u := fun u => by kernel_rfl
 have k1 : IntKind.i32.wrap 15 = 15 := by decide
 go_enter Tryz.func75, Tryz.ntmps75
 go_wp2_with fail
 go_quiet (fail)
 go_wp2
 go_ret
 exact ⟨rfl, below_drewN (Below.refl _ _) _⟩
set_option maxRecDepth 10000 in
theorem written16 (w : World) : Calls Tryz.prog 75 #[.int .i32 16] w fun e w' => e = .returned (.string (mkS (oneL 16))) ∧ Below w.heap.size w w' := by
 have h0 : ∀ u : World, (Instr.index 9 (.string ⟨#[48, 49, 50, 51, 52, 53, 54, 55, 56, 57, 97, 98, 99, 100, 101, 102]⟩) (.int .i32 0)).run Tryz.prog u = .ok (.int .u8 48) u := fun u => by kernel_rfl
 have c0 : ∀ u : World, (convert 5 9 (.int .u8 48)).run Tryz.prog u = .ok (.string ⟨#[48]⟩) u := fun u => by kernel_rfl
 have k0 : IntKind.i32.wrap 0 = 0 := by decide
 have h1 : ∀ u : World, (Instr.index 9 (.string ⟨#[48, 49, 50, 51, 52, 53, 54, 55, 56, 57, 97, 98, 99, 100, 101, 102]⟩) (.int .i32 1)).run Tryz.prog u = .ok (.int .u8 49) u := fun u => by kernel_rfl
 have c1 : ∀ u : World, (convert 5 9 (.int .u8 49)).run Tryz.prog u = .ok (.string ⟨#[49]⟩) u := fun u => by kernel_rfl
 have k1 : IntKind.i32.wrap 1 = 1 := by decide
 go_enter Tryz.func75, Tryz.ntmps75
 go_wp2_with fail
 go_quiet (fail)
 go_wp2
 go_ret
 exact ⟨rfl, below_drewN (Below.refl _ _) _⟩
set_option maxRecDepth 10000 in
theorem written17 (w : World) : Calls Tryz.prog 75 #[.int .i32 17] w fun e w' => e = .returned (.string (mkS (oneL 17))) ∧ Below w.heap.size w w' := by
 have h0 : ∀ u : World, (Instr.index 9 (.string ⟨#[48, 49, 50, 51, 52, 53, 54, 55, 56, 57, 97, 98, 99, 100, 101, 102]⟩) (.int .i32 1)).run Tryz.prog u = .ok (.int .u8 49) u := fun u => by kernel_rfl
 have c0 : ∀ u : World, (convert 5 9 (.int .u8 49)).run Tryz.prog u = .ok (.string ⟨#[49]⟩) u := fun u => by kernel_rfl
 have k0 : IntKind.i32.wrap 1 = 1 := by decide
 go_enter Tryz.func75, Tryz.ntmps75
 go_wp2_with fail
 go_quiet (fail)
 go_wp2
 go_ret
 exact ⟨rfl, below_drewN (Below.refl _ _) _⟩
set_option maxRecDepth 10000 in
theorem written18 (w : World) : Calls Tryz.prog 75 #[.int .i32 18] w fun e w' => e = .returned (.string (mkS (oneL 18))) ∧ Below w.heap.size w w' := by
 have h0 : ∀ u : World, (Instr.index 9 (.string ⟨#[48, 49, 50, 51, 52, 53, 54, 55, 56, 57, 97, 98, 99, 100, 101, 102]⟩) (.int .i32 1)).run Tryz.prog u = .ok (.int .u8 49) u := fun u => by kernel_rfl
 have c0 : ∀ u : World, (convert 5 9 (.int .u8 49)).run Tryz.prog u = .ok (.string ⟨#[49]⟩) u := fun u => by kernel_rfl
 have k0 : IntKind.i32.wrap 1 = 1 := by decide
 have h1 : ∀ u : World, (Instr.index 9 (.string ⟨#[48, 49, 50, 51, 52, 53, 54, 55, 56, 57, 97, 98, 99, 100, 101, 102]⟩) (.int .i32 2)).run Tryz.prog u = .ok (.int .u8 50) u := fun u => by kernel_rfl
 have c1 : ∀ u : World, (convert 5 9 (.int .u8 50)).run Tryz.prog u = .ok (.string ⟨#[50]⟩) u := fun u => by kernel_rfl
 have k1 : IntKind.i32.wrap 2 = 2 := by decide
 go_enter Tryz.func75, Tryz.ntmps75
 go_wp2_with fail
 go_quiet (fail)
 go_wp2
 go_ret
 exact ⟨rfl, below_drewN (Below.refl _ _) _⟩
set_option maxRecDepth 10000 in
theorem written19 (w : World) : Calls Tryz.prog 75 #[.int .i32 19] w fun e w' => e = .returned (.string (mkS (oneL 19))) ∧ Below w.heap.size w w' := by
 have h0 : ∀ u : World, (Instr.index 9 (.string ⟨#[48, 49, 50, 51, 52, 53, 54, 55, 56, 57, 97, 98, 99, 100, 101, 102]⟩) (.int .i32 1)).run Tryz.prog u = .ok (.int .u8 49) u := fun u => by kernel_rfl
 have c0 : ∀ u : World, (convert 5 9 (.int .u8 49)).run Tryz.prog u = .ok (.string ⟨#[49]⟩) u := fun u => by kernel_rfl
 have k0 : IntKind.i32.wrap 1 = 1 := by decide
 have h1 : ∀ u : World, (Instr.index 9 (.string ⟨#[48, 49, 50, 51, 52, 53, 54, 55, 56, 57, 97, 98, 99, 100, 101, 102]⟩) (.int .i32 3)).run Tryz.prog u = .ok (.int .u8 51) u := fun u => by kernel_rfl
 have c1 : ∀ u : World, (convert 5 9 (.int .u8 51)).run Tryz.prog u = .ok (.string ⟨#[51]⟩) u := fun u => by kernel_rfl
 have k1 : IntKind.i32.wrap 3 = 3 := by decide
 go_enter Tryz.func75, Tryz.ntmps75
 go_wp2_with fail
 go_quiet (fail)
 go_wp2
 go_ret
 exact ⟨rfl, below_drewN (Below.refl _ _) _⟩
set_option maxRecDepth 10000 in
theorem written20 (w : World) : Calls Tryz.prog 75 #[.int .i32 20] w fun e w' => e = .returned (.string (mkS (oneL 20))) ∧ Below w.heap.size w w' := by
 have h0 : ∀ u : World, (Instr.index 9 (.string ⟨#[48, 49, 50, 51, 52, 53, 54, 55, 56, 57, 97, 98, 99, 100, 101, 102]⟩) (.int .i32 1)).run Tryz.prog u = .ok (.int .u8 49) u := fun u => by kernel_rfl
 have c0 : ∀ u : World, (convert 5 9 (.int .u8 49)).run Tryz.prog u = .ok (.string ⟨#[49]⟩) u := fun u => by kernel_rfl
 have k0 : IntKind.i32.wrap 1 = 1 := by decide
 have h1 : ∀ u : World, (Instr.index 9 (.string ⟨#[48, 49, 50, 51, 52, 53, 54, 55, 56, 57, 97, 98, 99, 100, 101, 102]⟩) (.int .i32 4)).run Tryz.prog u = .ok (.int .u8 52) u := fun u => by kernel_rfl
 have c1 : ∀ u : World, (convert 5 9 (.int .u8 52)).run Tryz.prog u = .ok (.string ⟨#[52]⟩) u := fun u => by kernel_rfl
 have k1 : IntKind.i32.wrap 4 = 4 := by decide
 go_enter Tryz.func75, Tryz.ntmps75
 go_wp2_with fail
 go_quiet (fail)
 go_wp2
 go_ret
 exact ⟨rfl, below_drewN (Below.refl _ _) _⟩
set_option maxRecDepth 10000 in
theorem written21 (w : World) : Calls Tryz.prog 75 #[.int .i32 21] w fun e w' => e = .returned (.string (mkS (oneL 21))) ∧ Below w.heap.size w w' := by
 have h0 : ∀ u : World, (Instr.index 9 (.string ⟨#[48, 49, 50, 51, 52, 53, 54, 55, 56, 57, 97, 98, 99, 100, 101, 102]⟩) (.int .i32 1)).run Tryz.prog u = .ok (.int .u8 49) u := fun u => by kernel_rfl
 have c0 : ∀ u : World, (convert 5 9 (.int .u8 49)).run Tryz.prog u = .ok (.string ⟨#[49]⟩) u := fun u => by kernel_rfl
 have k0 : IntKind.i32.wrap 1 = 1 := by decide
 have h1 : ∀ u : World, (Instr.index 9 (.string ⟨#[48, 49, 50, 51, 52, 53, 54, 55, 56, 57, 97, 98, 99, 100, 101, 102]⟩) (.int .i32 5)).run Tryz.prog u = .ok (.int .u8 53) u := fun u => by kernel_rfl
 have c1 : ∀ u : World, (convert 5 9 (.int .u8 53)).run Tryz.prog u = .ok (.string ⟨#[53]⟩) u := fun u => by kernel_rfl
 have k1 : IntKind.i32.wrap 5 = 5 := by decide
 go_enter Tryz.func75, Tryz.ntmps75
 go_wp2_with fail
 go_quiet (fail)
 go_wp2
 go_ret
 exact ⟨rfl, below_drewN (Below.refl _ _) _⟩
set_option maxRecDepth 10000 in
theorem written22 (w : World) : Calls Tryz.prog 75 #[.int .i32 22] w fun e w' => e = .returned (.string (mkS (oneL 22))) ∧ Below w.heap.size w w' := by
 have h0 : ∀ u : World, (Instr.index 9 (.string ⟨#[48, 49, 50, 51, 52, 53, 54, 55, 56, 57, 97, 98, 99, 100, 101, 102]⟩) (.int .i32 1)).run Tryz.prog u = .ok (.int .u8 49) u := fun u => by kernel_rfl
 have c0 : ∀ u : World, (convert 5 9 (.int .u8 49)).run Tryz.prog u = .ok (.string ⟨#[49]⟩) u := fun u => by kernel_rfl
 have k0 : IntKind.i32.wrap 1 = 1 := by decide
 have h1 : ∀ u : World, (Instr.index 9 (.string ⟨#[48, 49, 50, 51, 52, 53, 54, 55, 56, 57, 97, 98, 99, 100, 101, 102]⟩) (.int .i32 6)).run Tryz.prog u = .ok (.int .u8 54) u := fun u => by kernel_rfl
 have c1 : ∀ u : World, (convert 5 9 (.int .u8 54)).run Tryz.prog u = .ok (.string ⟨#[54]⟩) u := fun u => by kernel_rfl
 have k1 : IntKind.i32.wrap 6 = 6 := by decide
 go_enter Tryz.func75, Tryz.ntmps75
 go_wp2_with fail
 go_quiet (fail)
 go_wp2
 go_ret
 exact ⟨rfl, below_drewN (Below.refl _ _) _⟩
set_option maxRecDepth 10000 in
theorem written23 (w : World) : Calls Tryz.prog 75 #[.int .i32 23] w fun e w' => e = .returned (.string (mkS (oneL 23))) ∧ Below w.heap.size w w' := by
 have h0 : ∀ u : World, (Instr.index 9 (.string ⟨#[48, 49, 50, 51, 52, 53, 54, 55, 56, 57, 97, 98, 99, 100, 101, 102]⟩) (.int .i32 1)).run Tryz.prog u = .ok (.int .u8 49) u := fun u => by kernel_rfl
 have c0 : ∀ u : World, (convert 5 9 (.int .u8 49)).run Tryz.prog u = .ok (.string ⟨#[49]⟩) u := fun u => by kernel_rfl
 have k0 : IntKind.i32.wrap 1 = 1 := by decide
 have h1 : ∀ u : World, (Instr.index 9 (.string ⟨#[48, 49, 50, 51, 52, 53, 54, 55, 56, 57, 97, 98, 99, 100, 101, 102]⟩) (.int .i32 7)).run Tryz.prog u = .ok (.int .u8 55) u := fun u => by kernel_rfl
 have c1 : ∀ u : World, (convert 5 9 (.int .u8 55)).run Tryz.prog u = .ok (.string ⟨#[55]⟩) u := fun u => by kernel_rfl
 have k1 : IntKind.i32.wrap 7 = 7 := by decide
 go_enter Tryz.func75, Tryz.ntmps75
 go_wp2_with fail
 go_quiet (fail)
 go_wp2
 go_ret
 exact ⟨rfl, below_drewN (Below.refl _ _) _⟩
set_option maxRecDepth 10000 in
theorem written24 (w : World) : Calls Tryz.prog 75 #[.int .i32 24] w fun e w' => e = .returned (.string (mkS (oneL 24))) ∧ Below w.heap.size w w' := by
 have h0 : ∀ u : World, (Instr.index 9 (.string ⟨#[48, 49, 50, 51, 52, 53, 54, 55, 56, 57, 97, 98, 99, 100, 101, 102]⟩) (.int .i32 1)).run Tryz.prog u = .ok (.int .u8 49) u := fun u => by kernel_rfl
 have c0 : ∀ u : World, (convert 5 9 (.int .u8 49)).run Tryz.prog u = .ok (.string ⟨#[49]⟩) u := fun u => by kernel_rfl
 have k0 : IntKind.i32.wrap 1 = 1 := by decide
 have h1 : ∀ u : World, (Instr.index 9 (.string ⟨#[48, 49, 50, 51, 52, 53, 54, 55, 56, 57, 97, 98, 99, 100, 101, 102]⟩) (.int .i32 8)).run Tryz.prog u = .ok (.int .u8 56) u := fun u => by kernel_rfl
 have c1 : ∀ u : World, (convert 5 9 (.int .u8 56)).run Tryz.prog u = .ok (.string ⟨#[56]⟩) u := fun u => by kernel_rfl
 have k1 : IntKind.i32.wrap 8 = 8 := by decide
 go_enter Tryz.func75, Tryz.ntmps75
 go_wp2_with fail
 go_quiet (fail)
 go_wp2
 go_ret
 exact ⟨rfl, below_drewN (Below.refl _ _) _⟩
set_option maxRecDepth 10000 in
theorem written25 (w : World) : Calls Tryz.prog 75 #[.int .i32 25] w fun e w' => e = .returned (.string (mkS (oneL 25))) ∧ Below w.heap.size w w' := by
 have h0 : ∀ u : World, (Instr.index 9 (.string ⟨#[48, 49, 50, 51, 52, 53, 54, 55, 56, 57, 97, 98, 99, 100, 101, 102]⟩) (.int .i32 1)).run Tryz.prog u = .ok (.int .u8 49) u := fun u => by kernel_rfl
 have c0 : ∀ u : World, (convert 5 9 (.int .u8 49)).run Tryz.prog u = .ok (.string ⟨#[49]⟩) u := fun u => by kernel_rfl
 have k0 : IntKind.i32.wrap 1 = 1 := by decide
 have h1 : ∀ u : World, (Instr.index 9 (.string ⟨#[48, 49, 50, 51, 52, 53, 54, 55, 56, 57, 97, 98, 99, 100, 101, 102]⟩) (.int .i32 9)).run Tryz.prog u = .ok (.int .u8 57) u := fun u => by kernel_rfl
 have c1 : ∀ u : World, (convert 5 9 (.int .u8 57)).run Tryz.prog u = .ok (.string ⟨#[57]⟩) u := fun u => by kernel_rfl
 have k1 : IntKind.i32.wrap 9 = 9 := by decide
 go_enter Tryz.func75, Tryz.ntmps75
 go_wp2_with fail
 go_quiet (fail)
 go_wp2
 go_ret
 exact ⟨rfl, below_drewN (Below.refl _ _) _⟩
set_option maxRecDepth 10000 in
theorem written26 (w : World) : Calls Tryz.prog 75 #[.int .i32 26] w fun e w' => e = .returned (.string (mkS (oneL 26))) ∧ Below w.heap.size w w' := by
 have h0 : ∀ u : World, (Instr.index 9 (.string ⟨#[48, 49, 50, 51, 52, 53, 54, 55, 56, 57, 97, 98, 99, 100, 101, 102]⟩) (.int .i32 1)).run Tryz.prog u = .ok (.int .u8 49) u := fun u => by kernel_rfl
 have c0 : ∀ u : World, (convert 5 9 (.int .u8 49)).run Tryz.prog u = .ok (.string ⟨#[49]⟩) u := fun u => by kernel_rfl
 have k0 : IntKind.i32.wrap 1 = 1 := by decide
 have h1 : ∀ u : World, (Instr.index 9 (.string ⟨#[48, 49, 50, 51, 52, 53, 54, 55, 56, 57, 97, 98, 99, 100, 101, 102]⟩) (.int .i32 10)).run Tryz.prog u = .ok (.int .u8 97) u := fun u => by kernel_rfl
 have c1 : ∀ u : World, (convert 5 9 (.int .u8 97)).run Tryz.prog u = .ok (.string ⟨#[97]⟩) u := fun u => by kernel_rfl
 have k1 : IntKind.i32.wrap 10 = 10 := by decide
 go_enter Tryz.func75, Tryz.ntmps75
 go_wp2_with fail
 go_quiet (fail)
 go_wp2
 go_ret
 exact ⟨rfl, below_drewN (Below.refl _ _) _⟩
set_option maxRecDepth 10000 in
theorem written27 (w : World) : Calls Tryz.prog 75 #[.int .i32 27] w fun e w' => e = .returned (.string (mkS (oneL 27))) ∧ Below w.heap.size w w' := by
 have h0 : ∀ u : World, (Instr.index 9 (.string ⟨#[48, 49, 50, 51, 52, 53, 54, 55, 56, 57, 97, 98, 99, 100, 101, 102]⟩) (.int .i32 1)).run Tryz.prog u = .ok (.int .u8 49) u := fun u => by kernel_rfl
 have c0 : ∀ u : World, (convert 5 9 (.int .u8 49)).run Tryz.prog u = .ok (.string ⟨#[49]⟩) u := fun u => by kernel_rfl
 have k0 : IntKind.i32.wrap 1 = 1 := by decide
 have h1 : ∀ u : World, (Instr.index 9 (.string ⟨#[48, 49, 50, 51, 52, 53, 54, 55, 56, 57, 97, 98, 99, 100, 101, 102]⟩) (.int .i32 11)).run Tryz.prog u = .ok (.int .u8 98) u := fun u => by kernel_rfl
 have c1 : ∀ u : World, (convert 5 9 (.int .u8 98)).run Tryz.prog u = .ok (.string ⟨#[98]⟩) u := fun u => by kernel_rfl
 have k1 : IntKind.i32.wrap 11 = 11 := by decide
 go_enter Tryz.func75, Tryz.ntmps75
 go_wp2_with fail
 go_quiet (fail)
 go_wp2
 go_ret
 exact ⟨rfl, below_drewN (Below.refl _ _) _⟩
set_option maxRecDepth 10000 in
theorem written28 (w : World) : Calls Tryz.prog 75 #[.int .i32 28] w fun e w' => e = .returned (.string (mkS (oneL 28))) ∧ Below w.heap.size w w' := by
 have h0 : ∀ u : World, (Instr.index 9 (.string ⟨#[48, 49, 50, 51, 52, 53, 54, 55, 56, 57, 97, 98, 99, 100, 101, 102]⟩) (.int .i32 1)).run Tryz.prog u = .ok (.int .u8 49) u := fun u => by kernel_rfl
 have c0 : ∀ u : World, (convert 5 9 (.int .u8 49)).run Tryz.prog u = .ok (.string ⟨#[49]⟩) u := fun u => by kernel_rfl
 have k0 : IntKind.i32.wrap 1 = 1 := by decide
 have h1 : ∀ u : World, (Instr.index 9 (.string ⟨#[48, 49, 50, 51, 52, 53, 54, 55, 56, 57, 97, 98, 99, 100, 101, 102]⟩) (.int .i32 12)).run Tryz.prog u = .ok (.int .u8 99) u := fun u => by kernel_rfl
 have c1 : ∀ u : World, (convert 5 9 (.int .u8 99)).run Tryz.prog u = .ok (.string ⟨#[99]⟩) u := fun u => by kernel_rfl
 have k1 : IntKind.i32.wrap 12 = 12 := by decide
 go_enter Tryz.func75, Tryz.ntmps75
 go_wp2_with fail
 go_quiet (fail)
 go_wp2
 go_ret
 exact ⟨rfl, below_drewN (Below.refl _ _) _⟩
set_option maxRecDepth 10000 in
theorem written29 (w : World) : Calls Tryz.prog 75 #[.int .i32 29] w fun e w' => e = .returned (.string (mkS (oneL 29))) ∧ Below w.heap.size w w' := by
 have h0 : ∀ u : World, (Instr.index 9 (.string ⟨#[48, 49, 50, 51, 52, 53, 54, 55, 56, 57, 97, 98, 99, 100, 101, 102]⟩) (.int .i32 1)).run Tryz.prog u = .ok (.int .u8 49) u := fun u => by kernel_rfl
 have c0 : ∀ u : World, (convert 5 9 (.int .u8 49)).run Tryz.prog u = .ok (.string ⟨#[49]⟩) u := fun u => by kernel_rfl
 have k0 : IntKind.i32.wrap 1 = 1 := by decide
 have h1 : ∀ u : World, (Instr.index 9 (.string ⟨#[48, 49, 50, 51, 52, 53, 54, 55, 56, 57, 97, 98, 99, 100, 101, 102]⟩) (.int .i32 13)).run Tryz.prog u = .ok (.int .u8 100) u := fun u => by kernel_rfl
 have c1 : ∀ u : World, (convert 5 9 (.int .u8 100)).run Tryz.prog u = .ok (.string ⟨#[100]⟩) u := fun u => by kernel_rfl
 have k1 : IntKind.i32.wrap 13 = 13 := by decide
 go_enter Tryz.func75, Tryz.ntmps75
 go_wp2_with fail
 go_quiet (fail)
 go_wp2
 go_ret
 exact ⟨rfl, below_drewN (Below.refl _ _) _⟩
set_option maxRecDepth 10000 in
theorem written30 (w : World) : Calls Tryz.prog 75 #[.int .i32 30] w fun e w' => e = .returned (.string (mkS (oneL 30))) ∧ Below w.heap.size w w' := by
 have h0 : ∀ u : World, (Instr.index 9 (.string ⟨#[48, 49, 50, 51, 52, 53, 54, 55, 56, 57, 97, 98, 99, 100, 101, 102]⟩) (.int .i32 1)).run Tryz.prog u = .ok (.int .u8 49) u := fun u => by kernel_rfl
 have c0 : ∀ u : World, (convert 5 9 (.int .u8 49)).run Tryz.prog u = .ok (.string ⟨#[49]⟩) u := fun u => by kernel_rfl
 have k0 : IntKind.i32.wrap 1 = 1 := by decide
 have h1 : ∀ u : World, (Instr.index 9 (.string ⟨#[48, 49, 50, 51, 52, 53, 54, 55, 56, 57, 97, 98, 99, 100, 101, 102]⟩) (.int .i32 14)).run Tryz.prog u = .ok (.int .u8 101) u := fun u => by kernel_rfl
 have c1 : ∀ u : World, (convert 5 9 (.int .u8 101)).run Tryz.prog u = .ok (.string ⟨#[101]⟩) u := fun u => by kernel_rfl
 have k1 : IntKind.i32.wrap 14 = 14 := by decide
 go_enter Tryz.func75, Tryz.ntmps75
 go_wp2_with fail
 go_quiet (fail)
 go_wp2
 go_ret
 exact ⟨rfl, below_drewN (Below.refl _ _) _⟩
set_option maxRecDepth 10000 in
theorem written31 (w : World) : Calls Tryz.prog 75 #[.int .i32 31] w fun e w' => e = .returned (.string (mkS (oneL 31))) ∧ Below w.heap.size w w' := by
 have h0 : ∀ u : World, (Instr.index 9 (.string ⟨#[48, 49, 50, 51, 52, 53, 54, 55, 56, 57, 97, 98, 99, 100, 101, 102]⟩) (.int .i32 1)).run Tryz.prog u = .ok (.int .u8 49) u := fun u => by kernel_rfl
 have c0 : ∀ u : World, (convert 5 9 (.int .u8 49)).run Tryz.prog u = .ok (.string ⟨#[49]⟩) u := fun u => by kernel_rfl
 have k0 : IntKind.i32.wrap 1 = 1 := by decide
 have h1 : ∀ u : World, (Instr.index 9 (.string ⟨#[48, 49, 50, 51, 52, 53, 54, 55, 56, 57, 97, 98, 99, 100, 101, 102]⟩) (.int .i32 15)).run Tryz.prog u = .ok (.int .u8 102) u := fun u => by kernel_rfl
 have c1 : ∀ u : World, (convert 5 9 (.int .u8 102)).run Tryz.prog u = .ok (.string ⟨#[102]⟩) u := fun u => by kernel_rfl
 have k1 : IntKind.i32.wrap 15 = 15 := by decide
 go_enter Tryz.func75, Tryz.ntmps75
 go_wp2_with fail
 go_quiet (fail)
 go_wp2
 go_ret
 exact ⟨rfl, below_drewN (Below.refl _ _) _⟩
theorem written_calls (c : Nat) (h : plB c = false) (w : World) : Calls Tryz.prog 75 #[.int .i32 (c : Int)] w fun e w' => e = .returned (.string (mkS (oneL c))) ∧ Below w.heap.size w w' := by
 unfold plB at h
 simp only [decide_eq_false_iff_not] at h
 have key : c = 0 ∨ c = 1 ∨ c = 2 ∨ c = 3 ∨ c = 4 ∨ c = 5 ∨ c = 6 ∨ c = 7 ∨ c = 8 ∨ c = 9 ∨ c = 10 ∨ c = 11 ∨ c = 12 ∨ c = 13 ∨ c = 14 ∨ c = 15 ∨ c = 16 ∨ c = 17 ∨ c = 18 ∨ c = 19 ∨ c = 20 ∨ c = 21 ∨ c = 22 ∨ c = 23 ∨ c = 24 ∨ c = 25 ∨ c = 26 ∨ c = 27 ∨ c = 28 ∨ c = 29 ∨ c = 30 ∨ c = 31 ∨ c = 34 ∨ c = 92 := by omega
 rcases key with rfl | rfl | rfl | rfl | rfl | rfl | rfl | rfl | rfl | rfl | rfl | rfl | rfl | rfl | rfl | rfl | rfl | rfl | rfl | rfl | rfl | rfl | rfl | rfl | rfl | rfl | rfl | rfl | rfl | rfl | rfl | rfl | rfl | rfl
 ·exact written0 w
 ·exact written1 w
 ·exact written2 w
 ·exact written3 w
 ·exact written4 w
 ·exact written5 w
 ·exact written6 w
 ·exact written7 w
 ·exact written8 w
 ·exact written9 w
 ·exact written10 w
 ·exact written11 w
 ·exact written12 w
 ·exact written13 w
 ·exact written14 w
 ·exact written15 w
 ·exact written16 w
 ·exact written17 w
 ·exact written18 w
 ·exact written19 w
 ·exact written20 w
 ·exact written21 w
 ·exact written22 w
 ·exact written23 w
 ·exact written24 w
 ·exact written25 w
 ·exact written26 w
 ·exact written27 w
 ·exact written28 w
 ·exact written29 w
 ·exact written30 w
 ·exact written31 w
 ·exact written34 w
 ·exact written92 w
theorem oneL_plain {c : Nat} (h : plB c = true) : oneL c = [c] := by
 unfold plB at h
 simp only [decide_eq_true_eq] at h
 unfold oneL
 rw [if_neg (by omega), if_neg (by omega), if_neg (by omega), if_neg (by omega), if_neg (by omega), if_neg (by omega), if_neg (by omega), if_neg (by omega)]
theorem flat_plain : ∀ (k : Nat) (l : List Nat), k ≤ l.length → (∀ i, i < k → plB (lb l i) = true) → l.flatMap oneL = l.take k ++ (l.drop k).flatMap oneL
 | 0, l, _, _ => by simp
 | k + 1, [], h, _ => by simp at h
 | k + 1, x :: t, h, hp => by
  have h1 := flat_plain k t (by simpa using h) (fun i hi => hp (i + 1) (by omega))
  have h0 : plB x = true := hp 0 (by omega)
  rw [List.flatMap_cons, oneL_plain h0, h1]
  rfl
/-- What holds ahead of each round of Escape. -/
def EsR (s r : ByteArray) (o : List Nat) : Prop := (byts s).flatMap oneL = o ++ (byts r).flatMap oneL ∧ o.length + 6 * r.size ≤ 6 * s.size
theorem EsR.plain {s r r' : ByteArray} {o : List Nat} {k : Nat} (h : EsR s r o) (hk : IsPl r k) (hr' : byts r' = (byts r).drop k) : EsR s r' (o ++ (byts r).take k) := by
 obtain ⟨h1, h2⟩ := h
 obtain ⟨k1, k2, -⟩ := hk
 have hl : r'.size = r.size - k := by rw [← byts_length, hr', List.length_drop, byts_length]
 refine ⟨?_, ?_⟩
 ·rw [h1, flat_plain k (byts r) (by rw [byts_length]; exact k1) (fun i hi => by rw [← bAt_lb]; exact k2 i hi), hr', List.append_assoc]
 ·rw [List.length_append, List.length_take, byts_length]
  omega
theorem EsR.one {s r r' : ByteArray} {o : List Nat} {x : Nat} (h : EsR s r o) (hr : 0 < r.size) (hx : bAt r 0 = x) (hr' : byts r' = (byts r).drop 1) : EsR s r' (o ++ oneL x) ∧ r'.size < r.size := by
 obtain ⟨h1, h2⟩ := h
 have hl : r'.size = r.size - 1 := by rw [← byts_length, hr', List.length_drop, byts_length]
 have hxl : x < 256 := by rw [← hx]; exact bAt_lt r 0
 have ho := (oneL_lt hxl).2.2
 refine ⟨⟨?_, ?_⟩, by omega⟩
 ·rw [bAt_lb] at hx
  have hl2 := byts_length r
  cases hb : byts r with
  | nil =>
   rw [hb] at hl2
   simp at hl2
   omega
  | cons y t =>
   rw [hb] at hx hr' h1
   have hy : y = x := hx
   subst hy
   rw [h1, hr', List.flatMap_cons, List.append_assoc]
   rfl
 ·rw [List.length_append]
  omega
def EsIT (s : ByteArray) (m : Nat) (w1 : World) (r : ByteArray) (o : List Nat) (wr : World) : Prop := EsR s r o ∧ BdI wr m (m + 1) (bU o) ∧ m + 1 ≤ wr.heap.size ∧ Below m w1 wr
set_option maxRecDepth 10000 in
set_option maxHeartbeats 4000000 in
theorem esP_calls (s : ByteArray) (hs : s.size ≤ 4294967296) (T : ByteArray) (E : Int) (hU : Hid (wrS s = (T, E))) (w : World) :
  Calls Tryz.prog 49 #[.string s] w fun e w' => e = .returned (.tuple #[.string T, .int .i64 E]) ∧ Below w.heap.size w w' := by
 have hbad := hid (badF_calls s (by omega) w)
 obtain ⟨B, hB⟩ : ∃ B, Hid (badOf s = B) := ⟨_, rfl⟩
 rw [hB.out] at hbad
 have hU2 := hU.out
 unfold wrS at hU2
 rw [hB.out] at hU2
 go_enter Tryz.func49, Tryz.ntmps49
 go_wp2_with fail
 refine Calls.mono hbad.out ?_
 rintro e w1 ⟨rfl, hb1⟩
 have hb1' := hid hb1
 clear hbad hb1 hU
 by_cases hB0 : 0 ≤ B
 ·rw [if_pos hB0] at hU2
  simp only [Prod.mk.injEq] at hU2
  obtain ⟨rfl, rfl⟩ := hU2
  go_wp2
  exact bodyPost_ret (v := .tuple #[.string ⟨#[]⟩, .int .i64 50]) (by simp [results, Tryz.results49, go_sem]; try decide) rfl ⟨rfl, hb1'.out⟩
 ·rw [if_neg hB0] at hU2
  simp only [Prod.mk.injEq] at hU2
  obtain ⟨hT, rfl⟩ := hU2
  have hT' := hid hT
  have hB1 : decide (0 ≤ B) = false := by simp; omega
  clear hB0 hT
  have hI0 := hid (show EsIT s w1.heap.size w1 s [] (w1.alloc (.cells #[.pointer none, .slice none 0 0] 49)) from ⟨⟨by simp, by simp⟩, BdI.fresh15 w1, by rw [World.size_alloc]; exact Nat.le_refl _, (Below.refl _ _).alloc (Nat.le_refl _) _⟩)
  obtain ⟨W0, hW0⟩ : ∃ W, w1.alloc (.cells #[.pointer none, .slice none 0 0] 49) = W := ⟨_, rfl⟩
  obtain ⟨m, hm⟩ : ∃ m, w1.heap.size = m := ⟨_, rfl⟩
  rw [hW0, hm] at hI0
  have hb1s := hb1'.out.size
  rw [hm] at hb1s
  replace hb1s := hid hb1s
  go_wp2
  clear hW0
  replace hm := hid hm
  go_loopw [5, 6] (fun r0 _ wr => ∃ (r : ByteArray) (o : List Nat), r0 = .string r ∧ Hid (EsIT s m w1 r o wr)) (fun r0 _ _ => strSz r0)
  case atStart => exact ⟨s, [], rfl, hI0⟩
  case round =>
   obtain ⟨r, o, rfl, hI⟩ := hrel
   have hrl : r.size ≤ 4294967296 := by have := hI.out.1.2; omega
   have hol : Hid (o.length ≤ 25769803776) := by have := hI.out.1.2; show _ ≤ _; omega
   obtain ⟨k, hk⟩ : ∃ k, Hid (IsPl r k) := pl_ex r
   have hkl : k ≤ r.size := hk.out.1
   have hki : (k : Int) ≤ (r.size : Int) := by omega
   have hpl := hid (fun (u : World) => plainP_calls r (by omega) k hk u)
   obtain ⟨rh, hrh⟩ : ∃ x, r.extract 0 k = x := ⟨_, rfl⟩
   obtain ⟨r1, hr1⟩ : ∃ x, r.extract k r.size = x := ⟨_, rfl⟩
   have hrh' := hid hrh
   have hb1r : Hid (byts r1 = (byts r).drop k) := by show _ = _; rw [← hr1]; exact (byts_from r k).1
   have hr1s : Hid (r1.size = r.size - k) := by show _ = _; rw [← hr1]; exact (byts_from r k).2
   obtain ⟨o1, ho1⟩ : ∃ x, Hid (o ++ (byts r).take k = x) := ⟨_, rfl⟩
   have hR1 : Hid (EsR s r1 o1) := by
    rw [← ho1.out]
    exact EsR.plain hI.out.1 hk.out hb1r.out
   have hrhs : Hid (rh.size ≤ 4294967296) := by
    show _ ≤ _
    rw [← byts_length, ← hrh'.out, byts_extract, List.length_take, List.length_drop, byts_length]
    omega
   have hws := hid (bstr_calls m (m + 1) (bU o) rh (by omega) (by rw [bU_len]; have := hol.out; have := hrhs.out; omega) wr hI.out.2.1 hI.out.2.2.1)
   go_wp2_with fail
   refine Calls.mono (hpl.out _) ?_
   rintro e wq ⟨rfl, hq⟩
   obtain rfl := hq.symm
   clear hq hpl
   go_wp2_with fail
   refine Calls.mono hws.out ?_
   rintro e w2 ⟨rfl, hbd2, hb2⟩
   have hI2 : Hid (EsIT s m w1 r1 o1 w2) := by
    refine ⟨hR1.out, ?_, Nat.le_trans hI.out.2.2.1 hb2.size, hI.out.2.2.2.trans hb2⟩
    rw [← ho1.out, bU_app, ← bU_head, hrh'.out]
    exact hbd2
   clear hbd2 hb2 hws hrh hrh' hrhs
   by_cases hz : r1.size = 0
   ·have hun : Hid (T = mkS o1) := by
     have h2 := hI2.out.1.1
     rw [none_from hz] at h2
     rw [show byts ⟨#[]⟩ = [] from rfl, List.flatMap_nil, List.append_nil] at h2
     show _ = _
     rw [← hT'.out, h2]
    obtain rfl := hun.out
    have hst := hid (bstring_calls m (m + 1) m (bU o1) w2 hI2.out.2.1 (by omega) hI2.out.2.2.1)
    rw [bU_mk] at hst
    have hr0 := none_from hz
    subst hr0
    clear hz hun
    go_wp2_with fail
    refine Calls.mono hst.out ?_
    rintro e w3 ⟨rfl, hb3, -⟩
    have hfin : Hid (Below w.heap.size w w3) := hb1'.out.trans ((hI2.out.2.2.2.trans hb3).mono hb1s.out)
    clear hst hb3
    go_wp2
    exact bodyPost_ret (v := .tuple #[.string (mkS o1), .int .i64 0]) (by simp [results, Tryz.results49, go_sem]; try decide) rfl ⟨rfl, hfin.out⟩
   ·have hne := some_from hz
    have hr1l : r1.size ≤ 4294967296 := by have := hr1s.out; omega
    have hr10 : 0 < r1.size := by omega
    have hr1i : (0 : Int) < (r1.size : Int) := by omega
    have hr1j : (1 : Int) ≤ (r1.size : Int) := by omega
    have hx := bAt_at r1 0 hr10
    obtain ⟨x, hX⟩ : ∃ x, Hid (bAt r1 0 = x) := ⟨_, rfl⟩
    rw [hX.out] at hx
    have hxl : x < 256 := by rw [← hX.out]; exact bAt_lt r1 0
    have hnp : plB x = false := by
     rw [← hX.out, bAt_lb, hb1r.out, lb_drop]
     dsimp only
     rw [Nat.add_zero, ← bAt_lb]
     exact hk.out.2.2 (by have := hr1s.out; omega)
    have hwr := hid (fun (u : World) => written_calls x hnp u)
    obtain ⟨O, hO⟩ : ∃ O, Hid (mkS (oneL x) = O) := ⟨_, rfl⟩
    rw [hO.out] at hwr
    have hOs : Hid (O.size ≤ 6) := by show _ ≤ _; rw [← hO.out, mkS_size]; exact (oneL_lt hxl).2.2
    have hOd : Hid (O.data.toList = bU (oneL x)) := by
     show _ = _
     rw [← hO.out]
     rfl
    have ho1l : Hid (o1.length ≤ 25769803776) := by have := hI2.out.1.2; show _ ≤ _; omega
    obtain ⟨r3, hr3⟩ : ∃ x, r1.extract 1 r1.size = x := ⟨_, rfl⟩
    have hR3 : Hid (EsR s r3 (o1 ++ oneL x) ∧ r3.size < r1.size) := EsR.one hI2.out.1 hr10 hX.out (by rw [← hr3]; exact (byts_from r1 1).1)
    clear hnp hz
    go_wp2_with fail
    refine Calls.mono (hwr.out _) ?_
    rintro e w3 ⟨rfl, hb3⟩
    have hsz3 : Hid (m + 1 ≤ w3.heap.size) := Nat.le_trans hI2.out.2.2.1 hb3.size
    have hbd3 : Hid (BdI w3 m (m + 1) (bU o1)) := by
     obtain ⟨p, v, h1, h2, h3⟩ := hI2.out.2.1
     exact ⟨p, v, h1.keptAll hb3, h2, rowT_kept h3 hb3⟩
    have hbw3 : Hid (Below m w1 w3) := hI2.out.2.2.2.trans (hb3.mono (by have := hI2.out.2.2.1; omega))
    clear hb3 hwr
    have hws2 := hid (bstr_calls m (m + 1) (bU o1) O (by omega) (by rw [bU_len]; have := ho1l.out; have := hOs.out; omega) w3 hbd3.out hsz3.out)
    go_wp2_with fail
    refine Calls.mono hws2.out ?_
    rintro e w4 ⟨rfl, hbd4, hb4⟩
    have hI3 : Hid (EsIT s m w1 r3 (o1 ++ oneL x) w4) := by
     refine ⟨hR3.out.1, ?_, Nat.le_trans hsz3.out hb4.size, hbw3.out.trans hb4⟩
     rw [bU_app, ← hOd.out]
     exact hbd4
    clear hbd4 hb4 hws2
    go_wp2
    go_roundw
    case rel => exact ⟨r3, _, rfl, hI3⟩
    case measure => simp [strSz]; have := hR3.out.2; have := hr1s.out; omega
end Go.Proofs.YtlhbgfhmcjaabaaGreatDoor
