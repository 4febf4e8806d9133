/-
 The reference's compact text (by gen_rwa.py).
-/
import Derived.Test.YtlhbgfhmcjaabaaGreatDoorWrG
import Derived.Laws.Concat
namespace Go.Proofs.YtlhbgfhmcjaabaaGreatDoor
open Go.RowKit Go.Shelf
def mkB (l : List UInt8) : ByteArray := ⟨l.toArray⟩
theorem mkB_size (l : List UInt8) : (mkB l).size = l.length := by show l.toArray.size = _; simp
theorem mkB_app (a b : List UInt8) : mkB a ++ mkB b = mkB (a ++ b) := by apply ByteArray.ext; simp [mkB]
theorem mkB_data (s : ByteArray) : mkB s.data.toList = s := by apply ByteArray.ext; simp [mkB]
theorem mkB_add {a b c : List UInt8} (h : a ++ b = c) (hn : c.length ≤ 140737488355328) (u : World) : (Op.stringOp .add (mkB a) (mkB b)).run Tryz.prog u = .ok (.string (mkB c)) u := by
 subst h
 rw [run_string_add_sum u (mkB a) (mkB b) (by rw [mkB_size, mkB_size]; rw [List.length_append] at hn; omega), mkB_app]
theorem wrS_len (s : ByteArray) : (wrS s).1.size ≤ 6 * s.size := by
 unfold wrS
 split
 ·exact Nat.zero_le _
 ·have h := wrI_len s s.size
  unfold wrI at h
  rw [show (byts s).take s.size = byts s by rw [← byts_length s]; exact List.take_length] at h
  exact h
theorem quoL_len (s : ByteArray) (hs : s.size ≤ 4294967296) : (quoL s).length ≤ 25769803778 := by
 have := wrS_len s
 unfold quoL
 simp only [List.cons_append, List.length_cons, List.length_append, List.length_nil, Array.length_toList]
 have h2 : (wrS s).1.data.size = (wrS s).1.size := rfl
 omega
set_option maxRecDepth 10000 in
set_option maxHeartbeats 8000000 in
theorem quo18_calls (s : ByteArray) (hs : s.size ≤ 4294967296) (w : World) : Calls Tryz.prog 43 #[.string s] w fun e w' => e = .returned (.string (mkB (quoL s))) ∧ Below w.heap.size w w' := by
 have hes := hid (refEs_calls s hs (wrS s).1 (wrS s).2 (hid rfl) w)
 have hl := quoL_len s hs
 have h1 : ∀ u : World, (Op.stringOp .add ⟨#[34]⟩ (wrS s).1).run Tryz.prog u = .ok (.string (mkB (34 :: (wrS s).1.data.toList))) u := fun u => by
  have := mkB_add (a := [34]) (b := (wrS s).1.data.toList) (c := 34 :: (wrS s).1.data.toList) rfl (by unfold quoL at hl; simp at hl ⊢; omega) u
  rw [mkB_data] at this
  exact this
 have h2 : ∀ u : World, (Op.stringOp .add (mkB (34 :: (wrS s).1.data.toList)) ⟨#[34]⟩).run Tryz.prog u = .ok (.string (mkB (quoL s))) u := fun u => mkB_add (a := 34 :: (wrS s).1.data.toList) (b := [34]) (c := quoL s) rfl (by omega) u
 generalize (wrS s).2 = E at *
 generalize hX : (wrS s).1 = X at *
 generalize mkB (34 :: X.data.toList) = Y at *
 generalize mkB (quoL s) = Z at *
 clear hl hs hX
 go_enter Tryz.func43, Tryz.ntmps43
 go_wp2_with fail
 refine Calls.mono hes.out ?_
 rintro e w1 ⟨rfl, hb⟩
 have hb' := hid hb
 clear hb hes
 go_wp2
 go_ret
 exact ⟨rfl, hb'.out⟩
set_option maxRecDepth 10000 in
set_option maxHeartbeats 8000000 in
theorem word18_1 (b : Bool) (r t : ByteArray) (ko vo : Option Addr) (N kc M vc : Nat) (w : World) :
  Calls Tryz.prog 41 #[.agg #[.int .i64 1, .bool b, .string r, .string t, .slice ko N kc, .slice vo M vc]] w fun e w' => e = .returned (.string ⟨#[110, 117, 108, 108]⟩) ∧ Below w.heap.size w w' := by
 have A0 := hid (At.new w #[.int .i64 1, .bool b, .string r, .string t, .slice ko N kc, .slice vo M vc] 25)
 have B0 := hid (show Below w.heap.size w (w.alloc (.cells #[.int .i64 1, .bool b, .string r, .string t, .slice ko N kc, .slice vo M vc] 25)) from (Below.refl _ _).alloc (Nat.le_refl _) _)
 obtain ⟨p, hp⟩ : ∃ p, w.heap.size = p := ⟨_, rfl⟩
 rw [hp] at A0
 go_enter Tryz.func41, Tryz.ntmps41
 go_upto_region 1 with fail
 generalize w.alloc (.cells #[.int .i64 1, .bool b, .string r, .string t, .slice ko N kc, .slice vo M vc] 25) = W at A0 B0 ⊢
 have d0 := A0.out.cell 0
 have d1 := A0.out.cell 1
 have d2 := A0.out.cell 2
 have d3 := A0.out.cell 3
 have d4 := A0.out.cell 4
 have d5 := A0.out.cell 5
 simp only [List.getElem?_toArray, List.getElem?_cons_zero, List.getElem?_cons_succ] at d0 d1 d2 d3 d4 d5
 have hB := hid B0.out
 clear B0
 go_wp2
 go_ret
 exact ⟨rfl, hB.out⟩
set_option maxRecDepth 10000 in
set_option maxHeartbeats 8000000 in
theorem word18_t (r t : ByteArray) (ko vo : Option Addr) (N kc M vc : Nat) (w : World) :
  Calls Tryz.prog 41 #[.agg #[.int .i64 2, .bool true, .string r, .string t, .slice ko N kc, .slice vo M vc]] w fun e w' => e = .returned (.string ⟨#[116, 114, 117, 101]⟩) ∧ Below w.heap.size w w' := by
 have A0 := hid (At.new w #[.int .i64 2, .bool true, .string r, .string t, .slice ko N kc, .slice vo M vc] 25)
 have B0 := hid (show Below w.heap.size w (w.alloc (.cells #[.int .i64 2, .bool true, .string r, .string t, .slice ko N kc, .slice vo M vc] 25)) from (Below.refl _ _).alloc (Nat.le_refl _) _)
 obtain ⟨p, hp⟩ : ∃ p, w.heap.size = p := ⟨_, rfl⟩
 rw [hp] at A0
 go_enter Tryz.func41, Tryz.ntmps41
 go_upto_region 1 with fail
 generalize w.alloc (.cells #[.int .i64 2, .bool true, .string r, .string t, .slice ko N kc, .slice vo M vc] 25) = W at A0 B0 ⊢
 have d0 := A0.out.cell 0
 have d1 := A0.out.cell 1
 have d2 := A0.out.cell 2
 have d3 := A0.out.cell 3
 have d4 := A0.out.cell 4
 have d5 := A0.out.cell 5
 simp only [List.getElem?_toArray, List.getElem?_cons_zero, List.getElem?_cons_succ] at d0 d1 d2 d3 d4 d5
 have hB := hid B0.out
 clear B0
 go_wp2
 go_ret
 exact ⟨rfl, hB.out⟩
set_option maxRecDepth 10000 in
set_option maxHeartbeats 8000000 in
theorem word18_f (r t : ByteArray) (ko vo : Option Addr) (N kc M vc : Nat) (w : World) :
  Calls Tryz.prog 41 #[.agg #[.int .i64 2, .bool false, .string r, .string t, .slice ko N kc, .slice vo M vc]] w fun e w' => e = .returned (.string ⟨#[102, 97, 108, 115, 101]⟩) ∧ Below w.heap.size w w' := by
 have A0 := hid (At.new w #[.int .i64 2, .bool false, .string r, .string t, .slice ko N kc, .slice vo M vc] 25)
 have B0 := hid (show Below w.heap.size w (w.alloc (.cells #[.int .i64 2, .bool false, .string r, .string t, .slice ko N kc, .slice vo M vc] 25)) from (Below.refl _ _).alloc (Nat.le_refl _) _)
 obtain ⟨p, hp⟩ : ∃ p, w.heap.size = p := ⟨_, rfl⟩
 rw [hp] at A0
 go_enter Tryz.func41, Tryz.ntmps41
 go_upto_region 1 with fail
 generalize w.alloc (.cells #[.int .i64 2, .bool false, .string r, .string t, .slice ko N kc, .slice vo M vc] 25) = W at A0 B0 ⊢
 have d0 := A0.out.cell 0
 have d1 := A0.out.cell 1
 have d2 := A0.out.cell 2
 have d3 := A0.out.cell 3
 have d4 := A0.out.cell 4
 have d5 := A0.out.cell 5
 simp only [List.getElem?_toArray, List.getElem?_cons_zero, List.getElem?_cons_succ] at d0 d1 d2 d3 d4 d5
 have hB := hid B0.out
 clear B0
 go_wp2
 go_ret
 exact ⟨rfl, hB.out⟩
set_option maxRecDepth 10000 in
set_option maxHeartbeats 8000000 in
theorem word18_3 (b : Bool) (r t : ByteArray) (ko vo : Option Addr) (N kc M vc : Nat) (w : World) :
  Calls Tryz.prog 41 #[.agg #[.int .i64 3, .bool b, .string r, .string t, .slice ko N kc, .slice vo M vc]] w fun e w' => e = .returned (.string r) ∧ Below w.heap.size w w' := by
 have A0 := hid (At.new w #[.int .i64 3, .bool b, .string r, .string t, .slice ko N kc, .slice vo M vc] 25)
 have B0 := hid (show Below w.heap.size w (w.alloc (.cells #[.int .i64 3, .bool b, .string r, .string t, .slice ko N kc, .slice vo M vc] 25)) from (Below.refl _ _).alloc (Nat.le_refl _) _)
 obtain ⟨p, hp⟩ : ∃ p, w.heap.size = p := ⟨_, rfl⟩
 rw [hp] at A0
 go_enter Tryz.func41, Tryz.ntmps41
 go_upto_region 1 with fail
 generalize w.alloc (.cells #[.int .i64 3, .bool b, .string r, .string t, .slice ko N kc, .slice vo M vc] 25) = W at A0 B0 ⊢
 have d0 := A0.out.cell 0
 have d1 := A0.out.cell 1
 have d2 := A0.out.cell 2
 have d3 := A0.out.cell 3
 have d4 := A0.out.cell 4
 have d5 := A0.out.cell 5
 simp only [List.getElem?_toArray, List.getElem?_cons_zero, List.getElem?_cons_succ] at d0 d1 d2 d3 d4 d5
 have hB := hid B0.out
 clear B0
 go_wp2
 go_ret
 exact ⟨rfl, hB.out⟩
set_option maxRecDepth 10000 in
set_option maxHeartbeats 8000000 in
theorem word18_4 (b : Bool) (r t : ByteArray) (ko vo : Option Addr) (N kc M vc : Nat) (ht : t.size ≤ 4294967296) (w : World) :
  Calls Tryz.prog 41 #[.agg #[.int .i64 4, .bool b, .string r, .string t, .slice ko N kc, .slice vo M vc]] w fun e w' => e = .returned (.string (mkB (quoL t))) ∧ Below w.heap.size w w' := by
 have hq := hid (fun u => quo18_calls t ht u)
 have A0 := hid (At.new w #[.int .i64 4, .bool b, .string r, .string t, .slice ko N kc, .slice vo M vc] 25)
 have B0 := hid (show Below w.heap.size w (w.alloc (.cells #[.int .i64 4, .bool b, .string r, .string t, .slice ko N kc, .slice vo M vc] 25)) from (Below.refl _ _).alloc (Nat.le_refl _) _)
 obtain ⟨p, hp⟩ : ∃ p, w.heap.size = p := ⟨_, rfl⟩
 rw [hp] at A0
 go_enter Tryz.func41, Tryz.ntmps41
 go_upto_region 1 with fail
 generalize w.alloc (.cells #[.int .i64 4, .bool b, .string r, .string t, .slice ko N kc, .slice vo M vc] 25) = W at A0 B0 ⊢
 have d0 := A0.out.cell 0
 have d1 := A0.out.cell 1
 have d2 := A0.out.cell 2
 have d3 := A0.out.cell 3
 have d4 := A0.out.cell 4
 have d5 := A0.out.cell 5
 simp only [List.getElem?_toArray, List.getElem?_cons_zero, List.getElem?_cons_succ] at d0 d1 d2 d3 d4 d5
 go_wp2_with (go_at_call 43; refine Calls.mono (hq.out W) ?_; rintro e w1 ⟨rfl, hb⟩; have B1 := hid (B0.out.trans (hb.mono B0.out.size)); clear hb hq B0)
 go_ret
 exact ⟨rfl, B1.out⟩
set_option maxRecDepth 10000 in
set_option maxHeartbeats 8000000 in
theorem ends18_5 (b : Bool) (r t : ByteArray) (ko vo : Option Addr) (N kc M vc : Nat) (w : World) :
  Calls Tryz.prog 42 #[.agg #[.int .i64 5, .bool b, .string r, .string t, .slice ko N kc, .slice vo M vc]] w fun e w' => e = .returned (.tuple #[.string ⟨#[91]⟩, .string ⟨#[93]⟩]) ∧ Below w.heap.size w w' := by
 have A0 := hid (At.new w #[.int .i64 5, .bool b, .string r, .string t, .slice ko N kc, .slice vo M vc] 25)
 have B0 := hid (show Below w.heap.size w (w.alloc (.cells #[.int .i64 5, .bool b, .string r, .string t, .slice ko N kc, .slice vo M vc] 25)) from (Below.refl _ _).alloc (Nat.le_refl _) _)
 obtain ⟨p, hp⟩ : ∃ p, w.heap.size = p := ⟨_, rfl⟩
 rw [hp] at A0
 go_enter Tryz.func42, Tryz.ntmps42
 go_upto_region 1 with fail
 generalize w.alloc (.cells #[.int .i64 5, .bool b, .string r, .string t, .slice ko N kc, .slice vo M vc] 25) = W at A0 B0 ⊢
 have hB := hid B0.out
 clear B0
 have d0 := A0.out.cell 0
 have d1 := A0.out.cell 1
 have d2 := A0.out.cell 2
 have d3 := A0.out.cell 3
 have d4 := A0.out.cell 4
 have d5 := A0.out.cell 5
 simp only [List.getElem?_toArray, List.getElem?_cons_zero, List.getElem?_cons_succ] at d0 d1 d2 d3 d4 d5
 go_wp2
 refine bodyPost_ret (v := .tuple #[.string ⟨#[91]⟩, .string ⟨#[93]⟩]) (by simp [results, Tryz.results42, go_sem]) rfl ⟨rfl, hB.out⟩
set_option maxRecDepth 10000 in
set_option maxHeartbeats 8000000 in
theorem ends18_6 (b : Bool) (r t : ByteArray) (ko vo : Option Addr) (N kc M vc : Nat) (w : World) :
  Calls Tryz.prog 42 #[.agg #[.int .i64 6, .bool b, .string r, .string t, .slice ko N kc, .slice vo M vc]] w fun e w' => e = .returned (.tuple #[.string ⟨#[123]⟩, .string ⟨#[125]⟩]) ∧ Below w.heap.size w w' := by
 have A0 := hid (At.new w #[.int .i64 6, .bool b, .string r, .string t, .slice ko N kc, .slice vo M vc] 25)
 have B0 := hid (show Below w.heap.size w (w.alloc (.cells #[.int .i64 6, .bool b, .string r, .string t, .slice ko N kc, .slice vo M vc] 25)) from (Below.refl _ _).alloc (Nat.le_refl _) _)
 obtain ⟨p, hp⟩ : ∃ p, w.heap.size = p := ⟨_, rfl⟩
 rw [hp] at A0
 go_enter Tryz.func42, Tryz.ntmps42
 go_upto_region 1 with fail
 generalize w.alloc (.cells #[.int .i64 6, .bool b, .string r, .string t, .slice ko N kc, .slice vo M vc] 25) = W at A0 B0 ⊢
 have hB := hid B0.out
 clear B0
 have d0 := A0.out.cell 0
 have d1 := A0.out.cell 1
 have d2 := A0.out.cell 2
 have d3 := A0.out.cell 3
 have d4 := A0.out.cell 4
 have d5 := A0.out.cell 5
 simp only [List.getElem?_toArray, List.getElem?_cons_zero, List.getElem?_cons_succ] at d0 d1 d2 d3 d4 d5
 go_wp2
 refine bodyPost_ret (v := .tuple #[.string ⟨#[123]⟩, .string ⟨#[125]⟩]) (by simp [results, Tryz.results42, go_sem]) rfl ⟨rfl, hB.out⟩
end Go.Proofs.YtlhbgfhmcjaabaaGreatDoor
