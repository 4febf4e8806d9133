/-
 What texts.Unescape answers.
-/
import Derived.Test.YtkejlejhnnjdkaaGreatDoorTxPB
import Derived.Test.YtkejlejhnnjdkaaGreatDoorPack6
namespace Go.Proofs.YtkejlejhnnjdkaaGreatDoor
open Go.RowKit Go.Shelf
theorem BdI.fresh15 (w : World) : BdI (w.alloc (.cells #[.pointer none, .slice none 0 0] 132)) w.heap.size (w.heap.size + 1) [] := ⟨_, _, At.new w _ _, .inl rfl, World.ownsRow_nil _ _ _ _⟩
/-- Numbers as bytes. -/
def bU (o : List Nat) : List UInt8 := o.map UInt8.ofNat
theorem bU_app (a b : List Nat) : bU (a ++ b) = bU a ++ bU b := List.map_append
theorem bU_len (a : List Nat) : (bU a).length = a.length := List.length_map _
theorem bU_mk (o : List Nat) : (⟨(bU o).toArray⟩ : ByteArray) = mkS o := rfl
theorem bU_byts (r : ByteArray) : bU (byts r) = r.data.toList := by
 unfold bU byts
 rw [List.map_map]
 have : (UInt8.ofNat ∘ UInt8.toNat) = id := by
  funext x
  simp
 rw [this, List.map_id]
theorem bU_head (r : ByteArray) (k : Nat) : (r.extract 0 k).data.toList = bU ((byts r).take k) := by
 rw [← bU_byts, byts_extract]
 simp
theorem none_from {r : ByteArray} (h : r.size = 0) : r = ⟨#[]⟩ := byts_inj (List.eq_nil_of_length_eq_zero (by rw [byts_length]; exact h))
theorem some_from {r : ByteArray} (h : r.size ≠ 0) : (r.toList == []) = false := by
 rw [beq_eq_false_iff_ne]
 intro e
 apply h
 have h2 : r.data.toList = [] := by rw [← Lib.toList_data, e]
 rw [← byts_length, byts, h2]
 rfl
/-- What holds ahead of each round. -/
def UnI (s : ByteArray) (m : Nat) (w1 : World) (r : ByteArray) (o : List Nat) (wr : World) : Prop := UnR s r o ∧ BdI wr m (m + 1) (bU o) ∧ m + 1 ≤ wr.heap.size ∧ Below m w1 wr
set_option maxRecDepth 10000 in
set_option maxHeartbeats 4000000 in
theorem unP_big (s : ByteArray) (hs : s.size ≤ 4611686018427387904) (hL : Hid (∀ r o, UnR s r o → o.length ≤ 140737488351232)) (T : ByteArray) (E : Int) (hU : Hid (unS s = (T, E))) (w : World) :
  Calls Tryz.prog 74 #[.string s] w fun e w' => e = .returned (.tuple #[.string T, .int .i64 E]) ∧ Below w.heap.size w w' := by
 have hbad := hid (badF_calls s (by omega) w)
 obtain ⟨B, hB⟩ : ∃ B, Hid (badOf s = B) := ⟨_, rfl⟩
 rw [hB.out] at hbad
 go_enter Tryz.func74, Tryz.ntmps74
 go_wp2_with fail
 refine Calls.mono hbad.out ?_
 rintro e w1 ⟨rfl, hb1⟩
 have hb1' := hid hb1
 clear hbad hb1
 by_cases hB0 : 0 ≤ B
 ·have hT : Hid (T = ⟨#[]⟩ ∧ E = 50) := by
   have h := hU.out
   unfold unS at h
   rw [hB.out, if_pos hB0] at h
   simp only [Prod.mk.injEq] at h
   exact ⟨h.1.symm, h.2.symm⟩
  obtain ⟨rfl, rfl⟩ := hT.out
  clear hT hU
  go_wp2
  exact bodyPost_ret (v := .tuple #[.string ⟨#[]⟩, .int .i64 50]) (by simp [results, Tryz.results74, go_sem]; try decide) rfl ⟨rfl, hb1'.out⟩
 ·have hB1 : decide (0 ≤ B) = false := by simp; omega
  have hUn : Hid ((match unescL (byts s) with | none => (⟨#[]⟩, 150) | some o => (mkS o, 0)) = (T, E)) := by
   have h := hU.out
   unfold unS at h
   rw [hB.out, if_neg hB0] at h
   exact h
  clear hB0 hU
  have hI0 := hid (show UnI s w1.heap.size w1 s [] (w1.alloc (.cells #[.pointer none, .slice none 0 0] 132)) from ⟨⟨by simp, by simp, by simp⟩, BdI.fresh15 w1, by rw [World.size_alloc]; exact Nat.le_refl _, (Below.refl _ _).alloc (Nat.le_refl _) _⟩)
  obtain ⟨W0, hW0⟩ : ∃ W, w1.alloc (.cells #[.pointer none, .slice none 0 0] 132) = W := ⟨_, rfl⟩
  obtain ⟨m, hm⟩ : ∃ m, w1.heap.size = m := ⟨_, rfl⟩
  rw [hW0, hm] at hI0
  have hb1s := hb1'.out.size
  rw [hm] at hb1s
  replace hb1s := hid hb1s
  go_wp2
  clear hW0
  replace hm := hid hm
  go_loopw [5, 6, 7] (fun r0 _ _ wr => ∃ (r : ByteArray) (o : List Nat), r0 = .string r ∧ Hid (UnI s m w1 r o wr)) (fun r0 _ _ _ => strSz r0)
  case atStart => exact ⟨s, [], rfl, hI0⟩
  case round =>
   obtain ⟨r, o, rfl, hI⟩ := hrel
   have hrl : r.size ≤ 4611686018427387904 := by have := hI.out.1.2.2; omega
   obtain ⟨k, hk⟩ : ∃ k, Hid (IsPl r k) := pl_ex r
   have hkl : k ≤ r.size := hk.out.1
   have hki : (k : Int) ≤ (r.size : Int) := by omega
   have hpl := hid (fun (u : World) => plainP_calls r (by omega) k hk u)
   obtain ⟨rh, hrh⟩ : ∃ x, r.extract 0 k = x := ⟨_, rfl⟩
   obtain ⟨r1, hr1⟩ : ∃ x, r.extract k r.size = x := ⟨_, rfl⟩
   have hrh' := hid hrh
   have hb1r : Hid (byts r1 = (byts r).drop k) := by show _ = _; rw [← hr1]; exact (byts_from r k).1
   have hr1s : Hid (r1.size = r.size - k) := by show _ = _; rw [← hr1]; exact (byts_from r k).2
   obtain ⟨o1, ho1⟩ : ∃ x, Hid (o ++ (byts r).take k = x) := ⟨_, rfl⟩
   have hR1 : Hid (UnR s r1 o1) := by
    rw [← ho1.out]
    exact UnR.plain k hI.out.1 hkl hk.out.2.1 hb1r.out
   have hrhs : Hid ((bU o).length + rh.size ≤ 140737488355328) := by
    have h1 := hL.out _ _ hR1.out
    rw [← ho1.out, List.length_append, List.length_take, byts_length] at h1
    show _ ≤ _
    rw [bU_len, ← byts_length rh, ← hrh'.out, byts_extract, List.length_take, List.length_drop, byts_length]
    omega
   have hws := hid (bstr_calls m (m + 1) (bU o) rh (by omega) hrhs.out wr hI.out.2.1 hI.out.2.2.1)
   go_wp2_with fail
   refine Calls.mono (hpl.out _) ?_
   rintro e wq ⟨rfl, hq⟩
   obtain rfl := hq.symm
   clear hq hpl
   go_wp2_with fail
   refine Calls.mono hws.out ?_
   rintro e w2 ⟨rfl, hbd2, hb2⟩
   have hI2 : Hid (UnI s m w1 r1 o1 w2) := by
    refine ⟨hR1.out, ?_, Nat.le_trans hI.out.2.2.1 hb2.size, hI.out.2.2.2.trans hb2⟩
    rw [← ho1.out, bU_app, ← bU_head, hrh'.out]
    exact hbd2
   clear hbd2 hb2 hws hrh hrh' hrhs
   by_cases hz : r1.size = 0
   ·have hun : Hid (T = mkS o1 ∧ E = 0) := by
     have h := hUn.out
     have h2 := hI2.out.1.1
     rw [none_from hz] at h2
     rw [h2, show byts ⟨#[]⟩ = [] from rfl, unescL_nil] at h
     simp only [Option.map_some, List.append_nil, Prod.mk.injEq] at h
     exact ⟨h.1.symm, h.2.symm⟩
    obtain ⟨rfl, rfl⟩ := hun.out
    have hst := hid (bstring_calls m (m + 1) m (bU o1) w2 hI2.out.2.1 (by omega) hI2.out.2.2.1)
    rw [bU_mk] at hst
    have hr0 := none_from hz
    subst hr0
    clear hz hun
    go_wp2_with fail
    refine Calls.mono hst.out ?_
    rintro e w3 ⟨rfl, hb3, -⟩
    have hfin : Hid (Below w.heap.size w w3) := hb1'.out.trans ((hI2.out.2.2.2.trans hb3).mono hb1s.out)
    clear hst hb3
    go_wp2
    exact bodyPost_ret (v := .tuple #[.string (mkS o1), .int .i64 0]) (by simp [results, Tryz.results74, go_sem]; try decide) rfl ⟨rfl, hfin.out⟩
   ·have hne := some_from hz
    have hr1l : r1.size ≤ 4611686018427387904 := by have := hr1s.out; omega
    obtain ⟨M, Z, hM⟩ : ∃ M Z, Hid (meanL (byts r1) = (M, Z)) := ⟨_, _, rfl⟩
    have hme := hid (fun (u : World) => meanP_calls r1 (by omega) M Z hM u)
    have hml := mean_lt (byts_lt r1)
    rw [hM.out, byts_length] at hml
    dsimp only at hml
    have hMl : Hid (M < 1114112 ∧ ¬ (55296 ≤ M ∧ M ≤ 57343)) := ⟨hml.1, hml.2.1⟩
    have hMi : (M : Int) < 1114112 := by omega
    have hZl : Z ≤ r1.size := hml.2.2
    have hZi : (Z : Int) ≤ (r1.size : Int) := by omega
    have hnp : plB (lb (byts r1) 0) = false := by
     rw [hb1r.out, lb_drop]
     dsimp only
     rw [Nat.add_zero, ← bAt_lb]
     exact hk.out.2.2 (by have := hr1s.out; omega)
    have hst := hid (step_mean hnp)
    rw [hM.out] at hst
    dsimp only at hst
    have hnl : Hid (byts r1 ≠ []) := fun e => hz (by rw [← byts_length, e]; rfl)
    clear hml hnp
    go_wp2_with fail
    refine Calls.mono (hme.out _) ?_
    rintro e wq ⟨rfl, hq⟩
    obtain rfl := hq.symm
    clear hq hme
    by_cases hZ0 : Z = 0
    ·subst hZ0
     have hun : Hid (T = ⟨#[]⟩ ∧ E = 150) := by
      have h := hUn.out
      have h2 := hI2.out.1.1
      have h3 := hst.out
      rw [if_pos rfl] at h3
      rw [unescL_none hnl.out h3] at h2
      rw [h2] at h
      simp only [Option.map_none, Prod.mk.injEq] at h
      exact ⟨h.1.symm, h.2.symm⟩
     obtain ⟨rfl, rfl⟩ := hun.out
     have hfin : Hid (Below w.heap.size w w2) := hb1'.out.trans (hI2.out.2.2.2.mono hb1s.out)
     clear hun
     go_wp2
     exact bodyPost_ret (v := .tuple #[.string ⟨#[]⟩, .int .i64 150]) (by simp [results, Tryz.results74, go_sem]; try decide) rfl ⟨rfl, hfin.out⟩
    ·have hZ1 : ((Z : Int) == 0) = false := by simp; omega
     have ho1l : Hid (o1.length ≤ 140737488351232) := hL.out _ _ hI2.out.1
     have hru := hid (brune_calls m (m + 1) (bU o1) M hMl.out.1 hMl.out.2 (by omega) (by rw [bU_len]; have := ho1l.out; omega) w2 hI2.out.2.1 hI2.out.2.2.1)
     obtain ⟨r3, hr3⟩ : ∃ x, r1.extract Z r1.size = x := ⟨_, rfl⟩
     have hR3 : Hid (UnR s r3 (o1 ++ charL M) ∧ r3.size < r1.size) := by
      have h3 := hst.out
      rw [if_neg hZ0] at h3
      exact UnR.step hI2.out.1 (by omega) h3 (by rw [← hr3]; exact (byts_from r1 Z).1)
     clear hZ0
     go_wp2_with fail
     refine Calls.mono hru.out ?_
     rintro e w3 ⟨⟨kk, rfl⟩, hbd3, hb3⟩
     have hI3 : Hid (UnI s m w1 r3 (o1 ++ charL M) w3) := by
      refine ⟨hR3.out.1, ?_, Nat.le_trans hI2.out.2.2.1 hb3.size, hI2.out.2.2.2.trans hb3⟩
      rw [bU_app]
      exact hbd3
     clear hbd3 hb3 hru
     go_wp2
     go_roundw
     case rel => exact ⟨r3, _, rfl, hI3⟩
     case measure => simp [strSz]; have := hR3.out.2; have := hr1s.out; omega
theorem unP_calls (s : ByteArray) (hs : s.size ≤ 140737488351232) (T : ByteArray) (E : Int) (hU : Hid (unS s = (T, E))) (w : World) :
  Calls Tryz.prog 74 #[.string s] w fun e w' => e = .returned (.tuple #[.string T, .int .i64 E]) ∧ Below w.heap.size w w' :=
 unP_big s (by omega) (hid (fun r o h => by have := h.2.2; omega)) T E hU w
end Go.Proofs.YtkejlejhnnjdkaaGreatDoor
