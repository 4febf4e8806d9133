/-
 What the reference's one and Escape answer.
-/
import Derived.Test.YtbabdhepnjacdaaDoorRefTx3
import Derived.Test.YtbabdhepnjacdaaDoorTxBack
import Derived.BigQuiet
namespace Go.Proofs.YtbabdhepnjacdaaDoor
open Go.RowKit Go.Shelf
theorem oneL_lt {c : Nat} (h : c < 256) : (∀ x ∈ oneL c, x < 256) ∧ 1 ≤ (oneL c).length ∧ (oneL c).length ≤ 6 := by
 unfold oneL
 repeat' split
 all_goals refine ⟨?_, by simp, by simp⟩
 all_goals intro x hx; simp at hx
 all_goals first
  | omega
  | (rcases hx with rfl | rfl | rfl | rfl | rfl | rfl <;> first | omega | (unfold hexC; split <;> omega))
def hexD16 : ByteArray := ⟨#[48, 49, 50, 51, 52, 53, 54, 55, 56, 57, 97, 98, 99, 100, 101, 102]⟩
theorem one_hex : ∀ c : Fin 32, ((⟨#[92, 117, 48, 48]⟩ ++ hexD16.extract (c.val / 16) (c.val / 16 + 1)) ++ hexD16.extract (c.val % 16) (c.val % 16 + 1) : ByteArray) = mkS [92, 117, 48, 48, hexC (c.val / 16), hexC (c.val % 16)] := by decide +kernel
set_option maxRecDepth 10000 in
set_option maxHeartbeats 1000000 in
theorem one_calls (c : Nat) (hc : c < 256) (w : World) : Calls Tryd.prog 82 #[.int .u8 (c : Int)] w fun e w' => e = .returned (.string (mkS (oneL c))) ∧ Below w.heap.size w w' := by
 obtain ⟨L, hL⟩ : ∃ L, Hid (oneL c = L) := ⟨_, rfl⟩
 have hL2 := hL.out
 rw [hL.out]
 unfold oneL at hL2
 by_cases k34 : c = 34
 ·subst k34
  rw [if_pos rfl] at hL2
  subst hL2
  clear hL
  go_enter Tryd.func82, Tryd.ntmps82
  go_wp2
  go_ret
  exact ⟨rfl, by repeat (first | with_reducible exact Below.refl _ _ | with_reducible refine Below.setCell ?_ (by first | (simp; done) | (simp; omega)) _ | with_reducible refine below_drewN ?_ _ | with_reducible refine Below.alloc ?_ (by first | (simp; done) | (simp; omega)) _ | with_reducible refine Below.drew ?_)⟩
 ·have m34 : ((c : Int) == 34) = false := by simp; omega
  rw [if_neg k34] at hL2
  by_cases k92 : c = 92
  ·subst k92
   rw [if_pos rfl] at hL2
   subst hL2
   clear hL
   go_enter Tryd.func82, Tryd.ntmps82
   go_wp2
   go_ret
   exact ⟨rfl, by repeat (first | with_reducible exact Below.refl _ _ | with_reducible refine Below.setCell ?_ (by first | (simp; done) | (simp; omega)) _ | with_reducible refine below_drewN ?_ _ | with_reducible refine Below.alloc ?_ (by first | (simp; done) | (simp; omega)) _ | with_reducible refine Below.drew ?_)⟩
  ·have m92 : ((c : Int) == 92) = false := by simp; omega
   rw [if_neg k92] at hL2
   by_cases k8 : c = 8
   ·subst k8
    rw [if_pos rfl] at hL2
    subst hL2
    clear hL
    go_enter Tryd.func82, Tryd.ntmps82
    go_wp2
    go_ret
    exact ⟨rfl, by repeat (first | with_reducible exact Below.refl _ _ | with_reducible refine Below.setCell ?_ (by first | (simp; done) | (simp; omega)) _ | with_reducible refine below_drewN ?_ _ | with_reducible refine Below.alloc ?_ (by first | (simp; done) | (simp; omega)) _ | with_reducible refine Below.drew ?_)⟩
   ·have m8 : ((c : Int) == 8) = false := by simp; omega
    rw [if_neg k8] at hL2
    by_cases k12 : c = 12
    ·subst k12
     rw [if_pos rfl] at hL2
     subst hL2
     clear hL
     go_enter Tryd.func82, Tryd.ntmps82
     go_wp2
     go_ret
     exact ⟨rfl, by repeat (first | with_reducible exact Below.refl _ _ | with_reducible refine Below.setCell ?_ (by first | (simp; done) | (simp; omega)) _ | with_reducible refine below_drewN ?_ _ | with_reducible refine Below.alloc ?_ (by first | (simp; done) | (simp; omega)) _ | with_reducible refine Below.drew ?_)⟩
    ·have m12 : ((c : Int) == 12) = false := by simp; omega
     rw [if_neg k12] at hL2
     by_cases k10 : c = 10
     ·subst k10
      rw [if_pos rfl] at hL2
      subst hL2
      clear hL
      go_enter Tryd.func82, Tryd.ntmps82
      go_wp2
      go_ret
      exact ⟨rfl, by repeat (first | with_reducible exact Below.refl _ _ | with_reducible refine Below.setCell ?_ (by first | (simp; done) | (simp; omega)) _ | with_reducible refine below_drewN ?_ _ | with_reducible refine Below.alloc ?_ (by first | (simp; done) | (simp; omega)) _ | with_reducible refine Below.drew ?_)⟩
     ·have m10 : ((c : Int) == 10) = false := by simp; omega
      rw [if_neg k10] at hL2
      by_cases k13 : c = 13
      ·subst k13
       rw [if_pos rfl] at hL2
       subst hL2
       clear hL
       go_enter Tryd.func82, Tryd.ntmps82
       go_wp2
       go_ret
       exact ⟨rfl, by repeat (first | with_reducible exact Below.refl _ _ | with_reducible refine Below.setCell ?_ (by first | (simp; done) | (simp; omega)) _ | with_reducible refine below_drewN ?_ _ | with_reducible refine Below.alloc ?_ (by first | (simp; done) | (simp; omega)) _ | with_reducible refine Below.drew ?_)⟩
      ·have m13 : ((c : Int) == 13) = false := by simp; omega
       rw [if_neg k13] at hL2
       by_cases k9 : c = 9
       ·subst k9
        rw [if_pos rfl] at hL2
        subst hL2
        clear hL
        go_enter Tryd.func82, Tryd.ntmps82
        go_wp2
        go_ret
        exact ⟨rfl, by repeat (first | with_reducible exact Below.refl _ _ | with_reducible refine Below.setCell ?_ (by first | (simp; done) | (simp; omega)) _ | with_reducible refine below_drewN ?_ _ | with_reducible refine Below.alloc ?_ (by first | (simp; done) | (simp; omega)) _ | with_reducible refine Below.drew ?_)⟩
       ·have m9 : ((c : Int) == 9) = false := by simp; omega
        rw [if_neg k9] at hL2
        by_cases h32 : c < 32
        ·rw [if_pos h32] at hL2
         subst hL2
         have hx := hid (one_hex ⟨c, h32⟩)
         clear hL
         go_enter Tryd.func82, Tryd.ntmps82
         go_wp2_with fail
         go_quiet (fail)
         go_wp2
         go_ret
         refine ⟨?_, below_drewN (Below.refl _ _) _⟩
         rw [← hx.out]
         rfl
        ·rw [if_neg h32] at hL2
         subst hL2
         have h32i : 32 ≤ c := by omega
         clear hL
         go_enter Tryd.func82, Tryd.ntmps82
         have hcv : (convert 118 9 (.slice (some ⟨w.heap.size, 0, none⟩) 1 1)).run Tryd.prog (w.alloc (.cells #[.int .u8 (c : Int)] 5)) = .ok (.string (mkS [c])) (w.alloc (.cells #[.int .u8 (c : Int)] 5)) := by
          refine conv_row (B := w.heap.size) ?_
          rw [strCells_mkS (fun x hx => by simp at hx; omega), mkS_size]
          exact ⟨rfl, .inr ⟨w.heap.size, 1, _, rfl, Nat.le_refl _, At.new w _ _, Nat.le_refl _, by unfold maxLen; omega, rfl, rfl⟩⟩
         go_wp2
         go_ret
         exact ⟨rfl, by repeat (first | with_reducible exact Below.refl _ _ | with_reducible refine Below.setCell ?_ (by first | (simp; done) | (simp; omega)) _ | with_reducible refine below_drewN ?_ _ | with_reducible refine Below.alloc ?_ (by first | (simp; done) | (simp; omega)) _ | with_reducible refine Below.drew ?_)⟩
/-- What Escape answers. -/
def wrS (s : ByteArray) : ByteArray × Int := if 0 ≤ badOf s then (⟨#[]⟩, 50) else (mkS ((byts s).flatMap oneL), 0)
/-- The first i bytes, as Escape has them. -/
def wrI (s : ByteArray) (i : Nat) : ByteArray := mkS (((byts s).take i).flatMap oneL)
theorem mkS_app (a b : List Nat) : mkS (a ++ b) = mkS a ++ mkS b := by
 unfold mkS
 apply ByteArray.ext
 simp
theorem wrI_next {s : ByteArray} {i x : Nat} (h : (byts s)[i]? = some x) : wrI s (i + 1) = wrI s i ++ mkS (oneL x) := by
 unfold wrI
 rw [List.take_add_one, h, List.flatMap_append, mkS_app]
 simp
theorem wrI_len (s : ByteArray) (i : Nat) : (wrI s i).size ≤ 6 * i := by
 unfold wrI
 rw [mkS_size]
 induction i with
 | zero => simp
 | succ i ih =>
  rw [List.take_add_one, List.flatMap_append, List.length_append]
  cases h : (byts s)[i]? with
  | none => simp only [Option.toList_none, List.flatMap_nil, List.length_nil]; omega
  | some x =>
   have := (oneL_lt (byts_lt s x (List.mem_of_getElem? h))).2.2
   simp only [Option.toList_some, List.flatMap_cons, List.flatMap_nil, List.append_nil]
   omega
theorem wpList_append_tx {ops : Array Oper} {rest : List Oper} {o : Oper} {a : Act} {w : World} {Q : Exit → Act → World → Prop} (hgd : o.guard = none) (x y : Operand)
  (ho : o.op = .call { callee := .builtin .append, args := #[x, y], argTypes := #[118, 9] }) (base : Nat) (v : Value) (S t : ByteArray) (hx : a.eval x = v) (hy : a.eval y = .string t)
  (hown : w.ownsRow base 5 1 v S.size (Lib.strCells S)) (hsz : S.size + t.size ≤ 35184372088832) (hbase : base ≤ w.heap.size)
  (h : ∀ v' w', w'.ownsRow base 5 1 v' (S ++ t).size (Lib.strCells (S ++ t)) → w.grownBy w' v.ownBlock → wpList Tryd.prog ops Q rest (a.put o.dst v') w') : wpList Tryd.prog ops Q (o :: rest) a w := by
 obtain ⟨i0, hi, hz0, hz1, hz2⟩ := info_parts infoU8
 obtain ⟨v', w', hr, r1, r2, -⟩ := Lib.run_append_own_string (P := Tryd.prog) w base 118 9 o.type 5 i0 Tryd.underlying118 Tryd.underlying9 hi hz0 hz1 hz2 v S.size (Lib.strCells S) hown t (by unfold maxLen; omega) (by omega) hbase
 rw [← strCells_append, ← ByteArray.size_append] at r1
 refine wpList_plain hgd fun K hK => ?_
 unfold Oper.wp execOp
 simp only [ho, resolve, invoke, builtin, Sem.run_bind, Sem.run_pure, Result.andThen_ok, List.map_toArray, List.map_cons, List.map_nil, hx, hy, hr]
 exact hK _ _ (h v' w' r1 r2)
set_option maxRecDepth 10000 in
set_option maxHeartbeats 1000000 in
theorem refEs_calls (s : ByteArray) (hs : s.size ≤ 4294967296) (T : ByteArray) (E : Int) (hU : Hid (wrS s = (T, E))) (w : World) :
  Calls Tryd.prog 74 #[.string s] w fun e w' => e = .returned (.tuple #[.string T, .int .i64 E]) ∧ Below w.heap.size w w' := by
 have hbad := hid (refBad_calls s (by omega) w)
 obtain ⟨B, hB⟩ : ∃ B, Hid (badOf s = B) := ⟨_, rfl⟩
 rw [hB.out] at hbad
 have hU2 := hU.out
 unfold wrS at hU2
 rw [hB.out] at hU2
 go_enter Tryd.func74, Tryd.ntmps74
 go_wp2_with fail
 refine Calls.mono hbad.out ?_
 rintro e w1 ⟨rfl, hb1⟩
 have hb1' := hid hb1
 clear hbad hb1 hU
 by_cases hB0 : 0 ≤ B
 ·rw [if_pos hB0] at hU2
  simp only [Prod.mk.injEq] at hU2
  obtain ⟨rfl, rfl⟩ := hU2
  go_wp2
  exact bodyPost_ret (v := .tuple #[.string ⟨#[]⟩, .int .i64 50]) (by simp [results, Tryd.results74, go_sem]; try decide) rfl ⟨rfl, hb1'.out⟩
 ·rw [if_neg hB0] at hU2
  simp only [Prod.mk.injEq] at hU2
  obtain ⟨hT, rfl⟩ := hU2
  have hT' := hid hT
  have hB1 : decide (0 ≤ B) = false := by simp; omega
  have hsi : (s.size : Int) ≤ 4294967296 := by omega
  clear hB0 hT
  go_wp2
  go_loopw [4, 5] (fun v ii wr => ∃ i : Nat, i ≤ s.size ∧ ii = .int .i64 (i : Int) ∧ Hid (wr.ownsRow w1.heap.size 5 1 v (wrI s i).size (Lib.strCells (wrI s i))) ∧ Hid (Below w1.heap.size w1 wr)) (fun _ ii _ => s.size - (intOf ii).toNat)
  case atStart => exact ⟨0, Nat.zero_le _, rfl, hid (by show World.ownsRow _ _ _ _ _ _ _; rw [show wrI s 0 = ⟨#[]⟩ by unfold wrI; simp [mkS]]; exact World.ownsRow_nil _ _ _ _), hid (Below.refl _ _)⟩
  case round =>
   obtain ⟨i, hi, rfl, hv, hb⟩ := hrel
   by_cases hlt : i < s.size
   ·have hli : (i : Int) < (s.size : Int) := by omega
    have hx := bAt_at s i hlt
    obtain ⟨x, hX⟩ : ∃ x, Hid (bAt s i = x) := ⟨_, rfl⟩
    rw [hX.out] at hx
    have hxl : x < 256 := by rw [← hX.out]; exact bAt_lt s i
    have hget : Hid ((byts s)[i]? = some x) := by
     show _ = _
     rw [← hX.out, bAt_lb]
     unfold lb
     rw [List.getD_eq_getElem?_getD, List.getElem?_eq_getElem (by rw [byts_length]; exact hlt)]
     rfl
    have hone := hid (fun (u : World) => one_calls x hxl u)
    have hol := oneL_lt hxl
    have hlen := wrI_len s i
    obtain ⟨O, hO⟩ : ∃ O, Hid (mkS (oneL x) = O) := ⟨_, rfl⟩
    have hOl : O.size ≤ 6 := by rw [← hO.out, mkS_size]; exact hol.2.2
    rw [hO.out] at hone
    obtain ⟨S, hS⟩ : ∃ S, Hid (wrI s i = S) := ⟨_, rfl⟩
    rw [hS.out] at hv hlen
    have hnx : Hid (wrI s (i + 1) = S ++ O) := by show _ = _; rw [wrI_next hget.out, hS.out, hO.out]
    clear hol
    go_wp2_with fail
    refine Calls.mono (hone.out _) ?_
    rintro e w2 ⟨rfl, hb2⟩
    have hv2 := hid (rowT_kept hv.out hb2)
    have hbb := hid (hb.out.trans (hb2.mono hb.out.size))
    clear hb2 hv hb hone
    go_wp2_with (first
     | (at_builtin; refine wpList_append_tx rfl _ _ rfl w1.heap.size _ S O rfl rfl hv2.out (by omega) hbb.out.size ?_)
     | go_in)
    intro v' w' hown hgrow
    have hown2 : Hid (w'.ownsRow w1.heap.size 5 1 v' (wrI s (i + 1)).size (Lib.strCells (wrI s (i + 1)))) := by rw [hnx.out, ByteArray.size_append]; exact hown
    have hb3 := hid (hbb.out.grown hgrow hbb.out.size (fun b e => (hv2.out.lt b e).1))
    clear hown hgrow
    go_wp2
    go_roundw
    case rel => exact ⟨i + 1, by omega, by simp, hown2, hb3⟩
    case measure => simp [intOf]; omega
   ·obtain rfl : i = s.size := by omega
    have hfin := hid (hb1'.out.trans (hb.out.mono hb1'.out.size))
    have hall : Hid (wrI s s.size = T) := by
     show _ = _
     rw [← hT'.out]
     unfold wrI
     rw [List.take_of_length_le (by rw [byts_length]; exact Nat.le_refl _)]
    rw [hall.out] at hv
    have hcv := conv_row hv.out
    clear hv
    go_wp2
    exact bodyPost_ret (v := .tuple #[.string T, .int .i64 0]) (by simp [results, Tryd.results74, go_sem]; try decide) rfl ⟨rfl, hfin.out⟩
end Go.Proofs.YtbabdhepnjacdaaDoor
