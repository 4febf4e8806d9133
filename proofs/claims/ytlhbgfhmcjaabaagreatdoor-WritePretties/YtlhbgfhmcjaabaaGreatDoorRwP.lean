/-
 quarryref18.put, spaces, pretty: bytes that grow (by gen_rwp.py).
-/
import Derived.Test.YtlhbgfhmcjaabaaGreatDoorRwA
import Derived.Test.YtlhbgfhmcjaabaaGreatDoorWrN
import Derived.Test.YtlhbgfhmcjaabaaGreatDoorTrBd
import Derived.Test.YtlhbgfhmcjaabaaGreatDoorTpF2
import Derived.Test.YtlhbgfhmcjaabaaGreatDoorTqF
import Derived.Lib.BufferRead
import Derived.Laws.IdiomStrings
namespace Go.Proofs.YtlhbgfhmcjaabaaGreatDoor
open Go.RowKit Go.Shelf
/-- A row of bytes that grows. -/
def ByG (B : Nat) (w : World) (v : Value) (l : List UInt8) : Prop := w.ownsRow B 5 1 v l.length (Lib.byteCells l)
/-- What a call that grows the row v leaves: all but that row is as it was. -/
structure GrR (x : World) (v : Value) (w' : World) (v' : Value) : Prop where
 os : w'.os = x.os
 tape : w'.tape = x.tape
 output : w'.output = x.output
 size : x.heap.size ≤ w'.heap.size
 block : ∀ b, b < x.heap.size → v.ownBlock ≠ some b → w'.heap[b]? = x.heap[b]?
 own : v'.ownBlock = v.ownBlock ∨ ∃ g, v'.ownBlock = some g ∧ x.heap.size ≤ g
section
variable {x y z : World} {v v' v'' : Value} {B : Nat} {l : List UInt8}
theorem GrR.refl (x : World) (v : Value) : GrR x v x v := ⟨rfl, rfl, rfl, Nat.le_refl _, fun _ _ _ => rfl, .inl rfl⟩
theorem GrR.trans (h1 : GrR x v y v') (h2 : GrR y v' z v'') : GrR x v z v'' := by
 refine ⟨h2.os.trans h1.os, h2.tape.trans h1.tape, h2.output.trans h1.output, Nat.le_trans h1.size h2.size, fun b hb hv => ?_, ?_⟩
 ·refine (h2.block b (Nat.lt_of_lt_of_le hb h1.size) (fun e => ?_)).trans (h1.block b hb hv)
  rcases h1.own with e1 | ⟨g, e1, hg⟩
  ·exact hv (e1 ▸ e)
  ·rw [e1] at e
   injection e with e
   omega
 ·rcases h2.own with e2 | ⟨g, e2, hg⟩
  ·rw [e2]
   exact h1.own
  ·exact .inr ⟨g, e2, Nat.le_trans h1.size hg⟩
theorem GrR.of_below (h : Below x.heap.size x y) : GrR x v y v := ⟨h.os, h.tape, h.output, h.size, fun b hb _ => h.block b hb, .inl rfl⟩
theorem GrR.of_grown (h : x.grownBy y v.ownBlock) (ho : v'.ownBlock = v.ownBlock ∨ ∃ g, v'.ownBlock = some g ∧ x.heap.size ≤ g) : GrR x v y v' := ⟨h.os, h.tape, h.output, h.size, fun b hb hv => h.block b hb (fun e => hv e.symm), ho⟩
theorem GrR.below (h : GrR x v y v') (hr : ByG B x v l) (hB : B ≤ x.heap.size) : Below B x y :=
 ⟨h.os, h.tape, h.output, Nat.le_trans hB h.size |> fun _ => h.size, fun b hb => h.block b (by omega) (fun e => by have := (hr.lt b e).1; omega)⟩
theorem GrR.at (h : GrR x v y v') (hr : ByG B x v l) {p : Nat} {cs : Array Value} (ha : At x p cs 25) : At y p cs 25 := by
 refine (h.block p ha.lt (fun e => ?_)).trans ha
 rcases hr.2 with ⟨rfl, _⟩ | ⟨g, cap, cur, rfl, _, hg, _⟩
 ·cases e
 ·simp only [Value.ownBlock, Option.some.injEq] at e
  subst e
  have ha' : x.heap[g]? = some (.cells cs 25 (0, 0)) := ha
  rw [hg] at ha'
  simp only [Option.some.injEq, Obj.cells.injEq] at ha'
  exact absurd ha'.2.1 (by decide)
theorem ByG.kept (hr : ByG B x v l) (h : Below x.heap.size x y) : ByG B y v l := by
 refine ⟨hr.1, ?_⟩
 rcases hr.2 with hn | ⟨g, cap, cur, hv, hb, hg, rest⟩
 ·exact .inl hn
 ·exact .inr ⟨g, cap, cur, hv, hb, (h.block g (Array.getElem?_eq_some_iff.1 hg).1).trans hg, rest⟩
end
theorem infoU8p : (Tryz.prog.info? 5).map (fun i => (i.zero, i.size, i.bytes)) = some (some (.int .u8 0), 1, 1) := by kernel_rfl
theorem conv_rowP {w : World} {B : Nat} {v : Value} {l : List UInt8} (h : ByG B w v l) : (convert 47 9 v).run Tryz.prog w = .ok (.string ⟨l.toArray⟩) w := by
 rcases h.2 with ⟨rfl, h0⟩ | ⟨g, cap, cur, rfl, hb, hgb, h3⟩
 ·rw [List.eq_nil_of_length_eq_zero h0]
  exact Lib.run_convert_nil_bytes w 47 9 5 0 Tryz.underlying47 Tryz.underlying5 Tryz.underlying9
 ·exact run_convert_bytes_back (P := Tryz.prog) w 47 9 5 ⟨g, 0, none⟩ cap l Tryz.underlying47 Tryz.underlying5 Tryz.underlying9 (fun j hj => by
   exact h.cells (g := g) rfl j _ (by
    unfold Lib.byteCells
    rw [List.getElem?_map, List.getElem?_eq_getElem hj]
    rfl))
/-- One byte more. -/
theorem ByG.app {w : World} {B : Nat} {v : Value} {l : List UInt8} (h : ByG B w v l) (x : UInt8) (ad : Addr) (c : Nat) (hC : w.cell? (ad.add 0) = some (.int .u8 (x.toNat : Int))) (hn : l.length < 140737488355328) (hB : B ≤ w.heap.size) (ty : TypeId) :
  ∃ v' w', (Builtin.append_ #[47, 47] ty #[v, .slice (some ad) 1 c]).run Tryz.prog w = .ok v' w' ∧ ByG B w' v' (l ++ [x]) ∧ GrR w v w' v' := by
 obtain ⟨i0, hi, hz0, hz1, hz2⟩ := info_partsV infoU8p
 obtain ⟨v', w', hr, r1, r2⟩ := appendV (P := Tryz.prog) (ty := ty) Tryz.underlying47 hi hz0 hz1 hz2 rfl (by decide) h ad 1 c [.int .u8 (x.toNat : Int)] (by simp) (fun j y hj => by
  match j, hj with
  | 0, hj => simp at hj; subst hj; exact hC) (by simp; rfl) (by unfold maxLen; omega) (by omega) hB
 refine ⟨v', w', hr, ?_, GrR.of_grown ?_ ?_⟩
 ·unfold ByG
  rw [List.length_append, List.length_singleton, Lib.byteCells_append]
  exact r1
 ·rcases r2 with ⟨g, cap, rfl, rfl, hg⟩ | ⟨-, hg⟩
  ·exact hg
  ·exact grown_weaken hg
 ·rcases r2 with ⟨g, cap, rfl, rfl, -⟩ | ⟨hf, -⟩
  ·exact .inl rfl
  ·rcases r1.2 with ⟨-, h0⟩ | ⟨g, cap, cur, rfl, -⟩
   ·omega
   ·exact .inr ⟨g, rfl, hf g rfl⟩
theorem wpList_byteP {ops : Array Oper} {rest : List Oper} {o : Oper} {a : Act} {Q : Exit → Act → World → Prop} {W : World} {x y : Operand} {B : Nat} {v : Value} {l : List UInt8} {u : UInt8} (hgd : o.guard = none) (ho : o.op = .call { callee := .builtin .append, args := #[x, y], argTypes := #[47, 47] })
  (hx : a.eval x = v) (h : ByG B W v l) (ad : Addr) (c : Nat) (hy : a.eval y = .slice (some ad) 1 c) (hC : W.cell? (ad.add 0) = some (.int .u8 (u.toNat : Int))) (hn : l.length < 140737488355328) (hB : B ≤ W.heap.size)
  (hr : ∀ v' W', ByG B W' v' (l ++ [u]) → GrR W v W' v' → wpList Tryz.prog ops Q rest (a.put o.dst v') W') : wpList Tryz.prog ops Q (o :: rest) a W := by
 refine wpList_plain hgd fun _ hK => ?_
 obtain ⟨v', W', hrun, h1, h2⟩ := h.app u ad c hC hn hB o.type
 unfold Oper.wp execOp
 simp only [ho, resolve, invoke, builtin, Sem.run_bind, Sem.run_pure, Result.andThen_ok, List.map_toArray, List.map_cons, List.map_nil, hx, hy, hrun]
 exact hK _ _ (hr v' W' h1 h2)
theorem ByG.shape {B : Nat} {w : World} {v : Value} {l : List UInt8} (h : ByG B w v l) : ∃ so c, v = .slice so l.length c := by
 rcases h.2 with ⟨rfl, h0⟩ | ⟨g, cap, cur, rfl, -⟩
 ·exact ⟨_, _, by rw [h0]⟩
 ·exact ⟨_, _, rfl⟩
/-- What the calls of this text leave. -/
def PrP (B : Nat) (l : List UInt8) (v : Value) (w : World) (e : Ending) (w' : World) : Prop := ∃ v', e = .returned v' ∧ ByG B w' v' l ∧ GrR w v w' v'
set_option maxRecDepth 10000 in
set_option maxHeartbeats 8000000 in
theorem put18_calls (B : Nat) (l : List UInt8) (s : ByteArray) (hn : l.length + s.size ≤ 140737488355328) (L : List UInt8) (hL : Hid (l ++ s.data.toList = L)) (v : Value) (w : World) (hB : B ≤ w.heap.size) (h : Hid (ByG B w v l)) :
  Calls Tryz.prog 53 #[v, .string s] w fun e w' => PrP B L v w e w' := by
 have hsi : (s.size : Int) ≤ 140737488355328 := by omega
 go_enter Tryz.func53, Tryz.ntmps53
 go_wp2
 go_loopw [0, 5] (fun vv ii wr => ∃ i : Nat, i ≤ s.size ∧ ii = .int .i64 (i : Int) ∧ Hid (ByG B wr vv (l ++ s.data.toList.take i)) ∧ Hid (GrR w v wr vv)) (fun _ ii _ => s.size - (intOf ii).toNat)
 case atStart => exact ⟨0, Nat.zero_le _, rfl, by simpa using h, hid (GrR.refl _ _)⟩
 case round =>
  obtain ⟨i, hi, rfl, hG, hR⟩ := hrel
  have hsd : s.data.toList.length = s.size := Array.length_toList
  have hlen : (l ++ s.data.toList.take i).length = l.length + i := by rw [List.length_append, List.length_take, hsd]; omega
  by_cases hlt : i < s.size
  ·have hli : (i : Int) < (s.size : Int) := by omega
   obtain ⟨x, hx⟩ : ∃ x : UInt8, s[i] = x := ⟨_, rfl⟩
   have hts : Hid (l ++ s.data.toList.take (i + 1) = (l ++ s.data.toList.take i) ++ [x]) := by
    show _ = _
    rw [List.take_add_one, List.getElem?_eq_getElem (by rw [hsd]; exact hlt), List.append_assoc, ← hx]
    rfl
   have qz : Below wr.heap.size wr (wr.alloc (.cells #[.int .u8 (x.toNat : Int)] 5)) := (Below.refl _ _).alloc (Nat.le_refl _) _
   have G2 := hid (hG.out.kept qz)
   have R2 := hid (hR.out.trans (GrR.of_below qz))
   have hBw := Nat.le_trans hB R2.out.size
   clear qz hG hR h
   go_wp2_with (at_builtin; refine wpList_byteP (u := x) rfl rfl rfl G2.out ⟨wr.heap.size, 0, none⟩ 1 rfl (by simp [Addr.add]) (by rw [hlen]; omega) hBw ?_; intro v' w' hk1 hg1; have K3 := hid hk1; have R3 := hid (R2.out.trans hg1); clear hk1 hg1)
   go_roundw
   case rel => exact ⟨i + 1, by omega, by simp, by rw [hts.out]; exact K3, R3⟩
   case measure => simp [intOf]; omega
  ·obtain rfl : i = s.size := by omega
   have htk : s.data.toList.take s.size = s.data.toList := by rw [← hsd]; exact List.take_length
   rw [htk, hL.out] at hG
   go_wp2
   go_ret
   exact ⟨_, rfl, hG.out, hR.out⟩
set_option maxRecDepth 10000 in
set_option maxHeartbeats 8000000 in
theorem spc18_calls (B : Nat) (l : List UInt8) (k : Nat) (hk : (k : Int) ≤ 1099511627776) (hn : l.length + k ≤ 140737488355328) (L : List UInt8) (hL : Hid (l ++ List.replicate k 32 = L)) (v : Value) (w : World) (hB : B ≤ w.heap.size) (h : Hid (ByG B w v l)) :
  Calls Tryz.prog 54 #[v, .int .i64 (k : Int)] w fun e w' => PrP B L v w e w' := by
 go_enter Tryz.func54, Tryz.ntmps54
 go_wp2
 go_loopw [0, 5] (fun vv ii wr => ∃ i : Nat, i ≤ k ∧ ii = .int .i64 (i : Int) ∧ Hid (ByG B wr vv (l ++ List.replicate i 32)) ∧ Hid (GrR w v wr vv)) (fun _ ii _ => k - (intOf ii).toNat)
 case atStart => exact ⟨0, Nat.zero_le _, rfl, by simpa using h, hid (GrR.refl _ _)⟩
 case round =>
  obtain ⟨i, hi, rfl, hG, hR⟩ := hrel
  have hlen : (l ++ List.replicate i (32 : UInt8)).length = l.length + i := by rw [List.length_append, List.length_replicate]
  by_cases hlt : i < k
  ·have hli : (i : Int) < (k : Int) := by omega
   have hts : Hid (l ++ List.replicate (i + 1) (32 : UInt8) = (l ++ List.replicate i 32) ++ [32]) := by
    show _ = _
    rw [List.replicate_succ', List.append_assoc]
   have qz : Below wr.heap.size wr (wr.alloc (.cells #[.int .u8 32] 5)) := (Below.refl _ _).alloc (Nat.le_refl _) _
   have G2 := hid (hG.out.kept qz)
   have R2 := hid (hR.out.trans (GrR.of_below qz))
   have hBw := Nat.le_trans hB R2.out.size
   clear qz hG hR h
   go_wp2_with (at_builtin; refine wpList_byteP (u := 32) rfl rfl rfl G2.out ⟨wr.heap.size, 0, none⟩ 1 rfl (by simp [Addr.add]) (by rw [hlen]; omega) hBw ?_; intro v' w' hk1 hg1; have K3 := hid hk1; have R3 := hid (R2.out.trans hg1); clear hk1 hg1)
   go_roundw
   case rel => exact ⟨i + 1, by omega, by simp, by rw [hts.out]; exact K3, R3⟩
   case measure => simp [intOf]; omega
  ·obtain rfl : i = k := by omega
   rw [hL.out] at hG
   go_wp2
   go_ret
   exact ⟨_, rfl, hG.out, hR.out⟩
/-- What stands behind q parts of M. -/
def tlP (q M : Nat) : List UInt8 := if q = 0 then [10] else if q < M then [44, 10] else [10]
theorem tlP_len (q M : Nat) : (tlP q M).length ≤ 2 := by unfold tlP; split <;> (try split) <;> simp
set_option maxRecDepth 10000 in
set_option maxHeartbeats 8000000 in
theorem prt18_5 (w0 : World) (b : Bool) (r t : ByteArray) (ks : List ByteArray) (vs : List Vt) (ko vo : Option Addr) (kc vc : Nat) (X : Nat → Array Value) (ix D d : Nat) (hix : ix ≤ 8) (hd : d + 1 ≤ 1048576) (hD : Hid (0 < vs.length → ix * (d + 1) ≤ D)) (hD0 : Hid (ix * d ≤ D))
  (hc : Hid (∀ (q : Nat) (u : Vt), vs[q]? = some u → ∀ (l : List UInt8), l.length + (ptV C2 (lnS D) ix u (d + 1)).length ≤ 140737488355328 → ∀ (va : Value), ValAt w0 u va → ∀ (v : Value) (x : World), Below w0.heap.size w0 x → ByG w0.heap.size x v l → Calls Tryz.prog 34 #[v, va, .int .i64 (ix : Int), .int .i64 ((d : Int) + 1)] x fun e w' => PrP w0.heap.size (l ++ ptV C2 (lnS D) ix u (d + 1)) v x e w'))
  (l L : List UInt8) (hL : Hid (l ++ (91 :: (ptA C2 (lnS D) ix vs d 0 ++ ((if 0 < vs.length then fdL (lnS D) ix d else []) ++ [93]))) = L)) (hn : Hid (L.length ≤ 140737488355328)) (hvl : (vs.length : Int) ≤ 140737488351232)
  (hr : Hid (RowAt w0 vo vs.length X)) (hvv : Hid (∀ (i : Nat) (u : Vt), vs[i]? = some u → ValAt w0 u (.agg (X i)))) (v : Value) (x : World) (hbx : Hid (Below w0.heap.size w0 x)) (hv : Hid (ByG w0.heap.size x v l)) :
  Calls Tryz.prog 34 #[v, .agg #[.int .i64 5, .bool b, .string r, .string t, .slice ko ks.length kc, .slice vo vs.length vc], .int .i64 (ix : Int), .int .i64 (d : Int)] x fun e w' => PrP w0.heap.size L v x e w' := by
 obtain ⟨N, hN⟩ : ∃ N, Hid (ks.length = N) := ⟨_, rfl⟩
 obtain ⟨M, hM⟩ : ∃ M, Hid (vs.length = M) := ⟨_, rfl⟩
 rw [hM.out] at hvl hL hD
 rw [hN.out, hM.out]
 have hdi : (d : Int) + 1 ≤ 1048576 := by omega
 have hen := hid (fun u => ends18_5 b r t ko vo N kc M vc u)
 have A0 := hid (At.new x #[.int .i64 5, .bool b, .string r, .string t, .slice ko N kc, .slice vo M vc] 25)
 have q0 : Below x.heap.size x (x.alloc (.cells #[.int .i64 5, .bool b, .string r, .string t, .slice ko N kc, .slice vo M vc] 25)) := (Below.refl _ _).alloc (Nat.le_refl _) _
 have G0 := hid (hv.out.kept q0)
 have R0 : Hid (GrR x v (x.alloc (.cells #[.int .i64 5, .bool b, .string r, .string t, .slice ko N kc, .slice vo M vc] 25)) v) := GrR.of_below q0
 have hB : Hid (w0.heap.size ≤ x.heap.size) := hbx.out.size
 obtain ⟨p, hp⟩ : ∃ p, Hid (x.heap.size = p) := ⟨_, rfl⟩
 rw [hp.out] at A0
 clear q0
 go_enter Tryz.func34, Tryz.ntmps34
 go_upto_region 1 with fail
 rw [hp.out]
 generalize x.alloc (.cells #[.int .i64 5, .bool b, .string r, .string t, .slice ko N kc, .slice vo M vc] 25) = W at A0 G0 R0 ⊢
 have d0 := A0.out.cell 0
 have d1 := A0.out.cell 1
 have d2 := A0.out.cell 2
 have d3 := A0.out.cell 3
 have d4 := A0.out.cell 4
 have d5 := A0.out.cell 5
 simp only [List.getElem?_toArray, List.getElem?_cons_zero, List.getElem?_cons_succ] at d0 d1 d2 d3 d4 d5
 go_wp2_with fail
 refine Calls.mono (hen.out W) ?_
 rintro e w1 ⟨rfl, hb⟩
 have A1 := hid (A0.out.keptAll hb)
 have G1 := hid (G0.out.kept hb)
 have R1 := hid (R0.out.trans (GrR.of_below hb))
 have hB1 : w0.heap.size ≤ w1.heap.size := Nat.le_trans hB.out R1.out.size
 clear hb hen A0 G0 R0 d0 d1 d2 d3 d4 d5
 have d5 : w1.cell? ⟨p, 5, none⟩ = some (.slice vo M vc) := A1.out.cell 5
 by_cases hM0 : M = 0
 ·subst hM0
  have a1 : ∀ u : World, (Op.stringOp .add ⟨#[91]⟩ ⟨#[93]⟩).run Tryz.prog u = .ok (.string ⟨#[91, 93]⟩) u := fun u => mkB_add (a := [91]) (b := [93]) rfl (by decide) u
  have hvs : vs = [] := List.length_eq_zero_iff.1 hM.out
  have hL2 : Hid (l ++ (⟨#[91, 93]⟩ : ByteArray).data.toList = L) := by
   show _ = _
   rw [← hL.out, hvs]
   simp [ptA]
  have hln : l.length + 2 ≤ 140737488355328 := by
   have h := hn.out
   rw [← hL2.out] at h
   simp at h
   omega
  have hpu := hid (put18_calls w0.heap.size l ⟨#[91, 93]⟩ hln L hL2 v w1 hB1 G1)
  go_wp2_with fail
  refine Calls.mono hpu.out ?_
  rintro e w2 ⟨v2, rfl, hG2, hR2⟩
  have G2 := hid hG2
  have R2 := hid (R1.out.trans hR2)
  clear hG2 hR2 hpu
  go_wp2
  go_ret
  exact ⟨_, rfl, G2.out, R2.out⟩
 ·have hMi : ¬ ((M : Int) = 0) := by omega
  have a1 : ∀ u : World, (Op.stringOp .add ⟨#[91]⟩ ⟨#[10]⟩).run Tryz.prog u = .ok (.string ⟨#[91, 10]⟩) u := fun u => mkB_add (a := [91]) (b := [10]) rfl (by decide) u
  have hMp : 0 < M := Nat.pos_of_ne_zero hM0
  rw [if_pos hMp, fd_ln hD0.out] at hL
  obtain ⟨E0, hE0⟩ : ∃ E, Hid (ix * d = E) := ⟨_, rfl⟩
  obtain ⟨E1, hE1⟩ : ∃ E, Hid (ix * (d + 1) = E) := ⟨_, rfl⟩
  rw [hE0.out] at hL
  have hE0b : (E0 : Int) ≤ 1099511627776 := by rw [← hE0.out]; have := Nat.mul_le_mul hix (show d ≤ 1048576 by omega); omega
  have hE1b : (E1 : Int) ≤ 1099511627776 := by rw [← hE1.out]; have := Nat.mul_le_mul hix hd; omega
  have hm0 : Hid ((ix : Int) * (d : Int) = (E0 : Int)) := by show _ = _; rw [← hE0.out]; push_cast; rfl
  have hm1 : Hid ((ix : Int) * ((d : Int) + 1) = (E1 : Int)) := by show _ = _; rw [← hE1.out]; push_cast; rfl
  have hlq : Hid (∀ q, l.length + 1 + (ptA C2 (lnS D) ix (vs.take q) d 0).length + 2 + E0 ≤ 140737488355328) := fun q => by
   have h1 := ptA_part (cl := C2) (ln := lnS D) (ix := ix) d vs q
   have := hn.out
   rw [← hL.out] at this
   simp only [List.length_append, List.length_cons, List.length_nil, List.length_replicate] at this ⊢
   omega
  have hln : l.length + 2 ≤ 140737488355328 := by have := hlq.out 0; omega
  obtain ⟨LS, hLS⟩ : ∃ x : List UInt8, Hid (l ++ (⟨#[91, 10]⟩ : ByteArray).data.toList = x) := ⟨_, hid rfl⟩
  have hpu := hid (put18_calls w0.heap.size l ⟨#[91, 10]⟩ hln LS hLS v w1 hB1 G1)
  have hMp' := hid hMp
  have hE0b' := hid hE0b
  have hE1b' := hid hE1b
  have hM0' : ((M : Int) == 0) = false := by simp; exact hM0
  clear hMi hMp hM0 hE0b hE1b hln
  go_wp2_with fail
  refine Calls.mono hpu.out ?_
  rintro e w2 ⟨v2, rfl, hG2, hR2⟩
  have G2 := hid hG2
  have A2 := hid (hR2.at G1.out A1.out)
  have R2 := hid (R1.out.trans hR2)
  clear hG2 hR2 hpu a1 A1 G1 R1 d5 hB1 hM0'
  have hMp := hMp'.out
  have hE0b := hE0b'.out
  have hE1b := hE1b'.out
  go_wp2
  go_loopw [0, 11] (fun vv ii wr => ∃ (q : Nat) (LQ : List UInt8), q ≤ M ∧ ii = .int .i64 (q : Int) ∧ Hid (l ++ (91 :: (ptA C2 (lnS D) ix (vs.take q) d 0 ++ tlP q M)) = LQ) ∧ Hid (ByG w0.heap.size wr vv LQ) ∧ Hid (GrR x v wr vv) ∧ Hid (At wr p #[.int .i64 5, .bool b, .string r, .string t, .slice ko N kc, .slice vo M vc] 25)) (fun _ ii _ => M - (intOf ii).toNat)
  case atStart => exact ⟨0, LS, Nat.zero_le _, rfl, hid (by rw [← hLS.out]; simp [ptA, tlP]), G2, R2, A2⟩
  case round =>
   clear G2 R2 A2 hLS
   obtain ⟨q, LQ, hqM, rfl, hLQ, hG, hR, hA⟩ := hrel
   have d0 := hA.out.cell 0
   have d1 := hA.out.cell 1
   have d2 := hA.out.cell 2
   have d3 := hA.out.cell 3
   have d4 := hA.out.cell 4
   have d5 := hA.out.cell 5
   simp only [List.getElem?_toArray, List.getElem?_cons_zero, List.getElem?_cons_succ] at d0 d1 d2 d3 d4 d5
   by_cases hq : q < M
   ·have hqi : (q : Int) < (M : Int) := by omega
    have hlv : q < vs.length := by rw [hM.out]; exact hq
    obtain ⟨u, hu⟩ : ∃ u, vs[q]? = some u := ⟨_, List.getElem?_eq_getElem hlv⟩
    have hta := hid (ptA_take (cl := C2) (ln := lnS D) (ix := ix) d hu)
    rw [fd_ln (hD.out hMp), hE1.out] at hta
    have hb2 := hlq.out (q + 1)
    obtain ⟨UT, hUT⟩ : ∃ UT : List UInt8, Hid (ptV C2 (lnS D) ix u (d + 1) = UT) := ⟨_, hid rfl⟩
    have hcu := hid (hc.out q u hu)
    rw [hUT.out] at hcu hta
    obtain ⟨g, o, rfl, hg, hrg, -⟩ := row_range hr.out (i := q) hlv
    obtain ⟨LX, hLX⟩ : ∃ L, (X q).toList = L := ⟨_, rfl⟩
    rw [hLX] at hrg
    have hVu : ValAt w0 u (.agg LX.toArray) := by
     have := hvv.out q u hu
     rw [← hLX, Array.toArray_toList]
     exact this
    obtain ⟨k1, b1, r1, t1, ko1, N1, kc1, vo1, M1, vc1, rfl⟩ := hVu.six
    have hrgA : Hid (∀ y : World, Below w0.heap.size w0 y → y.rangeAt g (o + q * 6) [.int .i64 k1, .bool b1, .string r1, .string t1, .slice ko1 N1 kc1, .slice vo1 M1 vc1]) := fun y hb j v hv => (hb.cell (p := ⟨g, o + q * 6 + j, none⟩) hg).trans (hrg j v hv)
    have hV := hid hVu
    have z1 : (Tryz.prog.info? 25).map (·.size) = some ([.int .i64 k1, .bool b1, .string r1, .string t1, .slice ko1 N1 kc1, .slice vo1 M1 vc1] : List Value).length := sizeVl
    clear hrg hVu hLX hu
    have hBw : w0.heap.size ≤ wr.heap.size := Nat.le_trans hB.out hR.out.size
    obtain ⟨L1, hL1⟩ : ∃ x : List UInt8, Hid (LQ ++ List.replicate E1 32 = x) := ⟨_, hid rfl⟩
    obtain ⟨L2, hL2⟩ : ∃ x : List UInt8, Hid (L1 = x) := ⟨_, hid rfl⟩
    obtain ⟨L3, hL3⟩ : ∃ x : List UInt8, Hid (L2 ++ UT = x) := ⟨_, hid rfl⟩
    obtain ⟨L5, hL5⟩ : ∃ x : List UInt8, Hid (l ++ (91 :: (ptA C2 (lnS D) ix (vs.take (q + 1)) d 0 ++ tlP (q + 1) M)) = x) := ⟨_, hid rfl⟩
    have hfin : Hid (L3 ++ (if q + 1 < M then [44] else []) ++ [10] = L5) := by
     show _ = _
     rw [← hL5.out, hta.out, ← hL3.out, ← hL2.out, ← hL1.out, ← hLQ.out]
     unfold tlP
     rw [if_neg (Nat.succ_ne_zero q)]
     by_cases h0 : q = 0
     ·subst h0
      by_cases h1 : 0 + 1 < M
      ·simp [h1, C2]
      ·simp [h1, C2]
     ·rw [if_neg h0, if_pos hq, if_pos (Nat.pos_of_ne_zero h0)]
      by_cases h1 : q + 1 < M
      ·simp [h1, C2]
      ·simp [h1, C2]
    have hs5 : L5.length + E0 ≤ 140737488355328 := by
     rw [← hL5.out]
     have := tlP_len (q + 1) M
     simp only [List.length_append, List.length_cons]
     omega
    have hs3 : L3.length + 1 ≤ 140737488355328 := by
     rw [← hfin.out] at hs5
     simp only [List.length_append, List.length_cons, List.length_nil] at hs5
     omega
    have hs3u : L2.length + UT.length ≤ 140737488355328 := by
     rw [← hL3.out] at hs3
     simp only [List.length_append] at hs3
     omega
    have hs2 : L1.length ≤ 140737488355328 := by rw [hL2.out]; omega
    have hs1 : LQ.length + E1 ≤ 140737488355328 := by
     have : L1.length ≤ 140737488355328 := by omega
     rw [← hL1.out] at this
     simp only [List.length_append, List.length_replicate] at this
     omega
    have hsp := hid (spc18_calls w0.heap.size LQ E1 hE1b hs1 L1 hL1 _ wr hBw hG)
    have gs5 := hid hs5
    have gs3 := hid hs3
    have gs3u := hid hs3u
    have gs2 := hid hs2
    clear hs5 hs3 hs3u hs2 hs1 hb2
    have hm1' := hm1.out
    go_wp2_with fail
    refine Calls.mono hsp.out ?_
    rintro e w4 ⟨v4, rfl, hG4, hR4⟩
    have G4 := hid hG4
    have A4 := hid (hR4.at hG.out hA.out)
    have R4 := hid (hR.out.trans hR4)
    clear hG4 hR4 hsp hG hA hR hBw d0 d1 d2 d3 d4 d5 hm1'
    obtain rfl : L1 = L2 := hL2.out
    have d0 : w4.cell? ⟨p, 0, none⟩ = some (.int .i64 5) := A4.out.cell 0
    have d5 : w4.cell? ⟨p, 5, none⟩ = some (.slice (some ⟨g, o, none⟩) M vc) := A4.out.cell 5
    have hB4 : Below w0.heap.size w0 w4 := hbx.out.trans (R4.out.below hv.out hB.out)
    have hrgk := hid (hrgA.out w4 hB4)
    have hcu4 := hid (hcu.out L1 gs3u.out _ hV.out v4 w4 hB4 G4.out)
    rw [hL3.out] at hcu4
    clear hB4 hcu hrgA hV
    go_wp2_with (refine wpList_load_want 25 _ g (o + q * 6) [.int .i64 k1, .bool b1, .string r1, .string t1, .slice ko1 N1 kc1, .slice vo1 M1 vc1] _ hrgk.out Tryz.underlying25 z1 rfl rfl rfl (by rfl) ?_)
    refine Calls.mono hcu4.out ?_
    rintro e w5 ⟨v5, rfl, hG5, hR5⟩
    have G5 := hid hG5
    have A5 := hid (hR5.at G4.out A4.out)
    have R5 := hid (R4.out.trans hR5)
    have hB5 : w0.heap.size ≤ w5.heap.size := Nat.le_trans hB.out R5.out.size
    clear hG5 hR5 hcu4 hrgk z1 G4 A4 R4 d0 d5
    have d5 : w5.cell? ⟨p, 5, none⟩ = some (.slice (some ⟨g, o, none⟩) M vc) := A5.out.cell 5
    by_cases h1 : q + 1 < M
    ·have h1i : (q : Int) + 1 < (M : Int) := by omega
     rw [if_pos h1] at hfin
     obtain ⟨L4, hL4⟩ : ∃ x : List UInt8, Hid (L3 ++ (⟨#[44]⟩ : ByteArray).data.toList = x) := ⟨_, hid rfl⟩
     have hs4 : L4.length + 1 ≤ 140737488355328 := by
      have := gs5.out
      rw [← hfin.out] at this
      rw [← hL4.out]
      simp only [List.length_append, List.length_cons, List.length_nil] at this ⊢
      omega
     have hL45 : Hid (L4 ++ (⟨#[10]⟩ : ByteArray).data.toList = L5) := by
      show _ = _
      rw [← hL4.out]
      exact hfin.out
     have hpu := hid (put18_calls w0.heap.size L3 ⟨#[44]⟩ gs3.out L4 hL4 v5 w5 hB5 G5)
     go_wp2_with fail
     refine Calls.mono hpu.out ?_
     rintro e w6 ⟨v6, rfl, hG6, hR6⟩
     have G6 := hid hG6
     have A6 := hid (hR6.at G5.out A5.out)
     have R6 := hid (R5.out.trans hR6)
     have hB6 : w0.heap.size ≤ w6.heap.size := Nat.le_trans hB.out R6.out.size
     have hpu2 := hid (put18_calls w0.heap.size L4 ⟨#[10]⟩ hs4 L5 hL45 v6 w6 hB6 G6)
     clear hG6 hR6 hpu G5 A5 R5 d5 hB5 hs4
     go_wp2_with fail
     refine Calls.mono hpu2.out ?_
     rintro e w7 ⟨v7, rfl, hG7, hR7⟩
     have G7 := hid hG7
     have A7 := hid (hR7.at G6.out A6.out)
     have R7 := hid (R6.out.trans hR7)
     clear hG7 hR7 hpu2 G6 A6 R6 hB6
     go_wp2
     go_roundw
     case rel => exact ⟨q + 1, L5, by omega, by simp, hL5, G7, R7, A7⟩
     case measure => simp [intOf]; omega
    ·have h1i : decide ((q : Int) + 1 < (M : Int)) = false := by simp; omega
     rw [if_neg h1, List.append_nil] at hfin
     have hq' := hid hq
     have hMp2 := hid hMp
     obtain ⟨M', hM'⟩ : ∃ m, M = m := ⟨_, rfl⟩
     have hqb : (q : Int) + 1 ≤ 140737488351232 := by omega
     have h1n : ¬ (q + 1 < M) := h1
     clear h1 hq hqM hqi hMp hlv hM' M' h1n
     have hL45 : Hid (L3 ++ (⟨#[10]⟩ : ByteArray).data.toList = L5) := hfin.out
     have hpu2 := hid (put18_calls w0.heap.size L3 ⟨#[10]⟩ gs3.out L5 hL45 v5 w5 hB5 G5)
     go_wp2_with fail
     refine Calls.mono hpu2.out ?_
     rintro e w7 ⟨v7, rfl, hG7, hR7⟩
     have G7 := hid hG7
     have A7 := hid (hR7.at G5.out A5.out)
     have R7 := hid (R5.out.trans hR7)
     clear hG7 hR7 hpu2 G5 A5 R5 hB5 d5
     have hq := hq'.out
     go_wp2
     go_roundw
     case rel => exact ⟨q + 1, L5, by omega, by simp, hL5, G7, R7, A7⟩
     case measure => simp [intOf]; omega
   ·obtain rfl : q = M := by omega
    have htk : vs.take q = vs := by rw [← hM.out]; exact List.take_length
    have hBw : w0.heap.size ≤ wr.heap.size := Nat.le_trans hB.out hR.out.size
    have htl : tlP q q = [10] := by unfold tlP; rw [if_neg (by omega), if_neg (Nat.lt_irrefl q)]
    rw [htk, htl] at hLQ
    obtain ⟨L1, hL1⟩ : ∃ x : List UInt8, Hid (LQ ++ List.replicate E0 32 = x) := ⟨_, hid rfl⟩
    have hLf : Hid (L1 ++ (⟨#[93]⟩ : ByteArray).data.toList = L) := by
     show _ = _
     rw [← hL1.out, ← hLQ.out, ← hL.out]
     simp
    have hs : L1.length + 1 ≤ 140737488355328 := by
     have := hn.out
     rw [← hLf.out] at this
     simp only [List.length_append, List.length_cons, List.length_nil] at this
     omega
    have hs0 : LQ.length + E0 ≤ 140737488355328 := by
     rw [← hL1.out] at hs
     simp only [List.length_append, List.length_replicate] at hs
     omega
    have hsp := hid (spc18_calls w0.heap.size LQ E0 hE0b hs0 L1 hL1 _ wr hBw hG)
    have gs := hid hs
    have hm0' := hm0.out
    clear htk htl hs hs0
    go_wp2_with fail
    refine Calls.mono hsp.out ?_
    rintro e w3 ⟨v3, rfl, hG3, hR3⟩
    have G3 := hid hG3
    have R3 := hid (hR.out.trans hR3)
    have hB3 : w0.heap.size ≤ w3.heap.size := Nat.le_trans hB.out R3.out.size
    have hpu := hid (put18_calls w0.heap.size L1 ⟨#[93]⟩ gs.out L hLf v3 w3 hB3 G3)
    clear hG3 hR3 hsp hG hA hR hBw d0 d1 d2 d3 d4 d5 hm0'
    go_wp2_with fail
    refine Calls.mono hpu.out ?_
    rintro e w4 ⟨v4, rfl, hG4, hR4⟩
    have G4 := hid hG4
    have R4 := hid (R3.out.trans hR4)
    clear hG4 hR4 hpu
    go_wp2
    go_ret
    exact ⟨_, rfl, G4.out, R4.out⟩
set_option maxRecDepth 10000 in
set_option maxHeartbeats 8000000 in
theorem prt18_6 (w0 : World) (b : Bool) (r t : ByteArray) (ks : List ByteArray) (vs : List Vt) (hkv : Hid (ks.length = vs.length)) (hks : Hid (∀ (i : Nat) (k : ByteArray), ks[i]? = some k → k.size ≤ 4294967296)) (ko vo : Option Addr) (kc vc : Nat) (X : Nat → Array Value) (ix D d : Nat) (hix : ix ≤ 8) (hd : d + 1 ≤ 1048576) (hD : Hid (0 < vs.length → ix * (d + 1) ≤ D)) (hD0 : Hid (ix * d ≤ D))
  (hc : Hid (∀ (q : Nat) (u : Vt), vs[q]? = some u → ∀ (l : List UInt8), l.length + (ptV C2 (lnS D) ix u (d + 1)).length ≤ 140737488355328 → ∀ (va : Value), ValAt w0 u va → ∀ (v : Value) (x : World), Below w0.heap.size w0 x → ByG w0.heap.size x v l → Calls Tryz.prog 34 #[v, va, .int .i64 (ix : Int), .int .i64 ((d : Int) + 1)] x fun e w' => PrP w0.heap.size (l ++ ptV C2 (lnS D) ix u (d + 1)) v x e w'))
  (l L : List UInt8) (hL : Hid (l ++ (123 :: (ptO C2 (lnS D) ix vs ks d 0 ++ ((if 0 < vs.length then fdL (lnS D) ix d else []) ++ [125]))) = L)) (hn : Hid (L.length ≤ 140737488355328)) (hvl : (vs.length : Int) ≤ 140737488351232)
  (hk : Hid (KeysAt w0 ko ks)) (hr : Hid (RowAt w0 vo vs.length X)) (hvv : Hid (∀ (i : Nat) (u : Vt), vs[i]? = some u → ValAt w0 u (.agg (X i)))) (v : Value) (x : World) (hbx : Hid (Below w0.heap.size w0 x)) (hv : Hid (ByG w0.heap.size x v l)) :
  Calls Tryz.prog 34 #[v, .agg #[.int .i64 6, .bool b, .string r, .string t, .slice ko ks.length kc, .slice vo vs.length vc], .int .i64 (ix : Int), .int .i64 (d : Int)] x fun e w' => PrP w0.heap.size L v x e w' := by
 obtain ⟨N, hN⟩ : ∃ N, Hid (ks.length = N) := ⟨_, rfl⟩
 obtain ⟨M, hM⟩ : ∃ M, Hid (vs.length = M) := ⟨_, rfl⟩
 rw [hM.out] at hvl hL hD
 rw [hN.out, hM.out]
 have hdi : (d : Int) + 1 ≤ 1048576 := by omega
 have hen := hid (fun u => ends18_6 b r t ko vo N kc M vc u)
 have A0 := hid (At.new x #[.int .i64 6, .bool b, .string r, .string t, .slice ko N kc, .slice vo M vc] 25)
 have q0 : Below x.heap.size x (x.alloc (.cells #[.int .i64 6, .bool b, .string r, .string t, .slice ko N kc, .slice vo M vc] 25)) := (Below.refl _ _).alloc (Nat.le_refl _) _
 have G0 := hid (hv.out.kept q0)
 have R0 : Hid (GrR x v (x.alloc (.cells #[.int .i64 6, .bool b, .string r, .string t, .slice ko N kc, .slice vo M vc] 25)) v) := GrR.of_below q0
 have hB : Hid (w0.heap.size ≤ x.heap.size) := hbx.out.size
 obtain ⟨p, hp⟩ : ∃ p, Hid (x.heap.size = p) := ⟨_, rfl⟩
 rw [hp.out] at A0
 clear q0
 go_enter Tryz.func34, Tryz.ntmps34
 go_upto_region 1 with fail
 rw [hp.out]
 generalize x.alloc (.cells #[.int .i64 6, .bool b, .string r, .string t, .slice ko N kc, .slice vo M vc] 25) = W at A0 G0 R0 ⊢
 have d0 := A0.out.cell 0
 have d1 := A0.out.cell 1
 have d2 := A0.out.cell 2
 have d3 := A0.out.cell 3
 have d4 := A0.out.cell 4
 have d5 := A0.out.cell 5
 simp only [List.getElem?_toArray, List.getElem?_cons_zero, List.getElem?_cons_succ] at d0 d1 d2 d3 d4 d5
 go_wp2_with fail
 refine Calls.mono (hen.out W) ?_
 rintro e w1 ⟨rfl, hb⟩
 have A1 := hid (A0.out.keptAll hb)
 have G1 := hid (G0.out.kept hb)
 have R1 := hid (R0.out.trans (GrR.of_below hb))
 have hB1 : w0.heap.size ≤ w1.heap.size := Nat.le_trans hB.out R1.out.size
 clear hb hen A0 G0 R0 d0 d1 d2 d3 d4 d5
 have d5 : w1.cell? ⟨p, 5, none⟩ = some (.slice vo M vc) := A1.out.cell 5
 by_cases hM0 : M = 0
 ·subst hM0
  have a1 : ∀ u : World, (Op.stringOp .add ⟨#[123]⟩ ⟨#[125]⟩).run Tryz.prog u = .ok (.string ⟨#[123, 125]⟩) u := fun u => mkB_add (a := [123]) (b := [125]) rfl (by decide) u
  have hvs : vs = [] := List.length_eq_zero_iff.1 hM.out
  have hL2 : Hid (l ++ (⟨#[123, 125]⟩ : ByteArray).data.toList = L) := by
   show _ = _
   rw [← hL.out, hvs]
   simp [ptO]
  have hln : l.length + 2 ≤ 140737488355328 := by
   have h := hn.out
   rw [← hL2.out] at h
   simp at h
   omega
  have hpu := hid (put18_calls w0.heap.size l ⟨#[123, 125]⟩ hln L hL2 v w1 hB1 G1)
  go_wp2_with fail
  refine Calls.mono hpu.out ?_
  rintro e w2 ⟨v2, rfl, hG2, hR2⟩
  have G2 := hid hG2
  have R2 := hid (R1.out.trans hR2)
  clear hG2 hR2 hpu
  go_wp2
  go_ret
  exact ⟨_, rfl, G2.out, R2.out⟩
 ·have hMi : ¬ ((M : Int) = 0) := by omega
  have a1 : ∀ u : World, (Op.stringOp .add ⟨#[123]⟩ ⟨#[10]⟩).run Tryz.prog u = .ok (.string ⟨#[123, 10]⟩) u := fun u => mkB_add (a := [123]) (b := [10]) rfl (by decide) u
  have hMp : 0 < M := Nat.pos_of_ne_zero hM0
  rw [if_pos hMp, fd_ln hD0.out] at hL
  obtain ⟨E0, hE0⟩ : ∃ E, Hid (ix * d = E) := ⟨_, rfl⟩
  obtain ⟨E1, hE1⟩ : ∃ E, Hid (ix * (d + 1) = E) := ⟨_, rfl⟩
  rw [hE0.out] at hL
  have hE0b : (E0 : Int) ≤ 1099511627776 := by rw [← hE0.out]; have := Nat.mul_le_mul hix (show d ≤ 1048576 by omega); omega
  have hE1b : (E1 : Int) ≤ 1099511627776 := by rw [← hE1.out]; have := Nat.mul_le_mul hix hd; omega
  have hm0 : Hid ((ix : Int) * (d : Int) = (E0 : Int)) := by show _ = _; rw [← hE0.out]; push_cast; rfl
  have hm1 : Hid ((ix : Int) * ((d : Int) + 1) = (E1 : Int)) := by show _ = _; rw [← hE1.out]; push_cast; rfl
  have hlq : Hid (∀ q, l.length + 1 + (ptO C2 (lnS D) ix (vs.take q) (ks.take q) d 0).length + 2 + E0 ≤ 140737488355328) := fun q => by
   have h1 := ptO_part (cl := C2) (ln := lnS D) (ix := ix) d vs ks hkv.out q
   have := hn.out
   rw [← hL.out] at this
   simp only [List.length_append, List.length_cons, List.length_nil, List.length_replicate] at this ⊢
   omega
  have hln : l.length + 2 ≤ 140737488355328 := by have := hlq.out 0; omega
  obtain ⟨LS, hLS⟩ : ∃ x : List UInt8, Hid (l ++ (⟨#[123, 10]⟩ : ByteArray).data.toList = x) := ⟨_, hid rfl⟩
  have hpu := hid (put18_calls w0.heap.size l ⟨#[123, 10]⟩ hln LS hLS v w1 hB1 G1)
  have hMp' := hid hMp
  have hE0b' := hid hE0b
  have hE1b' := hid hE1b
  have hM0' : ((M : Int) == 0) = false := by simp; exact hM0
  clear hMi hMp hM0 hE0b hE1b hln
  go_wp2_with fail
  refine Calls.mono hpu.out ?_
  rintro e w2 ⟨v2, rfl, hG2, hR2⟩
  have G2 := hid hG2
  have A2 := hid (hR2.at G1.out A1.out)
  have R2 := hid (R1.out.trans hR2)
  clear hG2 hR2 hpu a1 A1 G1 R1 d5 hB1 hM0'
  have hMp := hMp'.out
  have hE0b := hE0b'.out
  have hE1b := hE1b'.out
  go_wp2
  go_loopw [0, 11] (fun vv ii wr => ∃ (q : Nat) (LQ : List UInt8), q ≤ M ∧ ii = .int .i64 (q : Int) ∧ Hid (l ++ (123 :: (ptO C2 (lnS D) ix (vs.take q) (ks.take q) d 0 ++ tlP q M)) = LQ) ∧ Hid (ByG w0.heap.size wr vv LQ) ∧ Hid (GrR x v wr vv) ∧ Hid (At wr p #[.int .i64 6, .bool b, .string r, .string t, .slice ko N kc, .slice vo M vc] 25)) (fun _ ii _ => M - (intOf ii).toNat)
  case atStart => exact ⟨0, LS, Nat.zero_le _, rfl, hid (by rw [← hLS.out]; simp [ptO, tlP]), G2, R2, A2⟩
  case round =>
   clear G2 R2 A2 hLS
   obtain ⟨q, LQ, hqM, rfl, hLQ, hG, hR, hA⟩ := hrel
   have d0 := hA.out.cell 0
   have d1 := hA.out.cell 1
   have d2 := hA.out.cell 2
   have d3 := hA.out.cell 3
   have d4 := hA.out.cell 4
   have d5 := hA.out.cell 5
   simp only [List.getElem?_toArray, List.getElem?_cons_zero, List.getElem?_cons_succ] at d0 d1 d2 d3 d4 d5
   by_cases hq : q < M
   ·have hqi : (q : Int) < (M : Int) := by omega
    have hlv : q < vs.length := by rw [hM.out]; exact hq
    obtain ⟨u, hu⟩ : ∃ u, vs[q]? = some u := ⟨_, List.getElem?_eq_getElem hlv⟩
    have hlk : q < ks.length := by rw [hkv.out]; exact hlv
    obtain ⟨KN, hKq⟩ : ∃ k, ks[q]? = some k := ⟨_, List.getElem?_eq_getElem hlk⟩
    have hqN : (q : Int) < (N : Int) := by rw [← hN.out]; omega
    have hKz := hks.out q KN hKq
    obtain ⟨-, kb, koff, rfl, hkl, hkc⟩ := hk.out q KN hKq
    have hkcA : Hid (∀ y : World, Below w0.heap.size w0 y → y.cell? ⟨kb, koff + q, none⟩ = some (.string KN)) := fun y hb => (hb.cell (p := ⟨kb, koff + q, none⟩) hkl).trans hkc
    have hqu := hid (fun y => quo18_calls KN hKz y)
    have hta := hid (ptO_take (cl := C2) (ln := lnS D) (ix := ix) d hkv.out hu hKq)
    rw [fd_ln (hD.out hMp), hE1.out] at hta
    have hb2 := hlq.out (q + 1)
    obtain ⟨UT, hUT⟩ : ∃ UT : List UInt8, Hid (ptV C2 (lnS D) ix u (d + 1) = UT) := ⟨_, hid rfl⟩
    have hcu := hid (hc.out q u hu)
    rw [hUT.out] at hcu hta
    obtain ⟨g, o, rfl, hg, hrg, -⟩ := row_range hr.out (i := q) hlv
    obtain ⟨LX, hLX⟩ : ∃ L, (X q).toList = L := ⟨_, rfl⟩
    rw [hLX] at hrg
    have hVu : ValAt w0 u (.agg LX.toArray) := by
     have := hvv.out q u hu
     rw [← hLX, Array.toArray_toList]
     exact this
    obtain ⟨k1, b1, r1, t1, ko1, N1, kc1, vo1, M1, vc1, rfl⟩ := hVu.six
    have hrgA : Hid (∀ y : World, Below w0.heap.size w0 y → y.rangeAt g (o + q * 6) [.int .i64 k1, .bool b1, .string r1, .string t1, .slice ko1 N1 kc1, .slice vo1 M1 vc1]) := fun y hb j v hv => (hb.cell (p := ⟨g, o + q * 6 + j, none⟩) hg).trans (hrg j v hv)
    have hV := hid hVu
    have z1 : (Tryz.prog.info? 25).map (·.size) = some ([.int .i64 k1, .bool b1, .string r1, .string t1, .slice ko1 N1 kc1, .slice vo1 M1 vc1] : List Value).length := sizeVl
    clear hrg hVu hLX hu
    have hBw : w0.heap.size ≤ wr.heap.size := Nat.le_trans hB.out hR.out.size
    obtain ⟨L1, hL1⟩ : ∃ x : List UInt8, Hid (LQ ++ List.replicate E1 32 = x) := ⟨_, hid rfl⟩
    obtain ⟨L2, hL2⟩ : ∃ x : List UInt8, Hid (L1 ++ (quoL KN ++ [58, 32]) = x) := ⟨_, hid rfl⟩
    obtain ⟨L3, hL3⟩ : ∃ x : List UInt8, Hid (L2 ++ UT = x) := ⟨_, hid rfl⟩
    obtain ⟨L5, hL5⟩ : ∃ x : List UInt8, Hid (l ++ (123 :: (ptO C2 (lnS D) ix (vs.take (q + 1)) (ks.take (q + 1)) d 0 ++ tlP (q + 1) M)) = x) := ⟨_, hid rfl⟩
    have hfin : Hid (L3 ++ (if q + 1 < M then [44] else []) ++ [10] = L5) := by
     show _ = _
     rw [← hL5.out, hta.out, ← hL3.out, ← hL2.out, ← hL1.out, ← hLQ.out]
     unfold tlP
     rw [if_neg (Nat.succ_ne_zero q)]
     by_cases h0 : q = 0
     ·subst h0
      by_cases h1 : 0 + 1 < M
      ·simp [h1, C2]
      ·simp [h1, C2]
     ·rw [if_neg h0, if_pos hq, if_pos (Nat.pos_of_ne_zero h0)]
      by_cases h1 : q + 1 < M
      ·simp [h1, C2]
      ·simp [h1, C2]
    have hs5 : L5.length + E0 ≤ 140737488355328 := by
     rw [← hL5.out]
     have := tlP_len (q + 1) M
     simp only [List.length_append, List.length_cons]
     omega
    have hs3 : L3.length + 1 ≤ 140737488355328 := by
     rw [← hfin.out] at hs5
     simp only [List.length_append, List.length_cons, List.length_nil] at hs5
     omega
    have hs3u : L2.length + UT.length ≤ 140737488355328 := by
     rw [← hL3.out] at hs3
     simp only [List.length_append] at hs3
     omega
    have hs2 : L1.length + (quoL KN ++ [58, 32]).length ≤ 140737488355328 := by
     have : L2.length ≤ 140737488355328 := by omega
     rw [← hL2.out] at this
     simp only [List.length_append] at this ⊢
     omega
    have hs1 : LQ.length + E1 ≤ 140737488355328 := by
     have : L1.length ≤ 140737488355328 := by omega
     rw [← hL1.out] at this
     simp only [List.length_append, List.length_replicate] at this
     omega
    have hsp := hid (spc18_calls w0.heap.size LQ E1 hE1b hs1 L1 hL1 _ wr hBw hG)
    have gs5 := hid hs5
    have gs3 := hid hs3
    have gs3u := hid hs3u
    have gs2 := hid hs2
    clear hs5 hs3 hs3u hs2 hs1 hb2
    have hm1' := hm1.out
    go_wp2_with fail
    refine Calls.mono hsp.out ?_
    rintro e w3 ⟨v3, rfl, hG3, hR3⟩
    have G3 := hid hG3
    have A3 := hid (hR3.at hG.out hA.out)
    have R3 := hid (hR.out.trans hR3)
    clear hG3 hR3 hsp hG hA hR hBw d0 d1 d2 d3 d4 d5 hm1'
    have d0 : w3.cell? ⟨p, 0, none⟩ = some (.int .i64 6) := A3.out.cell 0
    have d4 : w3.cell? ⟨p, 4, none⟩ = some (.slice (some ⟨kb, koff, none⟩) N kc) := A3.out.cell 4
    have hB3 : Below w0.heap.size w0 w3 := hbx.out.trans (R3.out.below hv.out hB.out)
    have hkc3 := hkcA.out w3 hB3
    have a2 : ∀ u : World, (Op.stringOp .add (mkB (quoL KN)) ⟨#[58, 32]⟩).run Tryz.prog u = .ok (.string (mkB (quoL KN ++ [58, 32]))) u := fun u => mkB_add (b := [58, 32]) rfl (by have := gs2.out; omega) u
    clear hB3 hkcA
    go_wp2_with fail
    refine Calls.mono (hqu.out w3) ?_
    rintro e w3b ⟨rfl, hb⟩
    have G3b := hid (G3.out.kept hb)
    have A3b := hid (A3.out.keptAll hb)
    have R3b := hid (R3.out.trans (GrR.of_below hb))
    have hB3b : w0.heap.size ≤ w3b.heap.size := Nat.le_trans hB.out R3b.out.size
    have hpk := hid (put18_calls w0.heap.size L1 (mkB (quoL KN ++ [58, 32])) (by rw [mkB_size]; exact gs2.out) L2 (hid (by rw [← hL2.out]; rfl)) v3 w3b hB3b G3b)
    clear hb G3 A3 R3 d0 d4 hkc3 hqu
    go_wp2_with fail
    refine Calls.mono hpk.out ?_
    rintro e w4 ⟨v4, rfl, hG4, hR4⟩
    have G4 := hid hG4
    have A4 := hid (hR4.at G3b.out A3b.out)
    have R4 := hid (R3b.out.trans hR4)
    clear hG4 hR4 hpk G3b A3b R3b hB3b a2
    have d0 : w4.cell? ⟨p, 0, none⟩ = some (.int .i64 6) := A4.out.cell 0
    have d5 : w4.cell? ⟨p, 5, none⟩ = some (.slice (some ⟨g, o, none⟩) M vc) := A4.out.cell 5
    have hB4 : Below w0.heap.size w0 w4 := hbx.out.trans (R4.out.below hv.out hB.out)
    have hrgk := hid (hrgA.out w4 hB4)
    have hcu4 := hid (hcu.out L2 gs3u.out _ hV.out v4 w4 hB4 G4.out)
    rw [hL3.out] at hcu4
    clear hB4 hcu hrgA hV
    go_wp2_with (refine wpList_load_want 25 _ g (o + q * 6) [.int .i64 k1, .bool b1, .string r1, .string t1, .slice ko1 N1 kc1, .slice vo1 M1 vc1] _ hrgk.out Tryz.underlying25 z1 rfl rfl rfl (by rfl) ?_)
    refine Calls.mono hcu4.out ?_
    rintro e w5 ⟨v5, rfl, hG5, hR5⟩
    have G5 := hid hG5
    have A5 := hid (hR5.at G4.out A4.out)
    have R5 := hid (R4.out.trans hR5)
    have hB5 : w0.heap.size ≤ w5.heap.size := Nat.le_trans hB.out R5.out.size
    clear hG5 hR5 hcu4 hrgk z1 G4 A4 R4 d0 d5
    have d5 : w5.cell? ⟨p, 5, none⟩ = some (.slice (some ⟨g, o, none⟩) M vc) := A5.out.cell 5
    by_cases h1 : q + 1 < M
    ·have h1i : (q : Int) + 1 < (M : Int) := by omega
     rw [if_pos h1] at hfin
     obtain ⟨L4, hL4⟩ : ∃ x : List UInt8, Hid (L3 ++ (⟨#[44]⟩ : ByteArray).data.toList = x) := ⟨_, hid rfl⟩
     have hs4 : L4.length + 1 ≤ 140737488355328 := by
      have := gs5.out
      rw [← hfin.out] at this
      rw [← hL4.out]
      simp only [List.length_append, List.length_cons, List.length_nil] at this ⊢
      omega
     have hL45 : Hid (L4 ++ (⟨#[10]⟩ : ByteArray).data.toList = L5) := by
      show _ = _
      rw [← hL4.out]
      exact hfin.out
     have hpu := hid (put18_calls w0.heap.size L3 ⟨#[44]⟩ gs3.out L4 hL4 v5 w5 hB5 G5)
     go_wp2_with fail
     refine Calls.mono hpu.out ?_
     rintro e w6 ⟨v6, rfl, hG6, hR6⟩
     have G6 := hid hG6
     have A6 := hid (hR6.at G5.out A5.out)
     have R6 := hid (R5.out.trans hR6)
     have hB6 : w0.heap.size ≤ w6.heap.size := Nat.le_trans hB.out R6.out.size
     have hpu2 := hid (put18_calls w0.heap.size L4 ⟨#[10]⟩ hs4 L5 hL45 v6 w6 hB6 G6)
     clear hG6 hR6 hpu G5 A5 R5 d5 hB5 hs4
     go_wp2_with fail
     refine Calls.mono hpu2.out ?_
     rintro e w7 ⟨v7, rfl, hG7, hR7⟩
     have G7 := hid hG7
     have A7 := hid (hR7.at G6.out A6.out)
     have R7 := hid (R6.out.trans hR7)
     clear hG7 hR7 hpu2 G6 A6 R6 hB6
     go_wp2
     go_roundw
     case rel => exact ⟨q + 1, L5, by omega, by simp, hL5, G7, R7, A7⟩
     case measure => simp [intOf]; omega
    ·have h1i : decide ((q : Int) + 1 < (M : Int)) = false := by simp; omega
     rw [if_neg h1, List.append_nil] at hfin
     have hq' := hid hq
     have hMp2 := hid hMp
     obtain ⟨M', hM'⟩ : ∃ m, M = m := ⟨_, rfl⟩
     have hqb : (q : Int) + 1 ≤ 140737488351232 := by omega
     have h1n : ¬ (q + 1 < M) := h1
     clear h1 hq hqM hqi hMp hlv hM' M' h1n
     have hL45 : Hid (L3 ++ (⟨#[10]⟩ : ByteArray).data.toList = L5) := hfin.out
     have hpu2 := hid (put18_calls w0.heap.size L3 ⟨#[10]⟩ gs3.out L5 hL45 v5 w5 hB5 G5)
     go_wp2_with fail
     refine Calls.mono hpu2.out ?_
     rintro e w7 ⟨v7, rfl, hG7, hR7⟩
     have G7 := hid hG7
     have A7 := hid (hR7.at G5.out A5.out)
     have R7 := hid (R5.out.trans hR7)
     clear hG7 hR7 hpu2 G5 A5 R5 hB5 d5
     have hq := hq'.out
     go_wp2
     go_roundw
     case rel => exact ⟨q + 1, L5, by omega, by simp, hL5, G7, R7, A7⟩
     case measure => simp [intOf]; omega
   ·obtain rfl : q = M := by omega
    have htk : vs.take q = vs := by rw [← hM.out]; exact List.take_length
    have htk2 : ks.take q = ks := by rw [← hM.out, ← hkv.out]; exact List.take_length
    have hBw : w0.heap.size ≤ wr.heap.size := Nat.le_trans hB.out hR.out.size
    have htl : tlP q q = [10] := by unfold tlP; rw [if_neg (by omega), if_neg (Nat.lt_irrefl q)]
    rw [htk, htk2, htl] at hLQ
    obtain ⟨L1, hL1⟩ : ∃ x : List UInt8, Hid (LQ ++ List.replicate E0 32 = x) := ⟨_, hid rfl⟩
    have hLf : Hid (L1 ++ (⟨#[125]⟩ : ByteArray).data.toList = L) := by
     show _ = _
     rw [← hL1.out, ← hLQ.out, ← hL.out]
     simp
    have hs : L1.length + 1 ≤ 140737488355328 := by
     have := hn.out
     rw [← hLf.out] at this
     simp only [List.length_append, List.length_cons, List.length_nil] at this
     omega
    have hs0 : LQ.length + E0 ≤ 140737488355328 := by
     rw [← hL1.out] at hs
     simp only [List.length_append, List.length_replicate] at hs
     omega
    have hsp := hid (spc18_calls w0.heap.size LQ E0 hE0b hs0 L1 hL1 _ wr hBw hG)
    have gs := hid hs
    have hm0' := hm0.out
    clear htk htl hs hs0 htk2
    go_wp2_with fail
    refine Calls.mono hsp.out ?_
    rintro e w3 ⟨v3, rfl, hG3, hR3⟩
    have G3 := hid hG3
    have R3 := hid (hR.out.trans hR3)
    have hB3 : w0.heap.size ≤ w3.heap.size := Nat.le_trans hB.out R3.out.size
    have hpu := hid (put18_calls w0.heap.size L1 ⟨#[125]⟩ gs.out L hLf v3 w3 hB3 G3)
    clear hG3 hR3 hsp hG hA hR hBw d0 d1 d2 d3 d4 d5 hm0'
    go_wp2_with fail
    refine Calls.mono hpu.out ?_
    rintro e w4 ⟨v4, rfl, hG4, hR4⟩
    have G4 := hid hG4
    have R4 := hid (R3.out.trans hR4)
    clear hG4 hR4 hpu
    go_wp2
    go_ret
    exact ⟨_, rfl, G4.out, R4.out⟩
set_option maxRecDepth 10000 in
set_option maxHeartbeats 8000000 in
theorem prt18_1 (B : Nat) (b : Bool) (r t : ByteArray) (ko vo : Option Addr) (N kc M vc : Nat) (S : ByteArray) (hw : Hid (∀ u : World, Calls Tryz.prog 41 #[.agg #[.int .i64 1, .bool b, .string r, .string t, .slice ko N kc, .slice vo M vc]] u fun e w' => e = .returned (.string S) ∧ Below u.heap.size u w')) (l L : List UInt8) (hL : Hid (l ++ S.data.toList = L)) (hn : l.length + S.size ≤ 140737488355328) (ix d : Int) (v : Value) (x : World) (hB : B ≤ x.heap.size) (hv : Hid (ByG B x v l)) :
  Calls Tryz.prog 34 #[v, .agg #[.int .i64 1, .bool b, .string r, .string t, .slice ko N kc, .slice vo M vc], .int .i64 ix, .int .i64 d] x fun e w' => PrP B L v x e w' := by
 have A0 := hid (At.new x #[.int .i64 1, .bool b, .string r, .string t, .slice ko N kc, .slice vo M vc] 25)
 have q0 : Below x.heap.size x (x.alloc (.cells #[.int .i64 1, .bool b, .string r, .string t, .slice ko N kc, .slice vo M vc] 25)) := (Below.refl _ _).alloc (Nat.le_refl _) _
 have G0 := hid (hv.out.kept q0)
 have R0 : Hid (GrR x v (x.alloc (.cells #[.int .i64 1, .bool b, .string r, .string t, .slice ko N kc, .slice vo M vc] 25)) v) := GrR.of_below q0
 obtain ⟨p, hp⟩ : ∃ p, Hid (x.heap.size = p) := ⟨_, rfl⟩
 rw [hp.out] at A0
 clear q0
 go_enter Tryz.func34, Tryz.ntmps34
 go_upto_region 1 with fail
 rw [hp.out]
 generalize x.alloc (.cells #[.int .i64 1, .bool b, .string r, .string t, .slice ko N kc, .slice vo M vc] 25) = W at A0 G0 R0 ⊢
 have d0 := A0.out.cell 0
 have d1 := A0.out.cell 1
 have d2 := A0.out.cell 2
 have d3 := A0.out.cell 3
 have d4 := A0.out.cell 4
 have d5 := A0.out.cell 5
 simp only [List.getElem?_toArray, List.getElem?_cons_zero, List.getElem?_cons_succ] at d0 d1 d2 d3 d4 d5
 go_wp2_with fail
 refine Calls.mono (hw.out W) ?_
 rintro e w1 ⟨rfl, hb⟩
 have G1 := hid (G0.out.kept hb)
 have R1 := hid (R0.out.trans (GrR.of_below hb))
 have hB1 : B ≤ w1.heap.size := Nat.le_trans hB R1.out.size
 have hpu := hid (put18_calls B l S hn L hL v w1 hB1 G1)
 clear hb hw A0 G0 R0 d0 d1 d2 d3 d4 d5
 go_wp2_with fail
 refine Calls.mono hpu.out ?_
 rintro e w2 ⟨v2, rfl, hG2, hR2⟩
 have G2 := hid hG2
 have R2 := hid (R1.out.trans hR2)
 clear hG2 hR2 hpu
 go_wp2
 go_ret
 exact ⟨_, rfl, G2.out, R2.out⟩
set_option maxRecDepth 10000 in
set_option maxHeartbeats 8000000 in
theorem prt18_2 (B : Nat) (b : Bool) (r t : ByteArray) (ko vo : Option Addr) (N kc M vc : Nat) (S : ByteArray) (hw : Hid (∀ u : World, Calls Tryz.prog 41 #[.agg #[.int .i64 2, .bool b, .string r, .string t, .slice ko N kc, .slice vo M vc]] u fun e w' => e = .returned (.string S) ∧ Below u.heap.size u w')) (l L : List UInt8) (hL : Hid (l ++ S.data.toList = L)) (hn : l.length + S.size ≤ 140737488355328) (ix d : Int) (v : Value) (x : World) (hB : B ≤ x.heap.size) (hv : Hid (ByG B x v l)) :
  Calls Tryz.prog 34 #[v, .agg #[.int .i64 2, .bool b, .string r, .string t, .slice ko N kc, .slice vo M vc], .int .i64 ix, .int .i64 d] x fun e w' => PrP B L v x e w' := by
 have A0 := hid (At.new x #[.int .i64 2, .bool b, .string r, .string t, .slice ko N kc, .slice vo M vc] 25)
 have q0 : Below x.heap.size x (x.alloc (.cells #[.int .i64 2, .bool b, .string r, .string t, .slice ko N kc, .slice vo M vc] 25)) := (Below.refl _ _).alloc (Nat.le_refl _) _
 have G0 := hid (hv.out.kept q0)
 have R0 : Hid (GrR x v (x.alloc (.cells #[.int .i64 2, .bool b, .string r, .string t, .slice ko N kc, .slice vo M vc] 25)) v) := GrR.of_below q0
 obtain ⟨p, hp⟩ : ∃ p, Hid (x.heap.size = p) := ⟨_, rfl⟩
 rw [hp.out] at A0
 clear q0
 go_enter Tryz.func34, Tryz.ntmps34
 go_upto_region 1 with fail
 rw [hp.out]
 generalize x.alloc (.cells #[.int .i64 2, .bool b, .string r, .string t, .slice ko N kc, .slice vo M vc] 25) = W at A0 G0 R0 ⊢
 have d0 := A0.out.cell 0
 have d1 := A0.out.cell 1
 have d2 := A0.out.cell 2
 have d3 := A0.out.cell 3
 have d4 := A0.out.cell 4
 have d5 := A0.out.cell 5
 simp only [List.getElem?_toArray, List.getElem?_cons_zero, List.getElem?_cons_succ] at d0 d1 d2 d3 d4 d5
 go_wp2_with fail
 refine Calls.mono (hw.out W) ?_
 rintro e w1 ⟨rfl, hb⟩
 have G1 := hid (G0.out.kept hb)
 have R1 := hid (R0.out.trans (GrR.of_below hb))
 have hB1 : B ≤ w1.heap.size := Nat.le_trans hB R1.out.size
 have hpu := hid (put18_calls B l S hn L hL v w1 hB1 G1)
 clear hb hw A0 G0 R0 d0 d1 d2 d3 d4 d5
 go_wp2_with fail
 refine Calls.mono hpu.out ?_
 rintro e w2 ⟨v2, rfl, hG2, hR2⟩
 have G2 := hid hG2
 have R2 := hid (R1.out.trans hR2)
 clear hG2 hR2 hpu
 go_wp2
 go_ret
 exact ⟨_, rfl, G2.out, R2.out⟩
set_option maxRecDepth 10000 in
set_option maxHeartbeats 8000000 in
theorem prt18_3 (B : Nat) (b : Bool) (r t : ByteArray) (ko vo : Option Addr) (N kc M vc : Nat) (S : ByteArray) (hw : Hid (∀ u : World, Calls Tryz.prog 41 #[.agg #[.int .i64 3, .bool b, .string r, .string t, .slice ko N kc, .slice vo M vc]] u fun e w' => e = .returned (.string S) ∧ Below u.heap.size u w')) (l L : List UInt8) (hL : Hid (l ++ S.data.toList = L)) (hn : l.length + S.size ≤ 140737488355328) (ix d : Int) (v : Value) (x : World) (hB : B ≤ x.heap.size) (hv : Hid (ByG B x v l)) :
  Calls Tryz.prog 34 #[v, .agg #[.int .i64 3, .bool b, .string r, .string t, .slice ko N kc, .slice vo M vc], .int .i64 ix, .int .i64 d] x fun e w' => PrP B L v x e w' := by
 have A0 := hid (At.new x #[.int .i64 3, .bool b, .string r, .string t, .slice ko N kc, .slice vo M vc] 25)
 have q0 : Below x.heap.size x (x.alloc (.cells #[.int .i64 3, .bool b, .string r, .string t, .slice ko N kc, .slice vo M vc] 25)) := (Below.refl _ _).alloc (Nat.le_refl _) _
 have G0 := hid (hv.out.kept q0)
 have R0 : Hid (GrR x v (x.alloc (.cells #[.int .i64 3, .bool b, .string r, .string t, .slice ko N kc, .slice vo M vc] 25)) v) := GrR.of_below q0
 obtain ⟨p, hp⟩ : ∃ p, Hid (x.heap.size = p) := ⟨_, rfl⟩
 rw [hp.out] at A0
 clear q0
 go_enter Tryz.func34, Tryz.ntmps34
 go_upto_region 1 with fail
 rw [hp.out]
 generalize x.alloc (.cells #[.int .i64 3, .bool b, .string r, .string t, .slice ko N kc, .slice vo M vc] 25) = W at A0 G0 R0 ⊢
 have d0 := A0.out.cell 0
 have d1 := A0.out.cell 1
 have d2 := A0.out.cell 2
 have d3 := A0.out.cell 3
 have d4 := A0.out.cell 4
 have d5 := A0.out.cell 5
 simp only [List.getElem?_toArray, List.getElem?_cons_zero, List.getElem?_cons_succ] at d0 d1 d2 d3 d4 d5
 go_wp2_with fail
 refine Calls.mono (hw.out W) ?_
 rintro e w1 ⟨rfl, hb⟩
 have G1 := hid (G0.out.kept hb)
 have R1 := hid (R0.out.trans (GrR.of_below hb))
 have hB1 : B ≤ w1.heap.size := Nat.le_trans hB R1.out.size
 have hpu := hid (put18_calls B l S hn L hL v w1 hB1 G1)
 clear hb hw A0 G0 R0 d0 d1 d2 d3 d4 d5
 go_wp2_with fail
 refine Calls.mono hpu.out ?_
 rintro e w2 ⟨v2, rfl, hG2, hR2⟩
 have G2 := hid hG2
 have R2 := hid (R1.out.trans hR2)
 clear hG2 hR2 hpu
 go_wp2
 go_ret
 exact ⟨_, rfl, G2.out, R2.out⟩
set_option maxRecDepth 10000 in
set_option maxHeartbeats 8000000 in
theorem prt18_4 (B : Nat) (b : Bool) (r t : ByteArray) (ko vo : Option Addr) (N kc M vc : Nat) (S : ByteArray) (hw : Hid (∀ u : World, Calls Tryz.prog 41 #[.agg #[.int .i64 4, .bool b, .string r, .string t, .slice ko N kc, .slice vo M vc]] u fun e w' => e = .returned (.string S) ∧ Below u.heap.size u w')) (l L : List UInt8) (hL : Hid (l ++ S.data.toList = L)) (hn : l.length + S.size ≤ 140737488355328) (ix d : Int) (v : Value) (x : World) (hB : B ≤ x.heap.size) (hv : Hid (ByG B x v l)) :
  Calls Tryz.prog 34 #[v, .agg #[.int .i64 4, .bool b, .string r, .string t, .slice ko N kc, .slice vo M vc], .int .i64 ix, .int .i64 d] x fun e w' => PrP B L v x e w' := by
 have A0 := hid (At.new x #[.int .i64 4, .bool b, .string r, .string t, .slice ko N kc, .slice vo M vc] 25)
 have q0 : Below x.heap.size x (x.alloc (.cells #[.int .i64 4, .bool b, .string r, .string t, .slice ko N kc, .slice vo M vc] 25)) := (Below.refl _ _).alloc (Nat.le_refl _) _
 have G0 := hid (hv.out.kept q0)
 have R0 : Hid (GrR x v (x.alloc (.cells #[.int .i64 4, .bool b, .string r, .string t, .slice ko N kc, .slice vo M vc] 25)) v) := GrR.of_below q0
 obtain ⟨p, hp⟩ : ∃ p, Hid (x.heap.size = p) := ⟨_, rfl⟩
 rw [hp.out] at A0
 clear q0
 go_enter Tryz.func34, Tryz.ntmps34
 go_upto_region 1 with fail
 rw [hp.out]
 generalize x.alloc (.cells #[.int .i64 4, .bool b, .string r, .string t, .slice ko N kc, .slice vo M vc] 25) = W at A0 G0 R0 ⊢
 have d0 := A0.out.cell 0
 have d1 := A0.out.cell 1
 have d2 := A0.out.cell 2
 have d3 := A0.out.cell 3
 have d4 := A0.out.cell 4
 have d5 := A0.out.cell 5
 simp only [List.getElem?_toArray, List.getElem?_cons_zero, List.getElem?_cons_succ] at d0 d1 d2 d3 d4 d5
 go_wp2_with fail
 refine Calls.mono (hw.out W) ?_
 rintro e w1 ⟨rfl, hb⟩
 have G1 := hid (G0.out.kept hb)
 have R1 := hid (R0.out.trans (GrR.of_below hb))
 have hB1 : B ≤ w1.heap.size := Nat.le_trans hB R1.out.size
 have hpu := hid (put18_calls B l S hn L hL v w1 hB1 G1)
 clear hb hw A0 G0 R0 d0 d1 d2 d3 d4 d5
 go_wp2_with fail
 refine Calls.mono hpu.out ?_
 rintro e w2 ⟨v2, rfl, hG2, hR2⟩
 have G2 := hid hG2
 have R2 := hid (R1.out.trans hR2)
 clear hG2 hR2 hpu
 go_wp2
 go_ret
 exact ⟨_, rfl, G2.out, R2.out⟩
theorem prt_ex (w0 : World) (ix D : Nat) (hix : ix ≤ 8) : ∀ (n : Nat) (t : Vt), SizeOf.sizeOf t ≤ n → ∀ (lv : Int), wfV t lv = true → szV t → ∀ (d : Nat), d + depV t ≤ 1048576 → ix * (d + depV t) ≤ D → ∀ (l : List UInt8), l.length + (ptV C2 (lnS D) ix t d).length ≤ 140737488355328 → ∀ (va : Value), ValAt w0 t va → ∀ (v : Value) (x : World), Below w0.heap.size w0 x → ByG w0.heap.size x v l →
  Calls Tryz.prog 34 #[v, va, .int .i64 (ix : Int), .int .i64 (d : Int)] x fun e w' => PrP w0.heap.size (l ++ ptV C2 (lnS D) ix t d) v x e w' := by
 intro n
 induction n with
 | zero =>
  intro t hs
  cases t
  simp at hs
 | succ n ih =>
  intro t hs lv hw hsz d hdp hD l hn va ha v x hbx hv
  cases ha with
  | mk k b r t ks vs ko kc vo vc X hwf hz hk hr hvv =>
  obtain ⟨h1, h6, hkl, hwl⟩ := wf_kind hw
  have hsz' := hsz
  unfold szV at hsz'
  have hvl : (vs.length : Int) ≤ 140737488351232 := by have := hz.2.2.2; unfold capT at this; omega
  have hB := hbx.size
  have hdpe : k = 5 ∨ k = 6 → depV (.mk k b r t ks vs) = depL vs + 1 := fun h => by unfold depV; rw [if_pos h]
  have hD0 : ix * d ≤ D := Nat.le_trans (Nat.mul_le_mul_left ix (Nat.le_add_right _ _)) hD
  have hc : k = 5 ∨ k = 6 → ∀ (q : Nat) (u : Vt), vs[q]? = some u → ∀ (l : List UInt8), l.length + (ptV C2 (lnS D) ix u (d + 1)).length ≤ 140737488355328 → ∀ (va : Value), ValAt w0 u va → ∀ (v : Value) (x : World), Below w0.heap.size w0 x → ByG w0.heap.size x v l → Calls Tryz.prog 34 #[v, va, .int .i64 (ix : Int), .int .i64 ((d : Int) + 1)] x fun e w' => PrP w0.heap.size (l ++ ptV C2 (lnS D) ix u (d + 1)) v x e w' := fun hk56 q u hu l hl va hva v x hx hvx => by
   have hsu := kid_size (k := k) (b := b) (r := r) (t := t) (ks := ks) hu
   have hdu := depL_get hu
   rw [hdpe hk56] at hdp hD
   exact ih u (by omega) (lv - 1) (wfL_get hwl hu) (szL_get hsz'.2.2 hu) (d + 1) (by omega) (Nat.le_trans (Nat.mul_le_mul_left ix (by omega)) hD) l hl va hva v x hx hvx
  have hcase : k = 1 ∨ k = 2 ∨ k = 3 ∨ k = 4 ∨ k = 5 ∨ k = 6 := by omega
  rcases hcase with rfl | rfl | rfl | rfl | rfl | rfl
  ·have e : ptV C2 (lnS D) ix (.mk 1 b r t ks vs) d = (⟨#[110, 117, 108, 108]⟩ : ByteArray).data.toList := by simp [ptV, wordL]
   rw [e] at hn ⊢
   exact prt18_1 w0.heap.size b r t ko vo ks.length kc vs.length vc _ (hid (fun u => word18_1 b r t ko vo ks.length kc vs.length vc u)) l _ (hid rfl) hn _ _ v x hB (hid hv)
  ·cases b with
   | true =>
    have e : ptV C2 (lnS D) ix (.mk 2 true r t ks vs) d = (⟨#[116, 114, 117, 101]⟩ : ByteArray).data.toList := by simp [ptV, wordL]
    rw [e] at hn ⊢
    exact prt18_2 w0.heap.size true r t ko vo ks.length kc vs.length vc _ (hid (fun u => word18_t r t ko vo ks.length kc vs.length vc u)) l _ (hid rfl) hn _ _ v x hB (hid hv)
   | false =>
    have e : ptV C2 (lnS D) ix (.mk 2 false r t ks vs) d = (⟨#[102, 97, 108, 115, 101]⟩ : ByteArray).data.toList := by simp [ptV, wordL]
    rw [e] at hn ⊢
    exact prt18_2 w0.heap.size false r t ko vo ks.length kc vs.length vc _ (hid (fun u => word18_f r t ko vo ks.length kc vs.length vc u)) l _ (hid rfl) hn _ _ v x hB (hid hv)
  ·have e : ptV C2 (lnS D) ix (.mk 3 b r t ks vs) d = r.data.toList := by simp [ptV, wordL]
   rw [e] at hn ⊢
   have hn' : l.length + r.size ≤ 140737488355328 := by have : r.data.toList.length = r.size := Array.length_toList; omega
   exact prt18_3 w0.heap.size b r t ko vo ks.length kc vs.length vc _ (hid (fun u => word18_3 b r t ko vo ks.length kc vs.length vc u)) l _ (hid rfl) hn' _ _ v x hB (hid hv)
  ·have e : ptV C2 (lnS D) ix (.mk 4 b r t ks vs) d = quoL t := by simp [ptV]
   rw [e] at hn ⊢
   exact prt18_4 w0.heap.size b r t ko vo ks.length kc vs.length vc _ (hid (fun u => word18_4 b r t ko vo ks.length kc vs.length vc hsz'.1 u)) l _ (hid rfl) (by rw [mkB_size]; exact hn) _ _ v x hB (hid hv)
  ·have e : 91 :: (ptA C2 (lnS D) ix vs d 0 ++ ((if 0 < vs.length then fdL (lnS D) ix d else []) ++ [93])) = ptV C2 (lnS D) ix (.mk 5 b r t ks vs) d := by simp [ptV]
   have hdd := hdpe (.inl rfl)
   exact prt18_5 w0 b r t ks vs ko vo kc vc X ix D d hix (by omega) (hid (fun _ => Nat.le_trans (Nat.mul_le_mul_left ix (by omega)) hD)) (hid hD0) (hid (hc (.inl rfl))) l _ (hid (by rw [e])) (hid (by rw [List.length_append]; exact hn)) hvl (hid hr) (hid hvv) v x (hid hbx) (hid hv)
  ·have e : 123 :: (ptO C2 (lnS D) ix vs ks d 0 ++ ((if 0 < vs.length then fdL (lnS D) ix d else []) ++ [125])) = ptV C2 (lnS D) ix (.mk 6 b r t ks vs) d := by simp [ptV]
   have hdd := hdpe (.inr rfl)
   exact prt18_6 w0 b r t ks vs (hid (hkl rfl)) (hid hsz'.2.1) ko vo kc vc X ix D d hix (by omega) (hid (fun _ => Nat.le_trans (Nat.mul_le_mul_left ix (by omega)) hD)) (hid hD0) (hid (hc (.inr rfl))) l _ (hid (by rw [e])) (hid (by rw [List.length_append]; exact hn)) hvl (hid hk) (hid hr) (hid hvv) v x (hid hbx) (hid hv)
set_option maxRecDepth 10000 in
set_option maxHeartbeats 8000000 in
theorem prtR_calls (t : Vt) (va : Value) (hsz : szV t) (hdp : depV t ≤ 1048576) (nI : Int) (hn : ∀ ix : Nat, ix ≤ 8 → (preL ix t).length ≤ 140737488355328) (w : World) (ha : ValAt w t va) (F : Bool) (hF : wfV t 1024 = F) (S : ByteArray) (E : Int) (hS : Hid (prS F nI t = (S, E))) :
  Calls Tryz.prog 14 #[va, .int .i64 nI] w fun e w' => e = .returned (.tuple #[.string S, .int .i64 E]) ∧ Below w.heap.size w w' := by
 have hfo := hid (fun u h1 => formed17_calls t hsz va u h1)
 rw [hF] at hfo
 have hpx := hid (fun (e : F = true) (ix : Nat) (h8 : ix ≤ 8) (w0 : World) (h0 : ValAt w0 t va) => prt_ex w0 ix (ix * depV t) h8 _ t (Nat.le_refl _) 1024 (hF.trans e) hsz 0 (by omega) (by rw [Nat.zero_add]; exact Nat.le_refl _) [] (by have := hn ix h8; unfold preL at this; simpa using this) va h0 (.slice none 0 0) w0 (Below.refl _ _) (World.ownsRow_nil _ _ _ _))
 unfold prS at hS
 have hpl := hid (show ∀ ix, ptV C2 (lnS (ix * depV t)) ix t 0 = preL ix t from fun _ => rfl)
 simp only [List.nil_append, hpl.out] at hpx
 have ha' := hid ha
 cases ha with
 | mk k b r t0 ks vs ko kc vo vc X hw hzz hk hr hv =>
 clear hw hzz hk hr hv hF hn hpl hsz hdp
 generalize ks.length = N at *
 generalize vs.length = M at *
 have A1 : Hid (At (w.alloc (.cells #[.int .i64 k, .bool b, .string r, .string t0, .slice ko N kc, .slice vo M vc] 25)) w.heap.size #[.int .i64 k, .bool b, .string r, .string t0, .slice ko N kc, .slice vo M vc] 25) := At.new w _ _
 have B1 : Hid (Below w.heap.size w (w.alloc (.cells #[.int .i64 k, .bool b, .string r, .string t0, .slice ko N kc, .slice vo M vc] 25))) := (Below.refl _ w).alloc (Nat.le_refl _) _
 go_enter Tryz.func14, Tryz.ntmps14
 go_upto_region 1 with fail
 generalize w.alloc (.cells #[.int .i64 k, .bool b, .string r, .string t0, .slice ko N kc, .slice vo M vc] 25) = W1 at A1 B1 ⊢
 have d0 := A1.out.cell 0
 have d1 := A1.out.cell 1
 have d2 := A1.out.cell 2
 have d3 := A1.out.cell 3
 have d4 := A1.out.cell 4
 have d5 := A1.out.cell 5
 simp only [List.getElem?_toArray, List.getElem?_cons_zero, List.getElem?_cons_succ] at d0 d1 d2 d3 d4 d5
 go_wp2_with fail
 refine Calls.mono (hfo.out W1 (ha'.out.kept B1.out)) ?_
 rintro e w2 ⟨rfl, hb2⟩
 have A2 := hid (A1.out.keptAll hb2)
 have B2 := hid (B1.out.trans (hb2.mono B1.out.size))
 clear hb2 hfo A1 B1 d0 d1 d2 d3 d4 d5
 cases F with
 | false =>
  rw [if_pos rfl] at hS
  obtain ⟨rfl, rfl⟩ := Prod.mk.inj hS.out
  go_wp2
  refine bodyPost_ret (v := .tuple #[.string ⟨#[]⟩, .int .i64 1]) (by simp [results, Tryz.results14, go_sem]) rfl ⟨rfl, B2.out⟩
 | true =>
  rw [if_neg (by simp)] at hS
  by_cases h0 : nI < 0
  ·rw [if_pos (.inl h0)] at hS
   obtain ⟨rfl, rfl⟩ := Prod.mk.inj hS.out
   go_wp2
   refine bodyPost_ret (v := .tuple #[.string ⟨#[]⟩, .int .i64 2]) (by simp [results, Tryz.results14, go_sem]) rfl ⟨rfl, B2.out⟩
  ·by_cases h8 : 8 < nI
   ·rw [if_pos (.inr h8)] at hS
    obtain ⟨rfl, rfl⟩ := Prod.mk.inj hS.out
    go_wp2
    refine bodyPost_ret (v := .tuple #[.string ⟨#[]⟩, .int .i64 2]) (by simp [results, Tryz.results14, go_sem]) rfl ⟨rfl, B2.out⟩
   ·rw [if_neg (by omega)] at hS
    obtain ⟨ix, rfl⟩ : ∃ ix : Nat, nI = (ix : Int) := ⟨nI.toNat, by omega⟩
    rw [Int.toNat_natCast] at hS
    obtain ⟨rfl, rfl⟩ := Prod.mk.inj hS.out
    have hc2 := hid (hpx.out (by first | rfl | trivial) ix (by omega) w2 (ha'.out.kept B2.out))
    obtain ⟨PL, hPL⟩ : ∃ x : List UInt8, Hid (preL ix (.mk k b r t0 ks vs) = x) := ⟨_, hid rfl⟩
    rw [hPL.out] at hc2
    have d0 := A2.out.cell 0
    have d1 := A2.out.cell 1
    have d2 := A2.out.cell 2
    have d3 := A2.out.cell 3
    have d4 := A2.out.cell 4
    have d5 := A2.out.cell 5
    simp only [List.getElem?_toArray, List.getElem?_cons_zero, List.getElem?_cons_succ] at d0 d1 d2 d3 d4 d5
    go_wp2_with fail
    refine Calls.mono hc2.out ?_
    rintro e w3 ⟨v3, rfl, hG, hR⟩
    have hcv := hid (conv_rowP hG)
    have B3 := hid (B2.out.trans ((hR.below (show ByG w2.heap.size w2 (.slice none 0 0) [] from World.ownsRow_nil _ _ _ _) (Nat.le_refl _)).mono B2.out.size))
    clear hG hR hc2 d0 d1 d2 d3 d4 d5
    have hcv' := hcv.out
    go_wp2
    refine bodyPost_ret (v := .tuple #[.string ⟨PL.toArray⟩, .int .i64 0]) (by simp [results, Tryz.results14, go_sem]) rfl ⟨by rw [hPL.out], B3.out⟩
end Go.Proofs.YtlhbgfhmcjaabaaGreatDoor
