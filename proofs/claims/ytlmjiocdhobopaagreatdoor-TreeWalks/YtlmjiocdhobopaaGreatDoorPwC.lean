/-
 tree.walk: hands over a value and its parts.
-/
import Derived.Test.YtlmjiocdhobopaaGreatDoorPack3
import Derived.Test.YtlmjiocdhobopaaGreatDoorTellR
import Derived.Test.YtlmjiocdhobopaaGreatDoorPack6
import Derived.Deep.RegionWith
namespace Go.Proofs.YtlmjiocdhobopaaGreatDoor
open Go.RowKit Go.Shelf
/-- What a round keeps: the blocks of which S holds, and all from B on. -/
def KpS (S : Nat → Prop) (B : Nat) (W W' : World) : Prop := W.heap.size ≤ W'.heap.size ∧ ∀ k o, (S k ∨ B ≤ k) → W.heap[k]? = some o → W'.heap[k]? = some o
theorem KpS.refl (S : Nat → Prop) (B : Nat) (W : World) : KpS S B W W := ⟨Nat.le_refl _, fun _ _ _ h => h⟩
theorem KpS.trans {S : Nat → Prop} {B : Nat} {X Y Z : World} (h : KpS S B X Y) (h' : KpS S B Y Z) : KpS S B X Z := ⟨Nat.le_trans h.1 h'.1, fun k o hk ho => h'.2 k o hk (h.2 k o hk ho)⟩
theorem KpS.below {S : Nat → Prop} {B : Nat} {W W' : World} (h : Below W.heap.size W W') : KpS S B W W' := ⟨h.size, fun k _ _ ho => (h.block k (Array.getElem?_eq_some_iff.1 ho).1).trans ho⟩
theorem KpS.same {S : Nat → Prop} {B : Nat} {W W' : World} (h : KpS S B W W') : SameOn (fun k => S k ∨ B ≤ k) W W' := ⟨h.1, fun b hb hl => by
 have e : W.heap[b]? = some W.heap[b] := Array.getElem?_eq_getElem hl
 rw [h.2 b _ hb e, e]⟩
theorem KpS.at {S : Nat → Prop} {B b : Nat} {W W' : World} {cs : Array Value} {t : TypeId} (h : KpS S B W W') (hA : At W b cs t) (hb : S b ∨ B ≤ b) : At W' b cs t := h.2 b _ hb hA
theorem KpS.val {S : Nat → Prop} {B : Nat} {W W' : World} {t : Vt} {v : Value} (h : KpS S B W W') (hv : ValOn S W t v) : ValOn S W' t v :=
 hv.kept (fun _ _ h => h) ⟨h.1, fun b hb hl => h.same.2 b (.inl hb) hl⟩
/-- The same, but for what lies from c on: there lies what the round was handed. -/
def KpC (S : Nat → Prop) (B c : Nat) (W W' : World) : Prop := W.heap.size ≤ W'.heap.size ∧ ∀ k o, (S k ∨ (B ≤ k ∧ k < c)) → W.heap[k]? = some o → W'.heap[k]? = some o
theorem KpC.trans {S : Nat → Prop} {B c : Nat} {X Y Z : World} (h : KpC S B c X Y) (h' : KpC S B c Y Z) : KpC S B c X Z := ⟨Nat.le_trans h.1 h'.1, fun k o hk ho => h'.2 k o hk (h.2 k o hk ho)⟩
theorem KpS.c {S : Nat → Prop} {B c : Nat} {W W' : World} (h : KpS S B W W') : KpC S B c W W' := ⟨h.1, fun k o hk ho => h.2 k o (hk.imp id (fun h => h.1)) ho⟩
theorem KpC.at {S : Nat → Prop} {B b c : Nat} {W W' : World} {cs : Array Value} {t : TypeId} (h : KpC S B c W W') (hA : At W b cs t) (hb : S b ∨ (B ≤ b ∧ b < c)) : At W' b cs t := h.2 b _ hb hA
/-- What was there at the beginning is kept, where what is handed over lies behind it. -/
theorem KpC.from {S : Nat → Prop} {B c : Nat} {W X Y : World} (h : KpS S B W X) (h' : KpC S B c X Y) (hc : W.heap.size ≤ c) : KpS S B W Y :=
 ⟨Nat.le_trans h.1 h'.1, fun k o hk ho => h'.2 k o (hk.imp id (fun h => ⟨h, by have := (Array.getElem?_eq_some_iff.1 ho).1; omega⟩)) (h.2 k o hk ho)⟩
/-- What is told: its memory lies from c on. -/
def TellE (L : List (List UInt8 × Vt)) (b r c : Nat) (x : Array Value) (W : World) : Prop := ∃ p t v, L[r]? = some (p, t) ∧ x = #[.string (mkL p), v] ∧ b ≤ c ∧ c ≤ W.heap.size ∧ ValOn (fun k => c ≤ k) W t v ∧ TopAt c W v
theorem add_run {x y : List UInt8} (h : x.length + y.length ≤ 140737488355328) : ∀ u : World, (Op.stringOp .add (mkL x) (mkL y)).run Tryz.prog u = .ok (.string (mkL (x ++ y))) u := fun u => by
 rw [run_string_add_sum u (mkL x) (mkL y) (by rw [mkL_size, mkL_size]; omega)]
 have e : mkL x ++ mkL y = mkL (x ++ y) := by
  apply ByteArray.ext
  rw [ByteArray.data_append]
  show x.toArray ++ y.toArray = (x ++ y).toArray
  rw [List.append_toArray]
 rw [e]
set_option maxRecDepth 10000 in
set_option maxHeartbeats 8000000 in
theorem walk_ex (S : Nat → Prop) (B l nn : Nat) (J Jx : Nat → World → Prop) (L : List (List UInt8 × Vt)) (hJ : BFree B J) (hGd : ∀ r W, J r W → PowT W ∧ MxI W)
  (hL : ∀ x ∈ L, x.1.length ≤ 1099511627776)
  (hY : ∀ r c x W1, J r W1 → r < L.length → TellE L B r c x W1 → YieldAt Fence.wide (nn - 1) Tryz.prog l x W1 fun e W' =>
   (e = .returned (.bool true) ∧ J (r + 1) W' ∧ KpC S B c W1 W') ∨ (e = .returned (.bool false) ∧ Jx (r + 1) W' ∧ KpC S B c W1 W')) :
  ∀ (m : Nat) (t : Vt), SizeOf.sizeOf t ≤ m → lnV t → okP t → ∀ (p : List UInt8) (va : Value) (r : Nat) (W : World), B ≤ W.heap.size → ValOn S W t va → J r W → PartAt L r (prV p t) →
  CallsIn Fence.wide nn Tryz.prog 16 #[.string (mkL p), va, .func (.yield l) #[] #[]] W fun e W' =>
   (e = .returned (.bool true) ∧ J (r + (prV p t).length) W' ∧ KpS S B W W') ∨ (e = .returned (.bool false) ∧ (∃ r', r' ≤ L.length ∧ Jx r' W') ∧ KpS S B W W') := by
 intro m
 induction m with
 | zero =>
  intro t hs
  cases t
  simp at hs
 | succ m ih =>
  intro t hs hln hok p va r W hB hV hJr hPart
  have hV0 := hV
  cases hV with
  | mk k b rr tx ks vs ko kc vo vc X hw hz hk hr hv =>
  have ih' := hid ih
  have hs' := hid hs
  have hln' := hid hln
  have hok' := hid hok
  have hV' := hid hV0
  have hk' := hid hk
  have hr' := hid hr
  have hv' := hid hv
  have hP' := hid hPart
  have hJ' := hid hJ
  have hY' := hid hY
  have hGd' := hid hGd
  have hL' := hid hL
  obtain ⟨N, hN⟩ : ∃ N, Hid (ks.length = N) := ⟨_, rfl⟩
  obtain ⟨M, hM⟩ : ∃ M, Hid (vs.length = M) := ⟨_, rfl⟩
  rw [hN.out, hM.out] at hV'
  rw [hN.out, hM.out]
  have hMi : (M : Int) ≤ 9223372036854775807 := by have := hz.2.2.2; rw [hM.out] at this; unfold capT at this; omega
  have hlt0 := hid (show r < L.length from (List.getElem?_eq_some_iff.1 hPart.head).1)
  clear ih hs hln hok hV0 hk hr hv hPart hJ hY hGd hL hz hw
  have A1 : Hid (At (W.alloc (.cells #[.int .i64 k, .bool b, .string rr, .string tx, .slice ko N kc, .slice vo M vc] 25)) W.heap.size #[.int .i64 k, .bool b, .string rr, .string tx, .slice ko N kc, .slice vo M vc] 25) := At.new W _ _
  have B1 : Hid (Below W.heap.size W (W.alloc (.cells #[.int .i64 k, .bool b, .string rr, .string tx, .slice ko N kc, .slice vo M vc] 25))) := (Below.refl _ W).alloc (Nat.le_refl _) _
  have s1 : Hid ((W.alloc (.cells #[.int .i64 k, .bool b, .string rr, .string tx, .slice ko N kc, .slice vo M vc] 25)).heap.size = W.heap.size + 1) := World.size_alloc _ _
  have J1 := hid (hJ'.out r _ _ hJr (B1.out.mono hB))
  generalize hW1 : W.alloc (.cells #[.int .i64 k, .bool b, .string rr, .string tx, .slice ko N kc, .slice vo M vc] 25) = W1 at A1 B1 s1 J1
  have V1 := hid (hV'.out.keptB B1.out)
  have hcp := hid (copiedP_top _ _ (Nat.le_refl _) hln'.out _ W1 V1.out.at)
  clear hJr
  refine callsIn_of_wp Tryz.func16 rfl trivial ?_ rfl
  simp only [Tryz.ntmps16, List.size_toArray, List.length_cons, List.length_nil, Nat.reduceAdd, Nat.reduceSub, Array.replicate_succ, Array.replicate_zero, List.push_toArray, List.append_toArray, List.nil_append, List.cons_append]
  gi_wp2_with (first | refine wpListIn_load_want 25 _ W.heap.size 0 [.int .i64 k, .bool b, .string rr, .string tx, .slice ko N kc, .slice vo M vc] _ (A1.out.range rfl) Tryz.underlying25 sizeVl rfl rfl rfl (by rfl) ?_ | fail)
  refine ⟨trivial, (fun h => by cases h), ?_⟩
  refine (callsIn_wide.2 hcp.out).mono ?_
  rintro e W2 ⟨x, rfl, vx, b2, tx2⟩
  have B2 := hid (B1.out.trans (b2.mono B1.out.size))
  have J2 := hid (hJ'.out r _ _ J1.out (b2.mono (by have := s1.out; omega)))
  have A2 := hid (A1.out.keptAll b2)
  have K2 := hid (show KpS S B W W2 from KpS.below B2.out)
  have hx2 := hid (show TellE L B r W1.heap.size #[.string (mkL p), x] W2 from ⟨p, _, x, hP'.out.head, rfl, by have := s1.out; omega, b2.size, vx, tx2⟩)
  obtain ⟨fn, tmps, assign, body, hy, hRd⟩ := hY'.out r W1.heap.size #[.string (mkL p), x] W2 J2.out hlt0.out hx2.out
  have hRd' := hid hRd
  clear hcp vx b2 tx2 hRd J1 V1 A1 B1 B2 hx2
  gi_wp2_with fail
  refine ⟨(fun h => by cases h), ?_⟩
  refine (hRd'.out).mono ?_
  rintro e W3 (⟨rfl, hJ3, hk3⟩ | ⟨rfl, hJx3, hk3⟩)
  ·have J3 := hid hJ3
   have A3 := hid (hk3.at A2.out (.inr ⟨hB, by have := s1.out; omega⟩))
   have K3 := hid (KpC.from K2.out hk3 (by have := s1.out; omega))
   have h5 : W3.cell? ⟨W.heap.size, 5, none⟩ = some (.slice vo M vc) := A3.out.cell 5
   clear hy hRd' hJ3 hk3 J2 A2 K2 hW1
   gi_wp2_with fail
   gi_loopw [18] (fun ii wr => ∃ (i : Nat), i ≤ M ∧ ii = .int .i64 (i : Int) ∧ Hid (J (r + 1 + (prL p k ks 0 (vs.take i)).length) wr) ∧ Hid (At wr W.heap.size #[.int .i64 k, .bool b, .string rr, .string tx, .slice ko N kc, .slice vo M vc] 25) ∧ Hid (KpS S B W wr)) (fun ii _ => M - (intOf ii).toNat)
   case atStart => exact ⟨0, Nat.zero_le _, rfl, hid (by rw [List.take_zero]; exact J3.out), A3, K3⟩
   case round =>
    obtain ⟨i, hi, rfl, hJr, hA, hK⟩ := hrel
    clear J3 A3 K3 h5
    by_cases hlt : i < M
    ·have hli : (i : Int) < (M : Int) := by omega
     obtain ⟨u1, hu1⟩ : ∃ u, Hid (vs[i]? = some u) := ⟨_, List.getElem?_eq_getElem (by rw [hM.out]; exact hlt)⟩
     have hrw : RowAt wr vo vs.length X := (hr'.out.kept (S' := S) (fun _ _ h => h) ⟨hK.out.1, fun b hb hl => hK.out.same.2 b (.inl hb) hl⟩).at
     obtain ⟨g, o, rfl, hg, hrg, hl1⟩ := row_range hrw (i := i) (by rw [hM.out]; exact hlt)
     obtain ⟨L1, hL1⟩ : ∃ L, Hid ((X i).toList = L) := ⟨_, rfl⟩
     rw [hL1.out] at hrg hl1
     have z1 : (Tryz.prog.info? 25).map (·.size) = some L1.length := by rw [hl1]; exact sizeVl
     have v1 : Hid (ValOn S wr u1 (.agg L1.toArray)) := by
      have := hK.out.val (hv'.out i u1 hu1.out)
      rw [← hL1.out, Array.toArray_toList]
      exact this
     obtain ⟨k1, b1, r1, t1, ko1, N1, kc1, vo1, M1, vc1, rfl⟩ := v1.out.at.six
     have hrgk := hid hrg
     have hBr : Hid (B ≤ wr.heap.size) := hid (Nat.le_trans hB hK.out.1)
     have Bx : Hid (Below wr.heap.size wr (wr.alloc (.cells #[.int .i64 k1, .bool b1, .string r1, .string t1, .slice ko1 N1 kc1, .slice vo1 M1 vc1] 25))) := (Below.refl _ wr).alloc (Nat.le_refl _) _
     have Nx : Hid (At (wr.alloc (.cells #[.int .i64 k1, .bool b1, .string r1, .string t1, .slice ko1 N1 kc1, .slice vo1 M1 vc1] 25)) wr.heap.size #[.int .i64 k1, .bool b1, .string r1, .string t1, .slice ko1 N1 kc1, .slice vo1 M1 vc1] 25) := At.new wr _ _
     have Ax := hid (hA.out.keptAll Bx.out)
     have Jx' := hid (hJ'.out _ _ _ hJr.out (Bx.out.mono hBr.out))
     have Kx := hid (hK.out.trans (KpS.below Bx.out))
     have Vx := hid (v1.out.keptB Bx.out)
     have Yx := hid ((hk'.out.kept (S' := S) (fun _ _ h => h) ⟨hK.out.1, fun b hb hl => hK.out.same.2 b (.inl hb) hl⟩).kept (S' := S) (fun _ _ h => h) (SameOn.below Bx.out))
     have sx : Hid ((wr.alloc (.cells #[.int .i64 k1, .bool b1, .string r1, .string t1, .slice ko1 N1 kc1, .slice vo1 M1 vc1] 25)).heap.size = wr.heap.size + 1) := World.size_alloc _ _
     obtain ⟨q, hq⟩ : ∃ q, wr.heap.size = q := ⟨_, rfl⟩
     clear hrg hl1 v1 hA hJr
     gi_wp2_with (first | refine wpListIn_load_want 25 _ g (o + i * 6) [.int .i64 k1, .bool b1, .string r1, .string t1, .slice ko1 N1 kc1, .slice vo1 M1 vc1] _ hrgk.out Tryz.underlying25 z1 rfl rfl rfl (by rfl) ?_ | fail)
     obtain ⟨T, hT⟩ : ∃ T, Hid (stpK k ks i = T) := ⟨_, rfl⟩
     have hpk := hid (hP'.out.kid hu1.out)
     have hpl : Hid (p.length ≤ 1099511627776 ∧ (p ++ [47] ++ T).length ≤ 1099511627776) := by
      refine ⟨hL'.out _ (List.mem_of_getElem? hP'.out.head), ?_⟩
      rw [← hT.out]
      cases u1
      exact hL'.out _ (List.mem_of_getElem? hpk.out.head)
     have hadd1 : ∀ u : World, (Op.stringOp .add (mkL p) ⟨#[47]⟩).run Tryz.prog u = .ok (.string (mkL (p ++ [47]))) u := add_run (y := [47]) (by have := hpl.out.1; simp; omega)
     have hadd2 : ∀ u : World, (Op.stringOp .add (mkL (p ++ [47])) (mkL T)).run Tryz.prog u = .ok (.string (mkL (p ++ [47] ++ T))) u := add_run (by have := hpl.out.2; rw [List.length_append] at this; omega)
     obtain ⟨P2, hP2⟩ : ∃ P2, Hid (p ++ [47] ++ T = P2) := ⟨_, hid rfl⟩
     rw [hP2.out] at hadd2
     generalize hWa : wr.alloc (.cells #[.int .i64 k1, .bool b1, .string r1, .string t1, .slice ko1 N1 kc1, .slice vo1 M1 vc1] 25) = Wa at *
     have d0 : Wa.drew.cell? ⟨W.heap.size, 0, none⟩ = some (.int .i64 k) := Ax.out.drew.cell 0
     have d1 : Wa.drew.cell? ⟨W.heap.size, 1, none⟩ = some (.bool b) := Ax.out.drew.cell 1
     have d2 : Wa.drew.cell? ⟨W.heap.size, 2, none⟩ = some (.string rr) := Ax.out.drew.cell 2
     have d3 : Wa.drew.cell? ⟨W.heap.size, 3, none⟩ = some (.string tx) := Ax.out.drew.cell 3
     have d4 : Wa.drew.cell? ⟨W.heap.size, 4, none⟩ = some (.slice ko N kc) := Ax.out.drew.cell 4
     have d5 : Wa.drew.cell? ⟨W.heap.size, 5, none⟩ = some (.slice (some ⟨g, o, none⟩) M vc) := Ax.out.drew.cell 5
     rw [hq] at Nx
     have e0 : Wa.drew.cell? ⟨q, 0, none⟩ = some (.int .i64 k1) := Nx.out.drew.cell 0
     have e1 : Wa.drew.cell? ⟨q, 1, none⟩ = some (.bool b1) := Nx.out.drew.cell 1
     have e2 : Wa.drew.cell? ⟨q, 2, none⟩ = some (.string r1) := Nx.out.drew.cell 2
     have e3 : Wa.drew.cell? ⟨q, 3, none⟩ = some (.string t1) := Nx.out.drew.cell 3
     have e4 : Wa.drew.cell? ⟨q, 4, none⟩ = some (.slice ko1 N1 kc1) := Nx.out.drew.cell 4
     have e5 : Wa.drew.cell? ⟨q, 5, none⟩ = some (.slice vo1 M1 vc1) := Nx.out.drew.cell 5
     have hd : Hid (Below Wa.heap.size Wa Wa.drew) := (Below.refl _ Wa).drew
     have gd := hid (hGd'.out _ _ (hJ'.out _ _ _ Jx'.out (hd.out.mono (by rw [sx.out]; have := hBr.out; omega))))
     have hst := hid (tstep_calls k b rr tx ko ks N kc hN (some ⟨g, o, none⟩) M vc i (by have := (show vs.length ≤ 1099511627776 by have h := hok'.out; unfold okP at h; exact h.2.1); rw [hM.out] at this; omega) Wa.drew (hid (Yx.out.at)) (hid gd.out.1) (hid gd.out.2) (hid (by have h := hok'.out; unfold okP at h; exact h.1 i (by rw [hM.out]; exact hlt))) T hT)
     have hcall : Hid (∀ w5 : World, Below Wa.drew.heap.size Wa.drew w5 → Calls Tryz.prog 16 #[.string (mkL P2), .agg #[.int .i64 k1, .bool b1, .string r1, .string t1, .slice ko1 N1 kc1, .slice vo1 M1 vc1], .func (.yield l) #[] #[]] w5 fun e W' => ∃ Bq : Bool, e = .returned (.bool Bq) ∧
       Hid ((Bq = true ∧ (J (r + 1 + (prL p k ks 0 (vs.take (i + 1))).length) W' ∧ At W' W.heap.size #[.int .i64 k, .bool b, .string rr, .string tx, .slice ko N kc, .slice (some ⟨g, o, none⟩) M vc] 25) ∧ KpS S B W W') ∨ (Bq = false ∧ (∃ r', r' ≤ L.length ∧ Jx r' W') ∧ KpS S B W W'))) := fun w5 b5 => by
      have b6 := hd.out.trans (b5.mono hd.out.size)
      have hk := kid_size (k := k) (b := b) (r := rr) (t := tx) (ks := ks) hu1.out
      have hB5 : B ≤ w5.heap.size := by have := b6.size; have := sx.out; have := hBr.out; omega
      have h := ih'.out u1 (by have := hs'.out; omega) (by have h := hln'.out; unfold lnV at h; exact lnL_get h.2.2 hu1.out) (by have h := hok'.out; unfold okP at h; exact okPL_get h.2.2 hu1.out) P2 _ _ w5 hB5 (Vx.out.keptB b6) (hJ'.out _ _ _ Jx'.out (b6.mono (by have := sx.out; have := hBr.out; omega))) (by have h := hpk.out; rw [hT.out, hP2.out] at h; exact h)
      refine (callsIn_wide.1 h).mono ?_
      have hl : (prL p k ks 0 (vs.take (i + 1))).length = (prL p k ks 0 (vs.take i)).length + (prV P2 u1).length := by
       rw [prL_take hu1.out, List.length_append, hT.out, hP2.out]
      have hK5 := Kx.out.trans (KpS.below b6)
      rintro e W' (⟨h1, h2, h3⟩ | ⟨h1, h2, h3⟩)
      ·refine ⟨true, h1, hid (.inl ⟨rfl, ⟨?_, h3.at (Ax.out.keptAll b6) (.inr hB)⟩, hK5.trans h3⟩)⟩
       rw [hl, ← Nat.add_assoc]
       exact h2
      ·exact ⟨false, h1, hid (.inr ⟨rfl, h2, hK5.trans h3⟩)⟩
     have hi1 : Hid (i + 1 ≤ M) := hid (by omega)
     clear hi hrgk z1 hg hrw
     refine wpIn_wide.2 ?_
     go_region_with (first | (go_at_call 24; refine hst.out.mono ?_; rintro e w5 ⟨rfl, b5⟩; have b5' := hid b5; have N5 := hid (Nx.out.drew.keptAll b5); have f0 := N5.out.cell 0; have f1 := N5.out.cell 1; have f2 := N5.out.cell 2; have f3 := N5.out.cell 3; have f4 := N5.out.cell 4; have f5 := N5.out.cell 5; simp only [List.getElem?_toArray, List.getElem?_cons_zero, List.getElem?_cons_succ] at f0 f1 f2 f3 f4 f5; clear b5) | (go_at_call 16; refine (hcall.out _ b5'.out).mono ?_; rintro e w6 ⟨Bq, rfl, h6⟩) | fail)
     all_goals
      rcases h6.out with ⟨rfl, ⟨j6, a6⟩, k6⟩ | ⟨rfl, x6, k6⟩
      ·have A6 := hid a6
       have J6 := hid j6
       have K6 := hid k6
       clear h6 j6 k6 a6
       gi_wp2
       go_roundw
       case rel => exact ⟨i + 1, hi1.out, by simp, J6, A6, K6⟩
       case measure => simp [intOf]; have := hi1.out; omega
      ·have X6 := hid x6
       have K6 := hid k6
       clear h6 x6 k6
       gi_wp2
       go_ret
       exact .inr ⟨rfl, X6.out, K6.out⟩
    ·obtain rfl : i = M := by omega
     have hfin := hid (show J (r + (prV p (.mk k b rr tx ks vs)).length) wr by
      have := hJr.out
      rw [List.take_of_length_le (by rw [hM.out]; exact Nat.le_refl _)] at this
      rw [prV, List.length_cons, show r + ((prL p k ks 0 vs).length + 1) = r + 1 + (prL p k ks 0 vs).length by omega]
      exact this)
     clear hJr
     gi_wp2
     go_ret
     exact .inl ⟨rfl, hfin.out, hK.out⟩
  ·have hX := hid (show ∃ r', r' ≤ L.length ∧ Jx r' W3 from ⟨r + 1, hlt0.out, hJx3⟩)
   have K3 := hid (KpC.from K2.out hk3 (by have := s1.out; omega))
   clear hy hRd' hJx3 hk3 J2 A2 K2 hW1
   gi_wp2
   go_ret
   exact .inr ⟨rfl, hX.out, K3.out⟩
end Go.Proofs.YtlmjiocdhobopaaGreatDoor
