/-
 quarryref17.walk: the pointers and the parts, one behind the other (by gen_pxb.py).
-/
import Derived.Test.YtlmjiocdhobopaaGreatDoorPxA
namespace Go.Proofs.YtlmjiocdhobopaaGreatDoor
open Go.RowKit Go.Shelf
/-- Two lists that grow beside one another, their rows laid from lo on. -/
def OgL (lo : Nat) (w : World) (kv vv : Value) (K : List ByteArray) (U : List Vt) : Prop := ObjG 0 w kv vv K U ∧ (∀ g, kv.ownBlock = some g → lo ≤ g) ∧ ∀ g, vv.ownBlock = some g → lo ≤ g
/-- What walk keeps: all but the two rows. -/
structure FrW (lo : Nat) (kv vv kv' vv' : Value) (w w' : World) : Prop where
 bel : Below lo w w'
 blk : ∀ c, c < w.heap.size → kv.ownBlock ≠ some c → vv.ownBlock ≠ some c → w'.heap[c]? = w.heap[c]?
 k : kv'.ownBlock = kv.ownBlock ∨ ∃ g, kv'.ownBlock = some g ∧ w.heap.size ≤ g
 v : vv'.ownBlock = vv.ownBlock ∨ ∃ g, vv'.ownBlock = some g ∧ w.heap.size ≤ g
theorem FrW.off {lo c : Nat} {kv vv kv' vv' : Value} {w w' : World} (h : FrW lo kv vv kv' vv' w w') (hc : c < w.heap.size) (h1 : kv.ownBlock ≠ some c) (h2 : vv.ownBlock ≠ some c) : kv'.ownBlock ≠ some c ∧ vv'.ownBlock ≠ some c := by
 constructor
 ·rcases h.k with e | ⟨g, e, hg⟩
  ·rw [e]; exact h1
  ·rw [e]; intro h; injection h with h; omega
 ·rcases h.v with e | ⟨g, e, hg⟩
  ·rw [e]; exact h2
  ·rw [e]; intro h; injection h with h; omega
theorem FrW.trans {lo : Nat} {kv vv kv1 vv1 kv2 vv2 : Value} {w w1 w2 : World} (h : FrW lo kv vv kv1 vv1 w w1) (h' : FrW lo kv1 vv1 kv2 vv2 w1 w2) : FrW lo kv vv kv2 vv2 w w2 := by
 refine ⟨h.bel.trans h'.bel, fun c hc h1 h2 => ?_, ?_, ?_⟩
 ·obtain ⟨a, b⟩ := h.off hc h1 h2
  exact (h'.blk c (Nat.lt_of_lt_of_le hc h.bel.size) a b).trans (h.blk c hc h1 h2)
 ·rcases h'.k with e | ⟨g, e, hg⟩
  ·rw [e]; exact h.k
  ·exact .inr ⟨g, e, Nat.le_trans h.bel.size hg⟩
 ·rcases h'.v with e | ⟨g, e, hg⟩
  ·rw [e]; exact h.v
  ·exact .inr ⟨g, e, Nat.le_trans h.bel.size hg⟩
theorem FrW.below {lo : Nat} {kv vv : Value} {w w' : World} (h : Below w.heap.size w w') (hl : lo ≤ w.heap.size) : FrW lo kv vv kv vv w w' := ⟨h.mono hl, fun c hc _ _ => h.block c hc, .inl rfl, .inl rfl⟩
theorem below_own {lo : Nat} {w w' : World} {v : Value} (hg : w.grownBy w' v.ownBlock) (hl : lo ≤ w.heap.size) (hv : ∀ g, v.ownBlock = some g → lo ≤ g) : Below lo w w' :=
 ⟨hg.os, hg.tape, hg.output, hg.size, fun k hk => hg.block k (by omega) (fun e => by have := hv k e.symm; omega)⟩
theorem FrW.key {lo : Nat} {kv vv kv' : Value} {w w' : World} (hg : w.grownBy w' kv.ownBlock) (ha : kv'.ownBlock = kv.ownBlock ∨ ∃ g, kv'.ownBlock = some g ∧ w.heap.size ≤ g) (hl : lo ≤ w.heap.size) (hv : ∀ g, kv.ownBlock = some g → lo ≤ g) : FrW lo kv vv kv' vv w w' :=
 ⟨below_own hg hl hv, fun c hc h1 _ => hg.block c hc (fun e => h1 e.symm), ha, .inl rfl⟩
theorem FrW.kid {lo : Nat} {kv vv vv' : Value} {w w' : World} (hg : w.grownBy w' vv.ownBlock) (ha : vv'.ownBlock = vv.ownBlock ∨ ∃ g, vv'.ownBlock = some g ∧ w.heap.size ≤ g) (hl : lo ≤ w.heap.size) (hv : ∀ g, vv.ownBlock = some g → lo ≤ g) : FrW lo kv vv kv vv' w w' :=
 ⟨below_own hg hl hv, fun c hc _ h2 => hg.block c hc (fun e => h2 e.symm), .inl rfl, ha⟩
theorem own_lo {lo : Nat} {v v' : Value} {w : World} (h : ∀ g, v.ownBlock = some g → lo ≤ g) (ha : v'.ownBlock = v.ownBlock ∨ ∃ g, v'.ownBlock = some g ∧ w.heap.size ≤ g) (hl : lo ≤ w.heap.size) : ∀ g, v'.ownBlock = some g → lo ≤ g := fun g hg => by
 rcases ha with e | ⟨g', e, hg'⟩
 ·exact h g (by rw [← e]; exact hg)
 ·rw [e] at hg
  injection hg with hg
  omega
theorem OgL.kept {lo : Nat} {w w' : World} {kv vv : Value} {K : List ByteArray} {U : List Vt} (h : OgL lo w kv vv K U) (hb : Below w.heap.size w w') : OgL lo w' kv vv K U := ⟨h.1.kept (SameOn.below hb), h.2⟩
theorem OgL.key {lo : Nat} {w w' : World} {kv vv kv' : Value} {K K' : List ByteArray} {U : List Vt} (h : OgL lo w kv vv K U) (hk : KeysG 0 w' kv' K') (hg : w.grownBy w' kv.ownBlock) (ha : kv'.ownBlock = kv.ownBlock ∨ ∃ g, kv'.ownBlock = some g ∧ w.heap.size ≤ g) (hl : lo ≤ w.heap.size) : OgL lo w' kv' vv K' U :=
 ⟨h.1.key hk hg ha, own_lo h.2.1 ha hl, h.2.2⟩
theorem OgL.kid {lo : Nat} {w w' : World} {kv vv vv' : Value} {K : List ByteArray} {U U' : List Vt} (h : OgL lo w kv vv K U) (hk : KidsG 0 kv.ownBlock w' vv' U') (hg : w.grownBy w' vv.ownBlock) (ha : vv'.ownBlock = vv.ownBlock ∨ ∃ g, vv'.ownBlock = some g ∧ w.heap.size ≤ g) (hl : lo ≤ w.heap.size) : OgL lo w' kv vv' K U' :=
 ⟨h.1.kid hk hg ha, h.2.1, own_lo h.2.2 ha hl⟩
theorem wpList_keysH {ops : Array Oper} {rest : List Oper} {o : Oper} {a : Act} {Q : Exit → Act → World → Prop} {W : World} {x y : Operand} {B : Nat} {v : Value} {ks : List ByteArray} {u : ByteArray} (hgd : o.guard = none) (ho : o.op = .call { callee := .builtin .append, args := #[x, y], argTypes := #[22, 22] })
  (hx : a.eval x = v) (h : KeysG B W v ks) (hu : u.size ≤ capT) (ad : Addr) (c : Nat) (hy : a.eval y = .slice (some ad) 1 c) (hC : W.cell? (ad.add 0) = some (.string u)) (hn : ks.length < 1099511627776) (hB : B ≤ W.heap.size)
  (hr : ∀ v' W', KeysG B W' v' (ks ++ [u]) → W.grownBy W' v.ownBlock → (v'.ownBlock = v.ownBlock ∨ ∃ g, v'.ownBlock = some g ∧ W.heap.size ≤ g) → wpList Tryz.prog ops Q rest (a.put o.dst v') W') : wpList Tryz.prog ops Q (o :: rest) a W := by
 refine wpList_plain hgd fun _ hK => ?_
 obtain ⟨v', W', hrun, h1, h2, h3⟩ := h.app (ty := o.type) hu ad c hC hn hB
 unfold Oper.wp execOp
 simp only [ho, resolve, invoke, builtin, Sem.run_bind, Sem.run_pure, Result.andThen_ok, List.map_toArray, List.map_cons, List.map_nil, hx, hy, hrun]
 exact hK _ _ (hr v' W' h1 h2 h3)
theorem RowOn.keptB5 {S : Nat → Prop} {w w' : World} {ao : Option Addr} {n : Nat} {X : Nat → Array Value} (h : RowOn S w ao n X) (hb : Below w.heap.size w w') : RowOn S w' ao n X := h.kept (fun _ _ h => h) (SameOn.below hb)
def ptK (M : List (List UInt8 × Vt)) : List ByteArray := M.map fun x => mkL x.1
def ptU (M : List (List UInt8 × Vt)) : List Vt := M.map fun x => x.2
theorem ptK_app (A B : List (List UInt8 × Vt)) : ptK (A ++ B) = ptK A ++ ptK B := List.map_append
theorem ptU_app (A B : List (List UInt8 × Vt)) : ptU (A ++ B) = ptU A ++ ptU B := List.map_append
def RwQ (lo : Nat) (kv vv : Value) (M : List (List UInt8 × Vt)) (w : World) (e : Ending) (w' : World) : Prop := ∃ kv' vv', e = .returned (.tuple #[kv', vv']) ∧ OgL lo w' kv' vv' (ptK M) (ptU M) ∧ FrW lo kv vv kv' vv' w w'
set_option maxRecDepth 10000 in
set_option maxHeartbeats 16000000 in
theorem refWalk_ex (lo : Nat) (w0 : World) (hlo : w0.heap.size ≤ lo) (hPow : PowT w0) : ∀ (m : Nat) (t : Vt), SizeOf.sizeOf t ≤ m → (∃ l, wfV t l = true) → okP t → ∀ (p : List UInt8), (∀ x ∈ prV p t, x.1.length ≤ 1099511627776) → ∀ (va : Value) (w : World) (kv vv : Value) (Z : List (List UInt8 × Vt)), Z.length + cntV t ≤ 1099511627776 → lo ≤ w.heap.size → Below w0.heap.size w0 w → ValOn (fun c => c < lo) w t va → OgL lo w kv vv (ptK Z) (ptU Z) →
  Calls Tryz.prog 18 #[va, .string (mkL p), kv, vv] w fun e w' => RwQ lo kv vv (Z ++ prV p t) w e w' := by
 intro m
 induction m with
 | zero =>
  intro t hs
  cases t
  simp at hs
 | succ m ih =>
  intro t hs hwf hok p hpl va w kv vv Z hcn hlw hbw hV hG
  have hV0 := hV
  cases hV with
  | mk k b rr tx ks vs ko kc vo vc X hw hz hk hr hv =>
  have ih' := hid ih
  have hs' := hid hs
  have hwf' := hid hwf
  have hok' := hid hok
  have hpl' := hid hpl
  have hV' := hid hV0
  have hk' := hid hk
  have hr' := hid hr
  have hv' := hid hv
  have hcn' := hid hcn
  have hbw' := hid hbw
  have hG' := hid hG
  obtain ⟨N, hN⟩ : ∃ N, Hid (ks.length = N) := ⟨_, rfl⟩
  obtain ⟨M, hM⟩ : ∃ M, Hid (vs.length = M) := ⟨_, rfl⟩
  rw [hN.out, hM.out] at hV'
  rw [hN.out, hM.out]
  have hMi : (M : Int) ≤ 1099511627776 := by have h := hok'.out; unfold okP at h; have := h.2.1; rw [hM.out] at this; omega
  have hcn1 := hid (show cntV (.mk k b rr tx ks vs) = cntL vs + 1 by simp [cntV])
  clear ih hs hwf hok hpl hV0 hk hr hv hcn hbw hG hz hw
  have A1 : Hid (At (w.alloc (.cells #[.int .i64 k, .bool b, .string rr, .string tx, .slice ko N kc, .slice vo M vc] 25)) w.heap.size #[.int .i64 k, .bool b, .string rr, .string tx, .slice ko N kc, .slice vo M vc] 25) := At.new w _ _
  have B1 : Hid (Below w.heap.size w (w.alloc (.cells #[.int .i64 k, .bool b, .string rr, .string tx, .slice ko N kc, .slice vo M vc] 25))) := (Below.refl _ w).alloc (Nat.le_refl _) _
  have s1 : Hid ((w.alloc (.cells #[.int .i64 k, .bool b, .string rr, .string tx, .slice ko N kc, .slice vo M vc] 25)).heap.size = w.heap.size + 1) := World.size_alloc _ _
  have al : Hid (Below (w.alloc (.cells #[.int .i64 k, .bool b, .string rr, .string tx, .slice ko N kc, .slice vo M vc] 25)).heap.size (w.alloc (.cells #[.int .i64 k, .bool b, .string rr, .string tx, .slice ko N kc, .slice vo M vc] 25)) ((w.alloc (.cells #[.int .i64 k, .bool b, .string rr, .string tx, .slice ko N kc, .slice vo M vc] 25)).alloc (.cells #[.string (mkL p)] 9))) := (Below.refl _ _).alloc (Nat.le_refl _) _
  have A2 := hid (A1.out.keptAll al.out)
  have B2 := hid (B1.out.trans (al.out.mono B1.out.size))
  have s2 := hid al.out.size
  have G2 := hid ((hG'.out.kept B1.out).kept al.out)
  have X2 := hid (At.new (w.alloc (.cells #[.int .i64 k, .bool b, .string rr, .string tx, .slice ko N kc, .slice vo M vc] 25)) #[.string (mkL p)] 9)
  rw [s1.out] at X2
  have hpp : Hid (p.length ≤ 1099511627776) := hid (hpl'.out (p, _) (by rw [prV]; exact List.mem_cons_self ..))
  have hsz : (mkL p).size ≤ capT := by rw [mkL_size]; have := hpp.out; unfold capT; omega
  have hcZ : (ptK Z).length < 1099511627776 := by have := hcn'.out; rw [hcn1.out] at this; unfold ptK; rw [List.length_map]; omega
  have hcZ' : (ptU Z).length < 1099511627776 := by have := hcn'.out; rw [hcn1.out] at this; unfold ptU; rw [List.length_map]; omega
  have F2 := hid (show FrW lo kv vv kv vv w _ from FrW.below B2.out hlw)
  have hn1 := hid (show kv.ownBlock ≠ some w.heap.size from fun e => by have := (hG'.out.1.1.blk e).2; omega)
  have hn2 := hid (show vv.ownBlock ≠ some w.heap.size from fun e => by have := (hG'.out.1.2.1.blk e).2; omega)
  generalize hW2 : (w.alloc (.cells #[.int .i64 k, .bool b, .string rr, .string tx, .slice ko N kc, .slice vo M vc] 25)).alloc (.cells #[.string (mkL p)] 9) = W2 at al A2 B2 G2 X2 F2 s2
  have hl2 := hid (show lo ≤ W2.heap.size from Nat.le_trans hlw B2.out.size)
  obtain ⟨bx, hbx⟩ : ∃ bx, w.heap.size = bx := ⟨_, rfl⟩
  have hbx' := hid hbx
  rw [hbx] at X2 A2
  have hbl := hid (show bx < W2.heap.size by have := s1.out; have := s2.out; omega)
  go_enter Tryz.func18, Tryz.ntmps18
  go_upto_region 2 with (first | (at_builtin; refine wpList_keysH rfl rfl rfl G2.out.1.1 hsz ⟨bx + 1, 0, none⟩ 1 rfl (by simpa [Addr.add] using X2.out.cell 0) hcZ (Nat.zero_le _) ?_; intro kv1 W3 hk1 hg1 ha1) | fail)
  have K3 := hid hk1
  have G3 := hid (G2.out.key hk1 hg1 ha1 hl2.out)
  rw [hbx] at hn1 hn2
  have F3 := hid (F2.out.trans (FrW.key hg1 ha1 hl2.out G2.out.2.1))
  have A3 := hid (show At W3 bx #[.int .i64 k, .bool b, .string rr, .string tx, .slice ko N kc, .slice vo M vc] 25 from (hg1.block bx hbl.out (fun e => hn1.out e.symm)).trans A2.out)
  have hl3 := hid (show lo ≤ W3.heap.size from Nat.le_trans hl2.out hg1.size)
  have O3 := hid ((FrW.key (vv := vv) hg1 ha1 hl2.out G2.out.2.1).off hbl.out hn1.out hn2.out)
  clear hk1 hg1 ha1 G2 F2 A2 X2 al hW2 s2
  have al : Hid (Below W3.heap.size W3 (W3.alloc (.cells #[.int .i64 k, .bool b, .string rr, .string tx, .slice ko N kc, .slice vo M vc] 25))) := (Below.refl _ _).alloc (Nat.le_refl _) _
  have A4 := hid (A3.out.keptAll al.out)
  have G4 := hid (G3.out.kept al.out)
  have F4 := hid (F3.out.trans (FrW.below al.out hl3.out))
  have X4 := hid (At.new W3 #[.int .i64 k, .bool b, .string rr, .string tx, .slice ko N kc, .slice vo M vc] 25)
  have V4 := hid (hV'.out.kept (S' := fun c => c < lo) (fun _ _ h => h) ⟨F4.out.bel.size, fun c hc hl => F4.out.bel.block c hc⟩)
  have U4 := hid (V4.out.mono (S' := fun c => 0 ≤ c ∧ vv.ownBlock ≠ some c ∧ kv1.ownBlock ≠ some c) (fun c _ hc => ⟨Nat.zero_le _, fun e => by have := G4.out.2.2 c e; have hc' : c < lo := hc; omega, fun e => by have := G4.out.2.1 c e; have hc' : c < lo := hc; omega⟩))
  have hl4 := hid (show lo ≤ (W3.alloc (.cells #[.int .i64 k, .bool b, .string rr, .string tx, .slice ko N kc, .slice vo M vc] 25)).heap.size from Nat.le_trans hl3.out al.out.size)
  have hb4 := hid (show bx < (W3.alloc (.cells #[.int .i64 k, .bool b, .string rr, .string tx, .slice ko N kc, .slice vo M vc] 25)).heap.size by have := A4.out.lt; exact this)
  go_upto_region 3 with (first | refine wpList_load_want 25 _ bx 0 [.int .i64 k, .bool b, .string rr, .string tx, .slice ko N kc, .slice vo M vc] _ (A3.out.range rfl) Tryz.underlying25 sizeVl rfl rfl rfl (by rfl) ?_ | (at_builtin; refine wpList_kidsR rfl rfl rfl G4.out.1.2.1 U4.out ⟨W3.heap.size, 0, none⟩ 1 rfl (fun j y hj => by rw [show (⟨W3.heap.size, 0, none⟩ : Addr).add j = ⟨W3.heap.size, j, none⟩ by by_cases h : j = 0 <;> simp [Addr.add, h], X4.out.cell]; exact hj) hcZ' (Nat.zero_le _) ?_; intro vv1 W5 hk1 hg1 ha1) | fail)
  have G5 := hid (G4.out.kid hk1 hg1 ha1 hl4.out)
  have F5 := hid (F4.out.trans (FrW.kid hg1 ha1 hl4.out G4.out.2.2))
  have A5 := hid (show At W5 bx #[.int .i64 k, .bool b, .string rr, .string tx, .slice ko N kc, .slice vo M vc] 25 from (hg1.block bx hb4.out (fun e => O3.out.2 e.symm)).trans A4.out)
  have O5 := hid ((FrW.kid (kv := kv1) hg1 ha1 hl4.out G4.out.2.2).off hb4.out O3.out.1 O3.out.2)
  clear hk1 hg1 ha1 G4 F4 A4 X4 al U4 V4 hb4 hl4 K3 G3 F3 A3 O3 hl3
  go_wp2
  go_loopw [2, 3, 10] (fun a2 a3 ii wr => ∃ (kk uu : Value) (i : Nat), kk = a2 ∧ uu = a3 ∧ i ≤ M ∧ ii = .int .i64 (i : Int) ∧ Hid (OgL lo wr kk uu (ptK (Z ++ (p, .mk k b rr tx ks vs) :: prL p k ks 0 (vs.take i))) (ptU (Z ++ (p, .mk k b rr tx ks vs) :: prL p k ks 0 (vs.take i)))) ∧ Hid (FrW lo kv vv kk uu w wr) ∧ Hid (At wr bx #[.int .i64 k, .bool b, .string rr, .string tx, .slice ko N kc, .slice vo M vc] 25) ∧ Hid (kk.ownBlock ≠ some bx ∧ uu.ownBlock ≠ some bx)) (fun _ _ ii _ => M - (intOf ii).toNat)
  case atStart =>
   refine ⟨_, _, 0, rfl, rfl, Nat.zero_le _, rfl, ?_, F5, A5, O5⟩
   have h := G5.out
   rw [List.take_zero, prL, ptK_app, ptU_app]
   exact hid h
  case round =>
   obtain ⟨kk, uu, i, rfl, rfl, hi, rfl, hG, hF, hA, hO⟩ := hrel
   clear G5 F5 A5 O5
   have c0 : wr.cell? ⟨bx, 0, none⟩ = some (.int .i64 k) := hA.out.cell 0
   have c4 : wr.cell? ⟨bx, 4, none⟩ = some (.slice ko N kc) := hA.out.cell 4
   have c5 : wr.cell? ⟨bx, 5, none⟩ = some (.slice vo M vc) := hA.out.cell 5
   by_cases hlt : i < M
   ·have hli : (i : Int) < (M : Int) := by omega
    obtain ⟨u1, hu1⟩ : ∃ u, Hid (vs[i]? = some u) := ⟨_, List.getElem?_eq_getElem (by rw [hM.out]; exact hlt)⟩
    have hsame := hid (show SameOn (fun c => c < lo) w wr from ⟨hF.out.bel.size, fun c hc hl => hF.out.bel.block c hc⟩)
    obtain ⟨g, o, rfl, hg, hrg, hl1⟩ := row_range (hr'.out.kept (S' := fun c => c < lo) (fun _ _ h => h) hsame.out).at (i := i) (by rw [hM.out]; exact hlt)
    obtain ⟨L1, hL1⟩ : ∃ L, Hid ((X i).toList = L) := ⟨_, rfl⟩
    rw [hL1.out] at hrg hl1
    have z1 : (Tryz.prog.info? 25).map (·.size) = some L1.length := by rw [hl1]; exact sizeVl
    have v1 : Hid (ValOn (fun c => c < lo) wr u1 (.agg L1.toArray)) := by
     have := (hv'.out i u1 hu1.out).kept (S' := fun c => c < lo) (fun _ _ h => h) hsame.out
     rw [← hL1.out, Array.toArray_toList]
     exact this
    obtain ⟨k1, b1, r1, t1, ko1, N1, kc1, vo1, M1, vc1, rfl⟩ := v1.out.at.six
    obtain ⟨T, hT⟩ : ∃ T, Hid (stpK k ks i = T) := ⟨_, rfl⟩
    have hmem : Hid (∀ x ∈ prV (p ++ [47] ++ stpK k ks i) u1, x ∈ prV p (.mk k b rr tx ks vs)) := fun x hx => by
     rw [prV]
     refine List.mem_cons_of_mem _ ?_
     have h := prL_take (p := p) (k := k) (ks := ks) hu1.out
     have h2 : x ∈ prL p k ks 0 (vs.take (i + 1)) := by rw [h]; exact List.mem_append_right _ hx
     have h3 : prL p k ks 0 vs = prL p k ks 0 (vs.take (i + 1)) ++ prL p k ks (0 + (vs.take (i + 1)).length) (vs.drop (i + 1)) := by rw [← prL_app, List.take_append_drop]
     rw [h3]
     exact List.mem_append_left _ h2
    have hpT : Hid ((p ++ [47] ++ T).length ≤ 1099511627776) := by
     rw [← hT.out]
     refine hpl'.out _ (hmem.out (p ++ [47] ++ stpK k ks i, u1) ?_)
     cases u1
     rw [prV]
     exact List.mem_cons_self ..
    have hadd1 : ∀ u : World, (Op.stringOp .add (mkL p) ⟨#[47]⟩).run Tryz.prog u = .ok (.string (mkL (p ++ [47]))) u := add_runL (y := [47]) (by have := hpp.out; simp; omega)
    have hadd2 : ∀ u : World, (Op.stringOp .add (mkL (p ++ [47])) (mkL T)).run Tryz.prog u = .ok (.string (mkL (p ++ [47] ++ T))) u := add_runL (by have := hpT.out; rw [List.length_append] at this; omega)
    obtain ⟨P2, hP2⟩ : ∃ P2, Hid (p ++ [47] ++ T = P2) := ⟨_, hid rfl⟩
    rw [hP2.out] at hadd2
    have hkid : Hid (k = 5 ∨ (k = 6 ∧ ∃ s, ks[i]? = some s ∧ s.size ≤ 2147483640)) := by
     obtain ⟨l, hw⟩ := hwf'.out
     obtain ⟨hpl2, -, -⟩ := wf_parts hw
     have h := hok'.out
     unfold okP at h
     rcases h.1 i (by rw [hM.out]; exact hlt) with h5 | ⟨h5, hs⟩
     ·exact .inl h5
     ·by_cases h6 : k = 6
      ·exact .inr ⟨h6, hs⟩
      ·have := plain_leaf hpl2 (by omega)
       subst this
       have := hM.out
       simp at this
       omega
    have hcall : Hid (∀ (w5 : World), Below wr.heap.size wr w5 → Calls Tryz.prog 18 #[.agg #[.int .i64 k1, .bool b1, .string r1, .string t1, .slice ko1 N1 kc1, .slice vo1 M1 vc1], .string (mkL P2), kk, uu] w5 fun e w' => ∃ kv' vv', e = .returned (.tuple #[kv', vv']) ∧ Hid (OgL lo w' kv' vv' (ptK (Z ++ (p, .mk k b rr tx ks vs) :: prL p k ks 0 (vs.take (i + 1)))) (ptU (Z ++ (p, .mk k b rr tx ks vs) :: prL p k ks 0 (vs.take (i + 1)))) ∧ FrW lo kv vv kv' vv' w w' ∧ At w' bx #[.int .i64 k, .bool b, .string rr, .string tx, .slice ko N kc, .slice (some ⟨g, o, none⟩) M vc] 25 ∧ (kv'.ownBlock ≠ some bx ∧ vv'.ownBlock ≠ some bx))) := fun w5 b5 => by
     have hkz := kid_size (k := k) (b := b) (r := rr) (t := tx) (ks := ks) hu1.out
     have hlen : (Z ++ (p, Vt.mk k b rr tx ks vs) :: prL p k ks 0 (vs.take i)).length + cntV u1 ≤ 1099511627776 := by
      have h1 := cntL_next hu1.out
      have h2 := cntL_take vs (i + 1)
      have h3 := hcn'.out
      rw [hcn1.out] at h3
      rw [List.length_append, List.length_cons, prL_len]
      omega
     have F6 := hF.out.trans (FrW.below (kv := kk) (vv := uu) b5 (by have := hF.out.bel.size; omega))
     have h := ih'.out u1 (by have := hs'.out; omega) (by obtain ⟨l, hw⟩ := hwf'.out; obtain ⟨-, -, h3⟩ := wf_parts hw; exact ⟨l - 1, wfL_at h3 hu1.out⟩) (by have h := hok'.out; unfold okP at h; exact okPL_get h.2.2 hu1.out) P2 (fun x hx => hpl'.out x (hmem.out x (by rw [hT.out, hP2.out]; exact hx))) _ w5 kk uu _ hlen (by have := hF.out.bel.size; have := b5.size; omega) (hbw'.out.trans (F6.bel.mono (by omega))) (v1.out.keptB b5) (hG.out.kept b5)
     refine h.mono ?_
     rintro e w' ⟨kv', vv', he, hG2, hF2⟩
     refine ⟨kv', vv', he, hid ⟨?_, F6.trans hF2, ?_, ?_⟩⟩
     ·have hl : prL p k ks 0 (vs.take (i + 1)) = prL p k ks 0 (vs.take i) ++ prV P2 u1 := by rw [prL_take hu1.out, hT.out, hP2.out]
      rw [hl, ← List.cons_append, ← List.append_assoc]
      exact hG2
     ·exact (hF2.blk bx (by have := hA.out.lt; have := b5.size; omega) hO.out.1 hO.out.2).trans (hA.out.keptAll b5)
     ·exact hF2.off (by have := hA.out.lt; have := b5.size; omega) hO.out.1 hO.out.2
    have hrgk := hid hrg
    have hB6 := hid (hbw'.out.trans (hF.out.bel.mono (by omega)))
    have hit := hid (itoa_calls (i : Int) (by omega) (by omega) wr (hPow.kept hB6.out))
    have hrge := hid (fun (w5 : World) (b5 : Below wr.heap.size wr w5) => (show w5.rangeAt g (o + i * 6) [.int .i64 k1, .bool b1, .string r1, .string t1, .slice ko1 N1 kc1, .slice vo1 M1 vc1] from (row_range ((hr'.out.kept (S' := fun c => c < lo) (fun _ _ h => h) hsame.out).keptB5 b5).at (i := i) (by rw [hM.out]; exact hlt) |> fun h => by
     obtain ⟨g', o', e, -, h1, -⟩ := h
     injection e with e
     injection e with e1 e2
     subst e1 e2
     rw [hL1.out] at h1
     exact h1)))
    clear hrg hl1 hmem hsame
    rcases hkid.out with h5 | ⟨h6, s, hs, hssz⟩
    ·subst h5
     have hTe : Hid ((⟨(Lib.itoa (i : Int)).toArray⟩ : ByteArray) = mkL T) := by rw [← hT.out, stpK, if_pos rfl]; exact hid rfl
     go_wp2_with fail
     refine Calls.mono hit.out ?_
     rintro e w5 ⟨rfl, b5⟩
     rw [hTe.out]
     have b9 := hid b5
     have A5 := hid (hA.out.keptAll b5)
     have d0 : w5.cell? ⟨bx, 0, none⟩ = some (.int .i64 5) := A5.out.cell 0
     have d5 : w5.cell? ⟨bx, 5, none⟩ = some (.slice (some ⟨g, o, none⟩) M vc) := A5.out.cell 5
     clear b5 c0 c4 c5
     go_wp2_with (first | refine wpList_load_want 25 _ g (o + i * 6) [.int .i64 k1, .bool b1, .string r1, .string t1, .slice ko1 N1 kc1, .slice vo1 M1 vc1] _ ((hrge.out _ b9.out)) Tryz.underlying25 z1 rfl rfl rfl (by rfl) ?_ | fail)
     refine (hcall.out _ b9.out).mono ?_
     rintro e w6 ⟨kv', vv', rfl, h6⟩
     have G6 := hid h6.out.1
     have F6 := hid h6.out.2.1
     have A6 := hid h6.out.2.2.1
     have O6 := hid h6.out.2.2.2
     clear h6 hcall hrge hit
     go_wp2
     go_roundw
     case rel => exact ⟨_, _, i + 1, rfl, rfl, by omega, by simp, G6, F6, A6, O6⟩
     case measure => simp [intOf]; omega
    ·subst h6
     obtain ⟨ls, rfl⟩ : ∃ ls, s = mkL ls := ⟨_, (mkL_data s).symm⟩
     rw [mkL_size] at hssz
     have hTe : Hid (mkL (wrN ls) = mkL T) := by rw [← hT.out, stpK, if_neg (by decide), hs, Option.getD_some, data_mkL]; exact hid rfl
     have hiN : (i : Int) < (N : Int) := by have := (List.getElem?_eq_some_iff.1 hs).1; rw [hN.out] at this; omega
     obtain ⟨-, kb, kof, rfl, -, hkb, hkc⟩ := (hk'.out.kept (S' := fun c => c < lo) (fun _ _ h => h) (show SameOn (fun c => c < lo) w wr from ⟨hF.out.bel.size, fun c hc hl => hF.out.bel.block c hc⟩)) i (mkL ls) hs
     have hkb' := hid hkb
     have hkc' := hid hkc
     have hes := hid (fun u => escapedR_calls ls hssz u)
     clear hkb hkc hs hssz
     generalize mkL ls = sz at hkc' hes
     go_wp2_with fail
     refine Calls.mono hit.out ?_
     rintro e w5 ⟨rfl, b5⟩
     have A5 := hid (hA.out.keptAll b5)
     have b5' := hid b5
     have d0 : w5.cell? ⟨bx, 0, none⟩ = some (.int .i64 6) := A5.out.cell 0
     have d4 : w5.cell? ⟨bx, 4, none⟩ = some (.slice (some ⟨kb, kof, none⟩) N kc) := A5.out.cell 4
     have dk : w5.cell? ⟨kb, kof + i, none⟩ = some (.string sz) := by rw [World.cell?_of_block (w := wr) (b5.block kb hkb'.out)]; exact hkc'.out
     clear b5 c0 c4 c5
     go_wp2_with fail
     refine Calls.mono (hes.out _) ?_
     rintro e w7 ⟨rfl, b7⟩
     rw [hTe.out]
     have b9 := hid (b5'.out.trans (b7.mono b5'.out.size))
     have A7 := hid (A5.out.keptAll b7)
     have d5 : w7.cell? ⟨bx, 5, none⟩ = some (.slice (some ⟨g, o, none⟩) M vc) := A7.out.cell 5
     clear b7 d0 d4 dk hes A5 b5'
     go_wp2_with (first | refine wpList_load_want 25 _ g (o + i * 6) [.int .i64 k1, .bool b1, .string r1, .string t1, .slice ko1 N1 kc1, .slice vo1 M1 vc1] _ ((hrge.out _ b9.out)) Tryz.underlying25 z1 rfl rfl rfl (by rfl) ?_ | fail)
     refine (hcall.out _ b9.out).mono ?_
     rintro e w6 ⟨kv', vv', rfl, h6⟩
     have G6 := hid h6.out.1
     have F6 := hid h6.out.2.1
     have A6 := hid h6.out.2.2.1
     have O6 := hid h6.out.2.2.2
     clear h6 hcall hrge hit
     go_wp2
     go_roundw
     case rel => exact ⟨_, _, i + 1, rfl, rfl, by omega, by simp, G6, F6, A6, O6⟩
     case measure => simp [intOf]; omega
   ·obtain rfl : M = i := by omega
    have htk := hid (show Z ++ (p, Vt.mk k b rr tx ks vs) :: prL p k ks 0 (vs.take M) = Z ++ prV p (.mk k b rr tx ks vs) by rw [List.take_of_length_le (by rw [hM.out]; exact Nat.le_refl _), prV])
    rw [htk.out] at hG
    go_wp2
    refine bodyPost_ret (results_tmp2 rfl _ _ _) rfl ?_
    exact ⟨_, _, rfl, hG.out, hF.out⟩
end Go.Proofs.YtlmjiocdhobopaaGreatDoor
