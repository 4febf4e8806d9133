/-
 quarrylaw17.told, walked (by gen_pxd.py).
-/
import Derived.Test.YtlmjiocdhobopaaGreatDoorPxC
import Derived.Deep.RegionHeld
namespace Go.Proofs.YtlmjiocdhobopaaGreatDoor
open Go.RowKit Go.Shelf
attribute [local go_sem] Oper.semAt_some
theorem keepsO_cells (w : World) (b : Nat) : ∀ (vs : List Value) (o : Nat), KeepsOthers w (w.setCells b o vs) := by
 intro vs
 induction vs generalizing w with
 | nil => intro o; exact KeepsOthers.refl _
 | cons v vs ih => intro o; exact (KeepsOthers.setCell w ⟨b, o, none⟩ v).trans (ih _ _)
theorem wf_wrapX (x : Int) : (Lit.int .i64 (IntKind.i64.wrap x)).wf = true := by
 rw [IntKind.wrap_i64]
 simp [Lit.wf, IntKind.min, IntKind.max, IntKind.bits, IntKind.signed]
 omega
theorem at_setX {w : World} {b : Nat} {v : Value} {t : TypeId} (h : At w b #[v] t) (u : Value) : At (w.setCell ⟨b, 0, none⟩ u) b #[u] t := by simpa using h.set 0 u
theorem KpC.set {S : Nat → Prop} {B c q i : Nat} {W : World} (x : Value) (hS : ¬ S q) (hB : q < B) : KpC S B c W (W.setCell ⟨q, i, none⟩ x) :=
 ⟨(KeepsOthers.setCell W ⟨q, i, none⟩ x).1, fun k o hk ho => (Below.heap_setCell W ⟨q, i, none⟩ x k (by
  show k ≠ q
  rintro rfl
  rcases hk with h | h
  ·exact hS h
  ·omega)).trans ho⟩
theorem KpC.below {S : Nat → Prop} {B c : Nat} {W W' : World} (h : Below c W W') (hS : ∀ k, S k → k < c) : KpC S B c W W' := ⟨h.size, fun k _ hk ho => (h.block k (by
 rcases hk with h | h
 ·exact hS k h
 ·exact h.2)).trans ho⟩
theorem tdI_next {w : World} {Bk : Value} {ao : Option Addr} {N ca : Nat} {vo : Option Addr} {cl : Nat} {left : Int} {d r : Nat} {W : World} (h : TdI w Bk ao N ca vo cl left d r W) : TdI w Bk ao N ca vo cl left d (r + 1) (W.setCell ⟨w.heap.size + 1 + 1 + 1 + 1 + 1 + 1, 0, none⟩ (.int .i64 ((r : Int) + 1))) := by
 obtain ⟨⟨a0, a1, a2, a3, a4, a5, a6, a7⟩, f⟩ := h
 refine ⟨⟨a0.other (p := ⟨w.heap.size + 1 + 1 + 1 + 1 + 1 + 1, 0, none⟩) (by show w.heap.size ≠ w.heap.size + 1 + 1 + 1 + 1 + 1 + 1; omega) _, a1.other (p := ⟨w.heap.size + 1 + 1 + 1 + 1 + 1 + 1, 0, none⟩) (by show w.heap.size + 1 ≠ w.heap.size + 1 + 1 + 1 + 1 + 1 + 1; omega) _, a2.other (p := ⟨w.heap.size + 1 + 1 + 1 + 1 + 1 + 1, 0, none⟩) (by show w.heap.size + 1 + 1 ≠ w.heap.size + 1 + 1 + 1 + 1 + 1 + 1; omega) _, a3.other (p := ⟨w.heap.size + 1 + 1 + 1 + 1 + 1 + 1, 0, none⟩) (by show w.heap.size + 1 + 1 + 1 ≠ w.heap.size + 1 + 1 + 1 + 1 + 1 + 1; omega) _, a4.other (p := ⟨w.heap.size + 1 + 1 + 1 + 1 + 1 + 1, 0, none⟩) (by show w.heap.size + 1 + 1 + 1 + 1 ≠ w.heap.size + 1 + 1 + 1 + 1 + 1 + 1; omega) _, a5.other (p := ⟨w.heap.size + 1 + 1 + 1 + 1 + 1 + 1, 0, none⟩) (by show w.heap.size + 1 + 1 + 1 + 1 + 1 ≠ w.heap.size + 1 + 1 + 1 + 1 + 1 + 1; omega) _, ?_, Nat.le_trans a7 (KeepsOthers.setCell _ _ _).1⟩, f.setCell (p := ⟨w.heap.size + 1 + 1 + 1 + 1 + 1 + 1, 0, none⟩) (by show w.heap.size ≤ w.heap.size + 1 + 1 + 1 + 1 + 1 + 1; omega) _⟩
 have h := at_setX a6 (.int .i64 ((r : Int) + 1))
 simpa using h
/-- The pointers and the parts of a list, in memory. -/
def PtsV (w : World) (ao : Option Addr) (vo : Option Addr) (L : List (List UInt8 × Vt)) : Prop := KeysAt w ao (ptK L) ∧ ∃ X : Nat → Array Value, RowAt w vo L.length X ∧ ∀ (i : Nat) (u : Vt), (ptU L)[i]? = some u → ValAt w u (.agg (X i))
theorem PtsV.kept {w w' : World} {ao vo : Option Addr} {L : List (List UInt8 × Vt)} (h : PtsV w ao vo L) (hb : Below w.heap.size w w') : PtsV w' ao vo L := by
 obtain ⟨h1, X, h2, h3⟩ := h
 exact ⟨h1.kept hb, X, h2.kept hb, fun i u hi => (h3 i u hi).kept hb⟩
set_option maxRecDepth 100000 in
set_option maxHeartbeats 16000000 in
theorem told17_in (L : List (List UInt8 × Vt)) (gf : Nat) (lb : Array Value) (eg : ∀ args w, (callFunc gf args).run Tryz.prog w = .ok (.enter gf args) w) (ao vo : Option Addr) (N ca cl d : Nat) (left : Int) (hlw : (Lit.int .i64 left).wf = true) (hd : d ≤ 100) (w : World) (hN : Hid (L.length = N)) (hNs : N ≤ 1099511627776) (hP : PowT w) (hM : MxI w) (hseq : ∀ w1, Below w.heap.size w w1 → SeqTellR (fun W => PowT W ∧ MxI W) (4 - 1) Tryz.prog gf lb (TellE L) (KpC (fun b => b < w.heap.size)) L.length w1) (hL : PtsV w ao vo L)
  (hrec : 0 < d → ∀ (a : Int), (Lit.int .i64 a).wf = true → ∀ W', Below w.heap.size w W' → Calls Tryz.prog 7 #[(.func (.func gf) #[] lb), .slice ao N ca, .slice vo N cl, .int .i64 a, .int .i64 ((d - 1 : Nat) : Int)] W' fun e W'' => e = .returned (.bool true) ∧ Below W'.heap.size W' W'') :
  CallsIn Fence.wide 4 Tryz.prog 7 #[(.func (.func gf) #[] lb), .slice ao N ca, .slice vo N cl, .int .i64 left, .int .i64 (d : Int)] w fun e w' => e = .returned (.bool true) ∧ Below w.heap.size w w' := by
 have hL' := hid hL
 have hP' := hid hP
 have hM' := hid hM
 have hseq' := hid hseq
 have hrec' := hid hrec
 obtain ⟨hl1, hl2⟩ := wf_i64 hlw
 clear hL hP hM hseq hrec
 refine callsIn_of_wp_marks Tryz.func7 rfl trivial ?_ rfl
 simp only [Tryz.ntmps7, List.size_toArray, List.length_cons, List.length_nil, Nat.reduceAdd, Nat.reduceSub, Array.replicate_succ, Array.replicate_zero, List.push_toArray, List.append_toArray, List.nil_append, List.cons_append]
 gi_wp2
 have hI0 : TdI w (.func (.func gf) #[] lb) ao N ca vo cl left d 0 (((((((w.alloc (.cells #[.func (.func gf) #[] lb] 27)).alloc (.cells #[.slice ao N ca] 22)).alloc (.cells #[.slice vo N cl] 23)).alloc (.cells #[.int .i64 left] 3)).alloc (.cells #[.int .i64 (d : Int)] 3)).alloc (.cells #[.bool false] 4)).alloc (.cells #[.int .i64 0] 3)) := by
  refine ⟨⟨?_, ?_, ?_, ?_, ?_, ?_, ?_, by simp⟩, by repeat (first | with_reducible exact Below.refl _ _ | with_reducible refine Below.setCell ?_ (by first | (simp; done) | (simp; omega)) _ | with_reducible refine below_drewN ?_ _ | with_reducible refine Below.alloc ?_ (by first | (simp; done) | (simp; omega)) _ | with_reducible refine Below.drew ?_)⟩
  ·have h := ((((((At.new w #[.func (.func gf) #[] lb] 27).alloc (.cells #[.slice ao N ca] 22)).alloc (.cells #[.slice vo N cl] 23)).alloc (.cells #[.int .i64 left] 3)).alloc (.cells #[.int .i64 (d : Int)] 3)).alloc (.cells #[.bool false] 4)).alloc (.cells #[.int .i64 0] 3)
   simpa using h
  ·have h := (((((At.new (w.alloc (.cells #[.func (.func gf) #[] lb] 27)) #[.slice ao N ca] 22).alloc (.cells #[.slice vo N cl] 23)).alloc (.cells #[.int .i64 left] 3)).alloc (.cells #[.int .i64 (d : Int)] 3)).alloc (.cells #[.bool false] 4)).alloc (.cells #[.int .i64 0] 3)
   simpa using h
  ·have h := ((((At.new ((w.alloc (.cells #[.func (.func gf) #[] lb] 27)).alloc (.cells #[.slice ao N ca] 22)) #[.slice vo N cl] 23).alloc (.cells #[.int .i64 left] 3)).alloc (.cells #[.int .i64 (d : Int)] 3)).alloc (.cells #[.bool false] 4)).alloc (.cells #[.int .i64 0] 3)
   simpa using h
  ·have h := (((At.new (((w.alloc (.cells #[.func (.func gf) #[] lb] 27)).alloc (.cells #[.slice ao N ca] 22)).alloc (.cells #[.slice vo N cl] 23)) #[.int .i64 left] 3).alloc (.cells #[.int .i64 (d : Int)] 3)).alloc (.cells #[.bool false] 4)).alloc (.cells #[.int .i64 0] 3)
   simpa using h
  ·have h := ((At.new ((((w.alloc (.cells #[.func (.func gf) #[] lb] 27)).alloc (.cells #[.slice ao N ca] 22)).alloc (.cells #[.slice vo N cl] 23)).alloc (.cells #[.int .i64 left] 3)) #[.int .i64 (d : Int)] 3).alloc (.cells #[.bool false] 4)).alloc (.cells #[.int .i64 0] 3)
   simpa using h
  ·have h := (At.new (((((w.alloc (.cells #[.func (.func gf) #[] lb] 27)).alloc (.cells #[.slice ao N ca] 22)).alloc (.cells #[.slice vo N cl] 23)).alloc (.cells #[.int .i64 left] 3)).alloc (.cells #[.int .i64 (d : Int)] 3)) #[.bool false] 4).alloc (.cells #[.int .i64 0] 3)
   simpa using h
  ·have h := At.new ((((((w.alloc (.cells #[.func (.func gf) #[] lb] 27)).alloc (.cells #[.slice ao N ca] 22)).alloc (.cells #[.slice vo N cl] 23)).alloc (.cells #[.int .i64 left] 3)).alloc (.cells #[.int .i64 (d : Int)] 3)).alloc (.cells #[.bool false] 4)) #[.int .i64 0] 3
   simpa using h
 have hz0 : (((((((w.alloc (.cells #[.func (.func gf) #[] lb] 27)).alloc (.cells #[.slice ao N ca] 22)).alloc (.cells #[.slice vo N cl] 23)).alloc (.cells #[.int .i64 left] 3)).alloc (.cells #[.int .i64 (d : Int)] 3)).alloc (.cells #[.bool false] 4)).alloc (.cells #[.int .i64 0] 3)).heap.size = w.heap.size + 7 := by simp
 generalize (((((((w.alloc (.cells #[.func (.func gf) #[] lb] 27)).alloc (.cells #[.slice ao N ca] 22)).alloc (.cells #[.slice vo N cl] 23)).alloc (.cells #[.int .i64 left] 3)).alloc (.cells #[.int .i64 (d : Int)] 3)).alloc (.cells #[.bool false] 4)).alloc (.cells #[.int .i64 0] 3)) = w1 at *
 have hB0 := hI0.2
 have hseq := hseq'.out w1 hB0
 refine range_tellY (n := 4) (by decide) (gf := gf) (lb := lb) rfl eg
  hseq (Below.refl _ _) ?ps KpC.trans (fun c W l r r' h1 h2 h3 => ?lp) (TdI w (.func (.func gf) #[] lb) ao N ca vo cl left d) (TdX w) (tdI_free (by omega)) (fun c => tdX_free (by omega) c) (fun r W h => by have := h.1.2.2.2.2.2.2.2; omega) (fun c r W h => by have := h.2.2.2; omega)
  hI0 (fun r W h => ⟨hP'.out.kept h.2, hM'.out.kept h.2⟩) (TdY L (w1.heap.size + 1 + 1)) TdG (fun r c y => tdY_own r c y) ?assign ?body ?done ?stop
 case ps =>
  rintro b r c x W ⟨p, t, v, -, rfl, -, -, -, -⟩
  rfl
 case lp =>
  exact ⟨(grownBy_putObj' W l _).size, fun k o' hk ho => (World.putObj_heap_other (by
   rintro rfl
   rcases hk with h | h
   ·have h' : k < w.heap.size := h
    omega
   ·omega)).trans ho⟩
 case assign =>
  intro l r c x W K hlt hI hE hK
  obtain ⟨p, t', v, hLr, rfl, hbc, hcW, hv, htop⟩ := hE
  obtain ⟨k, b, r', tx, ko, n, kc, vv, m, vc, rfl⟩ := hv.at.lets
  have hb : Below W.heap.size W (W.alloc (.cells #[.int .i64 k, .bool b, .string r', .string tx, .slice ko n kc, .slice vv m vc] 25)) := (Below.refl _ _).alloc (Nat.le_refl _) _
  have hK2 := hK (p, W.heap.size, #[.int .i64 k, .bool b, .string r', .string tx, .slice ko n kc, .slice vv m vc]) (W.alloc (.cells #[.int .i64 k, .bool b, .string r', .string tx, .slice ko n kc, .slice vv m vc] 25)) ((keeps_below hb).from _) (KpS.c (KpS.below hb)) (tdI_kept hI hb) ⟨t', k, b, r', tx, ko, n, kc, vv, m, vc, hLr, hbc, hcW, rfl, At.new W _ _, hv.at.kept hb, (topX_of hv.at htop (Nat.le_refl _)).kept (fun R cs t hA => hA.keptAll hb)⟩
  simp only [TdG, List.setIfInBounds_toArray, List.set_cons_zero, List.set_cons_succ] at hK2
  clear hK hI hv hb htop
  gi_wp2
  exact hK2
 case body =>
  rintro l r c ⟨p, q, c5⟩ W hll ⟨rec, hrec⟩ hlt ⟨⟨h0, h1, h2, h3, h4, h5, h6, hzW⟩, hB⟩ ⟨t', k, b, r', tx, ko, n, kc, vv, m, vc, hLr, hGc, hcq, hc5, hQ, hV, hT⟩
  dsimp only at hLr hcq hc5 hQ hV hT
  subst hc5
  simp only [TdG, List.setIfInBounds_toArray, List.set_cons_zero, List.set_cons_succ]
  have hLrt := hid hLr
  have hcW := hid (show c ≤ W.heap.size by have := hQ.lt; omega)
  have hzn : n ≤ 140737488355328 ∧ m ≤ 140737488355328 := by
   cases hV with
   | mk k b r t ks vs ko kc vo vc X hw hz hk hr hv => exact ⟨by have := hz.2.2.1; unfold capT at this; omega, by have := hz.2.2.2; unfold capT at this; omega⟩
  have hlt' := hid hlt
  rw [hN.out] at hlt
  have hli : (r : Int) < (N : Int) := by omega
  have hge : decide ((N : Int) ≤ (r : Int)) = false := by simp; omega
  have hge' : (decide (N ≤ r)) = false := by simp; omega
  obtain ⟨hka, X, hra, hva⟩ := hL'.out
  obtain ⟨-, ga, oa, rfl, hga, hca⟩ := hka r (mkL p) (by unfold ptK; rw [List.getElem?_map, hLrt.out]; rfl)
  obtain ⟨gv, ov, rfl, hgv, hrv, hl6⟩ := row_range hra (i := r) hlt'.out
  have hvr := hva r t' (by unfold ptU; rw [List.getElem?_map, hLrt.out]; rfl)
  obtain ⟨Lx, hLx⟩ : ∃ L, (X r).toList = L := ⟨_, rfl⟩
  rw [← Array.toArray_toList (xs := X r), hLx] at hvr
  rw [hLx] at hrv hl6
  have z2 : (Tryz.prog.info? 25).map (·.size) = some Lx.length := by rw [hl6]; exact sizeVl
  obtain ⟨k2, b2, r2, t2, ko2, n2, kc2, vo2, m2, vc2, rfl⟩ := hvr.six
  have hrvW : W.drew.rangeAt gv (ov + r * 6) [.int .i64 k2, .bool b2, .string r2, .string t2, .slice ko2 n2 kc2, .slice vo2 m2 vc2] := fun j v hj => by
   have := hrv j v hj
   rw [World.cell?_of_block (w := w) (show W.drew.heap[gv]? = w.heap[gv]? from hB.block gv hgv)]
   exact this
  have hrq : W.drew.rangeAt q 0 [.int .i64 k, .bool b, .string r', .string tx, .slice ko n kc, .slice vv m vc] := hQ.drew.range rfl
  have hS0 : W.drew.cell? ⟨w.heap.size + 1, 0, none⟩ = some (.slice (some ⟨ga, oa, none⟩) N ca) ∧ W.drew.cell? ⟨w.heap.size + 1 + 1, 0, none⟩ = some (.slice (some ⟨gv, ov, none⟩) N cl) ∧ W.drew.cell? ⟨w.heap.size + 1 + 1 + 1 + 1 + 1 + 1, 0, none⟩ = some (.int .i64 (r : Int)) ∧ W.drew.cell? ⟨ga, oa + r, none⟩ = some (.string (mkL p)) ∧ W.drew.rangeAt q 0 [.int .i64 k, .bool b, .string r', .string tx, .slice ko n kc, .slice vv m vc] ∧ W.drew.rangeAt gv (ov + r * 6) [.int .i64 k2, .bool b2, .string r2, .string t2, .slice ko2 n2 kc2, .slice vo2 m2 vc2] :=
   ⟨h1.drew.cell 0, h2.drew.cell 0, h6.drew.cell 0, (hB.cell (p := ⟨ga, oa + r, none⟩) hga).trans hca, hrq, hrvW⟩
  have hkeep := hid (fun (w5 : World) (b5 : Below W.drew.heap.size W.drew w5) => (show w5.cell? ⟨w.heap.size + 1, 0, none⟩ = some (.slice (some ⟨ga, oa, none⟩) N ca) ∧ w5.cell? ⟨w.heap.size + 1 + 1, 0, none⟩ = some (.slice (some ⟨gv, ov, none⟩) N cl) ∧ w5.cell? ⟨w.heap.size + 1 + 1 + 1 + 1 + 1 + 1, 0, none⟩ = some (.int .i64 (r : Int)) ∧ w5.cell? ⟨ga, oa + r, none⟩ = some (.string (mkL p)) ∧ w5.rangeAt q 0 [.int .i64 k, .bool b, .string r', .string tx, .slice ko n kc, .slice vv m vc] ∧ w5.rangeAt gv (ov + r * 6) [.int .i64 k2, .bool b2, .string r2, .string t2, .slice ko2 n2 kc2, .slice vo2 m2 vc2] from
   ⟨(h1.drew.keptAll b5).cell 0, (h2.drew.keptAll b5).cell 0, (h6.drew.keptAll b5).cell 0, (b5.cell (p := ⟨ga, oa + r, none⟩) (show ga < W.heap.size by have := hB.size; omega)).trans hS0.2.2.2.1, (hQ.drew.keptAll b5).range rfl, fun j v hj => by
    rw [World.cell?_of_block (w := W.drew) (b5.block gv (show gv < W.heap.size by have := hB.size; omega))]
    exact hrvW j v hj⟩))
  have hEq := hid (sameV_calls t' t' (.agg #[.int .i64 k, .bool b, .string r', .string tx, .slice ko n kc, .slice vv m vc]) (.agg (List.toArray [.int .i64 k2, .bool b2, .string r2, .string t2, .slice ko2 n2 kc2, .slice vo2 m2 vc2])) true (hid ⟨fun _ => rfl, fun _ => rfl⟩) W.drew (hV.kept ((Below.refl _ W).drew)) ((hvr.kept hB).kept ((Below.refl _ W).drew)))
  have tt0 := hid h0
  have tt1 := hid h1
  have tt2 := hid h2
  have tt3 := hid h3
  have tt4 := hid h4
  have tt5 := hid h5
  have tt6 := hid h6
  have hB' := hid hB
  have hQ' := hid hQ
  have hT' := hid hT
  generalize mkL p = sp at hS0 hkeep ⊢
  clear h0 h1 h2 h3 h4 h5 h6 hB hQ hV hT hka hra hva hrv hrvW hrq hvr hca hLr hLx hl6
  gi_wp2_with fail
  refine wpIn_region_round (S := fun W' => W'.cell? ⟨w.heap.size + 1, 0, none⟩ = some (.slice (some ⟨ga, oa, none⟩) N ca) ∧ W'.cell? ⟨w.heap.size + 1 + 1, 0, none⟩ = some (.slice (some ⟨gv, ov, none⟩) N cl) ∧ W'.cell? ⟨w.heap.size + 1 + 1 + 1 + 1 + 1 + 1, 0, none⟩ = some (.int .i64 (r : Int)) ∧ W'.cell? ⟨ga, oa + r, none⟩ = some (.string sp) ∧ W'.rangeAt q 0 [.int .i64 k, .bool b, .string r', .string tx, .slice ko n kc, .slice vv m vc] ∧ W'.rangeAt gv (ov + r * 6) [.int .i64 k2, .bool b2, .string r2, .string t2, .slice ko2 n2 kc2, .slice vo2 m2 vc2]) (by kernel_rfl) (by kernel_rfl) (fun _ _ h => h) hS0 (fun hHeld => ?_)
  (refine' wpAnyH_take (i := 0) rfl (by kernel_rfl) (by kernel_rfl) (by kernel_rfl) (fun _ _ _ h => h) (Or.inl ⟨by rfl, ?_⟩) (by assumption) ?_; rotate_left; (· (intro wq hq; (try dsimp only at hq); go_simp; first | done | with_reducible rfl)); simp only [Act.put, List.getElem_toArray, List.getElem_cons_zero, List.setIfInBounds_toArray, List.set_cons_zero, List.set_cons_succ])
  (refine' wpAnyH_take (i := 1) rfl (by kernel_rfl) (by kernel_rfl) (by kernel_rfl) (fun _ _ _ h => h) (Or.inl ⟨by rfl, ?_⟩) (by assumption) ?_; rotate_left; (· (intro wq hq; (try dsimp only at hq); go_simp; first | done | with_reducible rfl)); simp only [Act.put, List.getElem_toArray, List.getElem_cons_zero, List.getElem_cons_succ, List.setIfInBounds_toArray, List.set_cons_zero, List.set_cons_succ])
  (refine' wpAnyH_take (i := 2) rfl (by kernel_rfl) (by kernel_rfl) (by kernel_rfl) (fun _ _ _ h => h) (Or.inl ⟨by rfl, ?_⟩) (by assumption) ?_; rotate_left; (· (intro wq hq; (try dsimp only at hq); go_simp; first | done | with_reducible rfl)); simp only [Act.put, List.getElem_toArray, List.getElem_cons_zero, List.getElem_cons_succ, List.setIfInBounds_toArray, List.set_cons_zero, List.set_cons_succ])
  (refine' wpAnyH_take (i := 3) rfl (by kernel_rfl) (by kernel_rfl) (by kernel_rfl) (fun _ _ _ h => h) (Or.inl ⟨by rfl, ?_⟩) (by assumption) ?_; rotate_left; (· (intro wq hq; (try dsimp only at hq); go_simp; first | done | with_reducible rfl)); simp only [Act.put, List.getElem_toArray, List.getElem_cons_zero, List.getElem_cons_succ, List.setIfInBounds_toArray, List.set_cons_zero, List.set_cons_succ])
  (refine' wpAnyH_take (i := 4) rfl (by kernel_rfl) (by kernel_rfl) (by kernel_rfl) (fun _ _ _ h => h) (Or.inl ⟨by rfl, ?_⟩) (by assumption) ?_; rotate_left; (· (intro wq hq; (try dsimp only at hq); go_simp; first | done | with_reducible rfl)); simp only [Act.put, List.getElem_toArray, List.getElem_cons_zero, List.getElem_cons_succ, List.setIfInBounds_toArray, List.set_cons_zero, List.set_cons_succ])
  (refine' wpAnyH_take (i := 5) rfl (by kernel_rfl) (by kernel_rfl) (by kernel_rfl) (fun _ _ _ h => h) (Or.inl ⟨by rfl, ?_⟩) (by assumption) ?_; rotate_left; (· (intro wq hq; (try dsimp only at hq); go_simp; first | done | with_reducible rfl)); simp only [Act.put, List.getElem_toArray, List.getElem_cons_zero, List.getElem_cons_succ, List.setIfInBounds_toArray, List.set_cons_zero, List.set_cons_succ])
  (refine' wpAnyH_take (i := 6) rfl (by kernel_rfl) (by kernel_rfl) (by kernel_rfl) (fun _ _ _ h => h) (Or.inl ⟨by rfl, ?_⟩) (by assumption) ?_; rotate_left; (· (intro wq hq; (try dsimp only at hq); go_simp; first | done | with_reducible rfl)); simp only [Act.put, List.getElem_toArray, List.getElem_cons_zero, List.getElem_cons_succ, List.setIfInBounds_toArray, List.set_cons_zero, List.set_cons_succ])
  (refine' wpAnyH_take (i := 7) rfl (by kernel_rfl) (by kernel_rfl) (by kernel_rfl) (fun _ _ _ h => h) (Or.inl ⟨by rfl, ?_⟩) (by assumption) ?_; rotate_left; (· (intro wq hq; (try dsimp only at hq); go_simp; first | done | with_reducible rfl)); simp only [Act.put, List.getElem_toArray, List.getElem_cons_zero, List.getElem_cons_succ, List.setIfInBounds_toArray, List.set_cons_zero, List.set_cons_succ])
  (refine' wpAnyH_take (i := 8) rfl (by kernel_rfl) (by kernel_rfl) (by kernel_rfl) (fun _ _ _ h => h) (Or.inl ⟨by rfl, ?_⟩) (by assumption) ?_; rotate_left; (· (intro wq hq; (try dsimp only at hq); go_simp; first | done | with_reducible rfl)); simp only [Act.put, List.getElem_toArray, List.getElem_cons_zero, List.getElem_cons_succ, List.setIfInBounds_toArray, List.set_cons_zero, List.set_cons_succ])
  (refine' wpAnyH_take (i := 9) rfl (by kernel_rfl) (by kernel_rfl) (by kernel_rfl) (fun _ _ _ h => h) (Or.inl ⟨by rfl, ?_⟩) (by assumption) ?_; rotate_left; (· (intro wq hq; (try dsimp only at hq); go_simp; first | done | with_reducible rfl)); simp only [Act.put, List.getElem_toArray, List.getElem_cons_zero, List.getElem_cons_succ, List.setIfInBounds_toArray, List.set_cons_zero, List.set_cons_succ])
  (refine' wpAnyH_take (i := 10) rfl (by kernel_rfl) (by kernel_rfl) (by kernel_rfl) (fun _ _ _ h => h) (Or.inl ⟨by rfl, ?_⟩) (by assumption) ?_; rotate_left; (· (intro wq hq; (try dsimp only at hq); go_simp; first | done | with_reducible rfl)); simp only [Act.put, List.getElem_toArray, List.getElem_cons_zero, List.getElem_cons_succ, List.setIfInBounds_toArray, List.set_cons_zero, List.set_cons_succ])
  (refine' wpAnyH_take (i := 11) rfl (by kernel_rfl) (by kernel_rfl) (by kernel_rfl) (fun _ _ _ h => h) (Or.inl ⟨by rfl, ?_⟩) (by assumption) ?_; rotate_left; (· (intro wq hq; (try dsimp only at hq); go_simp; first | done | with_reducible rfl)); simp only [Act.put, List.getElem_toArray, List.getElem_cons_zero, List.getElem_cons_succ, List.setIfInBounds_toArray, List.set_cons_zero, List.set_cons_succ])
  (refine' wpAnyH_take (i := 12) rfl (by kernel_rfl) (by kernel_rfl) (by kernel_rfl) (fun _ _ _ h => h) (Or.inl ⟨by rfl, ?_⟩) (by assumption) ?_; rotate_left; (· (intro wq hq; (try dsimp only at hq); go_simp; first | done | with_reducible rfl)); simp only [Act.put, List.getElem_toArray, List.getElem_cons_zero, List.getElem_cons_succ, List.setIfInBounds_toArray, List.set_cons_zero, List.set_cons_succ])
  (refine wpAnyH_take (i := 13) (v := .agg [.int .i64 k, .bool b, .string r', .string tx, .slice ko n kc, .slice vv m vc].toArray) rfl (by kernel_rfl) (by kernel_rfl) (by kernel_rfl) (fun _ _ _ h => h) (yieldsIf_load_mid (by rfl) 25 _ rfl (q) 0 rfl [.int .i64 k, .bool b, .string r', .string tx, .slice ko n kc, .slice vv m vc] _ (fun wq hq => hq.2.2.2.2.1) Tryz.underlying25 rfl sizeVl) (by assumption) ?_; simp only [Act.put, List.getElem_toArray, List.getElem_cons_zero, List.getElem_cons_succ, List.setIfInBounds_toArray, List.set_cons_zero, List.set_cons_succ])
  (refine' wpAnyH_take (i := 14) rfl (by kernel_rfl) (by kernel_rfl) (by kernel_rfl) (fun _ _ _ h => h) (Or.inl ⟨by rfl, ?_⟩) (by assumption) ?_; rotate_left; (· (intro wq hq; (try dsimp only at hq); go_simp; first | done | with_reducible rfl)); simp only [Act.put, List.getElem_toArray, List.getElem_cons_zero, List.getElem_cons_succ, List.setIfInBounds_toArray, List.set_cons_zero, List.set_cons_succ])
  (refine' wpAnyH_take (i := 15) rfl (by kernel_rfl) (by kernel_rfl) (by kernel_rfl) (fun _ _ _ h => h) (Or.inl ⟨by rfl, ?_⟩) (by assumption) ?_; rotate_left; (· (intro wq hq; (try dsimp only at hq); go_simp; first | done | with_reducible rfl)); simp only [Act.put, List.getElem_toArray, List.getElem_cons_zero, List.getElem_cons_succ, List.setIfInBounds_toArray, List.set_cons_zero, List.set_cons_succ])
  (refine' wpAnyH_take (i := 16) rfl (by kernel_rfl) (by kernel_rfl) (by kernel_rfl) (fun _ _ _ h => h) (Or.inl ⟨by rfl, ?_⟩) (by assumption) ?_; rotate_left; (· (intro wq hq; (try dsimp only at hq); go_simp; first | done | with_reducible rfl)); simp only [Act.put, List.getElem_toArray, List.getElem_cons_zero, List.getElem_cons_succ, List.setIfInBounds_toArray, List.set_cons_zero, List.set_cons_succ])
  (refine wpAnyH_take (i := 17) (v := .agg [.int .i64 k2, .bool b2, .string r2, .string t2, .slice ko2 n2 kc2, .slice vo2 m2 vc2].toArray) rfl (by kernel_rfl) (by kernel_rfl) (by kernel_rfl) (fun _ _ _ h => h) (yieldsIf_load_mid (by rfl) 25 _ rfl (gv) (ov + r * 6) rfl [.int .i64 k2, .bool b2, .string r2, .string t2, .slice ko2 n2 kc2, .slice vo2 m2 vc2] _ (fun wq hq => hq.2.2.2.2.2) Tryz.underlying25 rfl z2) (by assumption) ?_; simp only [Act.put, List.getElem_toArray, List.getElem_cons_zero, List.getElem_cons_succ, List.setIfInBounds_toArray, List.set_cons_zero, List.set_cons_succ])
  refine wpAnyH_ready (rs := [18]) (by kernel_rfl) (by simp) ?_
  refine AllReadyH.cons rfl (fun K hK => ?_) ?_
  ·rw [if_pos (by rfl)]
   go_simp
   refine (hEq.out).mono ?_
   rintro e wq ⟨rfl, hbq⟩
   have bb := hid (show Below W.heap.size W wq from (Below.refl _ W).drew.trans hbq)
   refine hK.out _ _ (hkeep.out _ hbq) (fun hH => ?_)
   clear hK K
   (refine' wpAnyH_take (i := 19) rfl (by kernel_rfl) (by kernel_rfl) (by kernel_rfl) (fun _ _ _ h => h) (Or.inl ⟨by rfl, ?_⟩) (by assumption) ?_; rotate_left; (· (intro wq hq; (try dsimp only at hq); go_simp; first | done | with_reducible rfl)); simp only [Act.put, List.getElem_toArray, List.getElem_cons_zero, List.getElem_cons_succ, List.setIfInBounds_toArray, List.set_cons_zero, List.set_cons_succ])
   (refine' wpAnyH_take (i := 20) rfl (by kernel_rfl) (by kernel_rfl) (by kernel_rfl) (fun _ _ _ h => h) (Or.inl ⟨by rfl, ?_⟩) (by assumption) ?_; rotate_left; (· (intro wq hq; (try dsimp only at hq); go_simp; first | done | with_reducible rfl)); simp only [Act.put, List.getElem_toArray, List.getElem_cons_zero, List.getElem_cons_succ, List.setIfInBounds_toArray, List.set_cons_zero, List.set_cons_succ])
   refine wpAnyH_done (by kernel_rfl) ?_ _
   rename_i Kz hKz
   refine hKz _ _ ?_
   clear hKz Kz hH hHeld hS0 hEq hkeep hge hge' hbq hli z2
   have hI1 := hid (show TdI w (.func (.func gf) #[] lb) (some ⟨ga, oa, none⟩) N ca (some ⟨gv, ov, none⟩) cl left d r wq from tdI_kept ⟨⟨tt0.out, tt1.out, tt2.out, tt3.out, tt4.out, tt5.out, tt6.out, hzW⟩, hB'.out⟩ bb.out)
   have Q1 := hid (hQ'.out.keptAll bb.out)
   have T1 := hid (hT'.out.kept (fun R cs t hA => hA.keptAll bb.out))
   have hn0 : (n : Int) ≤ 9223372036854775807 := by omega
   have hm0 : (m : Int) ≤ 9223372036854775807 := by omega
   have kf0 := hid (show KeepsFrom w1.heap.size W wq from (keeps_below bb.out).from _)
   clear tt0 tt1 tt2 tt3 tt4 tt5 tt6 hQ' hT' hB'
   gi_wp2_with fail
   gi_loopw [14] (fun ii wr => ∃ (i : Nat), i ≤ n ∧ ii = .int .i64 (i : Int) ∧ Hid (TdI w (.func (.func gf) #[] lb) (some ⟨ga, oa, none⟩) N ca (some ⟨gv, ov, none⟩) cl left d r wr) ∧ Hid (At wr q #[.int .i64 k, .bool b, .string r', .string tx, .slice ko n kc, .slice vv m vc] 25) ∧ Hid (TopX c q wr ko n vv m) ∧ Hid (Below c W wr) ∧ Hid (KeepsFrom w1.heap.size W wr)) (fun ii _ => n - (intOf ii).toNat)
   case atStart => exact ⟨0, Nat.zero_le _, rfl, hI1, Q1, T1, hid (bb.out.mono hcW.out), kf0⟩
   case round =>
    obtain ⟨i, hi, rfl, hI2, Q2, T2, B2, F2⟩ := hrel
    clear hI1 Q1 T1 bb kf0
    have c4 : wr.cell? ⟨q, 4, none⟩ = some (.slice ko n kc) := Q2.out.cell 4
    have c5 : wr.cell? ⟨q, 5, none⟩ = some (.slice vv m vc) := Q2.out.cell 5
    by_cases hin : i < n
    ·have hini : (i : Int) < (n : Int) := by omega
     obtain ⟨R, cs, rfl, hcR, hRq, hns, hAR⟩ : ∃ R cs, ko = some ⟨R, 0, none⟩ ∧ c ≤ R ∧ R < q ∧ n ≤ cs.size ∧ At wr R cs 9 := by
      rcases T2.out.1 with h | h
      ·omega
      ·exact h
     have kc0 : wr.cell? ⟨R, i, none⟩ = some cs[i] := by rw [hAR.cell]; exact Array.getElem?_eq_getElem (by omega)
     have kf : wr.frozen? ⟨R, i, none⟩ = false := hAR.frozen i
     have I3 := hid (tdI_free (G := w.heap.size + 7) (Nat.le_refl _) r _ _ hI2.out ((Below.refl (w.heap.size + 7) wr).setCell (p := ⟨R, i, none⟩) (by show w.heap.size + 7 ≤ R; omega) (.string ⟨#[111, 118, 101, 114]⟩)))
     have Q3 := hid (Q2.out.other (p := ⟨R, i, none⟩) (by show q ≠ R; omega) (.string ⟨#[111, 118, 101, 114]⟩))
     have T3 := hid (T2.out.key (by omega) i (.string ⟨#[111, 118, 101, 114]⟩))
     have B3 := hid (B2.out.setCell (p := ⟨R, i, none⟩) (by show c ≤ R; omega) (.string ⟨#[111, 118, 101, 114]⟩))
     have F3 := hid (F2.out.trans ((KeepsOthers.setCell wr ⟨R, i, none⟩ (.string ⟨#[111, 118, 101, 114]⟩)).from _))
     clear hI2 Q2 T2 B2 F2 hAR
     gi_wp2
     go_roundw
     case rel => exact ⟨i + 1, by omega, by simp, I3, Q3, T3, B3, F3⟩
     case measure => simp [intOf]; omega
    ·obtain rfl : n = i := by omega
     clear hi hin
     gi_wp2_with fail
     gi_loopw [15] (fun ii wr => ∃ (i : Nat), i ≤ m ∧ ii = .int .i64 (i : Int) ∧ Hid (TdI w (.func (.func gf) #[] lb) (some ⟨ga, oa, none⟩) N ca (some ⟨gv, ov, none⟩) cl left d r wr) ∧ Hid (At wr q #[.int .i64 k, .bool b, .string r', .string tx, .slice ko n kc, .slice vv m vc] 25) ∧ Hid (TopX c q wr ko n vv m) ∧ Hid (Below c W wr) ∧ Hid (KeepsFrom w1.heap.size W wr)) (fun ii _ => m - (intOf ii).toNat)
     case atStart => exact ⟨0, Nat.zero_le _, rfl, hI2, Q2, T2, B2, F2⟩
     case round =>
      obtain ⟨i, hi, rfl, hI4, Q4, T4, B4, F4⟩ := hrel
      clear hI2 Q2 T2 B2 F2 c4 c5
      have c5 : wr.cell? ⟨q, 5, none⟩ = some (.slice vv m vc) := Q4.out.cell 5
      by_cases him : i < m
      ·have himi : (i : Int) < (m : Int) := by omega
       obtain ⟨R, cs, rfl, hcR, hRq, hns, hAR⟩ : ∃ R cs, vv = some ⟨R, 0, none⟩ ∧ c ≤ R ∧ R < q ∧ m * 6 ≤ cs.size ∧ At wr R cs 25 := by
        rcases T4.out.2 with h | h
        ·omega
        ·exact h
       have hth : Hid (wr.there R (i * 6) 6) := hid (fun j hj => ⟨by rw [hAR.cell, Array.getElem?_eq_getElem (by omega)]; rfl, hAR.frozen _⟩)
       have I5 := hid (tdI_free (G := w.heap.size + 7) (Nat.le_refl _) r _ _ hI4.out (below_setCells (Below.refl (w.heap.size + 7) wr) (b := R) (by omega) [.int .i64 3, .bool false, .string ⟨#[55]⟩, .string ⟨#[]⟩, .slice none 0 0, .slice none 0 0] (i * 6)))
       have Q5 := hid (Q4.out.setCells_other (b' := R) (by omega) [.int .i64 3, .bool false, .string ⟨#[55]⟩, .string ⟨#[]⟩, .slice none 0 0, .slice none 0 0] (i * 6))
       have T5 := hid (T4.out.kid him [.int .i64 3, .bool false, .string ⟨#[55]⟩, .string ⟨#[]⟩, .slice none 0 0, .slice none 0 0] rfl)
       have B5 := hid (below_setCells B4.out (b := R) (by omega) [.int .i64 3, .bool false, .string ⟨#[55]⟩, .string ⟨#[]⟩, .slice none 0 0, .slice none 0 0] (i * 6))
       have F5 := hid (F4.out.trans ((keepsO_cells wr R [.int .i64 3, .bool false, .string ⟨#[55]⟩, .string ⟨#[]⟩, .slice none 0 0, .slice none 0 0] (i * 6)).from _))
       generalize hW5 : wr.setCells R (i * 6) [.int .i64 3, .bool false, .string ⟨#[55]⟩, .string ⟨#[]⟩, .slice none 0 0, .slice none 0 0] = W5 at I5 Q5 T5 B5 F5
       clear hI4 Q4 T4 B4 F4 hAR
       gi_wp2_with (first | (refine wpListIn_store_want 25 _ _ R (i * 6) (List.toArray [.int .i64 3, .bool false, .string ⟨#[55]⟩, .string ⟨#[]⟩, .slice none 0 0, .slice none 0 0]) hth.out sizeVl (by simp [Value.oneCell']) rfl rfl (by rfl) (by rfl) ?_; rw [List.toList_toArray, hW5]; simp only [Act.put]) | fail)
       go_roundw
       case rel => exact ⟨i + 1, by omega, by simp, I5, Q5, T5, B5, F5⟩
       case measure => simp [intOf]; omega
      ·obtain rfl : m = i := by omega
       clear hi him Q4 T4
       have e0 := hI4.out.1.1.cell 0
       have e1 := hI4.out.1.2.1.cell 0
       have e2 := hI4.out.1.2.2.1.cell 0
       have e3 := hI4.out.1.2.2.2.1.cell 0
       have e4 := hI4.out.1.2.2.2.2.1.cell 0
       have e6 := hI4.out.1.2.2.2.2.2.2.1.cell 0
       have f6 := hI4.out.1.2.2.2.2.2.2.1.frozen 0
       simp only [List.getElem?_toArray, List.getElem?_cons_zero] at e0 e1 e2 e3 e4 e6
       obtain ⟨X, hX2⟩ : ∃ X, X = wr.setCell ⟨w.heap.size + 1 + 1 + 1 + 1 + 1 + 1, 0, none⟩ (.int .i64 ((r : Int) + 1)) := ⟨_, rfl⟩
       have hX0 := hid (show TdI w (.func (.func gf) #[] lb) (some ⟨ga, oa, none⟩) N ca (some ⟨gv, ov, none⟩) cl left d (r + 1) X by rw [hX2]; exact tdI_next hI4.out)
       have hXk := hid (show KpC (fun b => b < w.heap.size) (w1.heap.size + 1 + 1) c W X by rw [hX2]; exact (KpC.below B4.out (fun k hk => by have hk' : k < w.heap.size := hk; omega)).trans (KpC.set _ (by show ¬ (w.heap.size + 1 + 1 + 1 + 1 + 1 + 1 < w.heap.size); omega) (by omega)))
       have hXf := hid (show KeepsFrom w1.heap.size W X by rw [hX2]; exact F4.out.trans ((KeepsOthers.setCell _ _ _).from _))
       have hXB := hid hX0.out.2
       have hri : (r : Int) + 1 ≤ 1099511627776 := by omega
       clear hl1 hl2 hI4 B4 F4 hn0 hm0
       by_cases hcall : r + 1 = 2 ∧ 0 < d
       ·obtain ⟨hr2, hd0⟩ := hcall
        have e22 : ((r : Int) + 1 == 2) = true := by rw [beq_iff_eq]; omega
        have hdp : decide ((0 : Int) < (d : Int)) = true := by simp; omega
        have hdp' : decide (0 < d) = true := by simp; omega
        obtain ⟨e, he⟩ : ∃ e, Hid (d - 1 = e) := ⟨_, rfl⟩
        have hd1 : (d : Int) - 1 = (e : Int) := by have := he.out; omega
        have hdw : IntKind.i64.wrap (e : Int) = (e : Int) := by rw [IntKind.wrap_i64]; have := he.out; omega
        obtain ⟨a, ha⟩ : ∃ a, IntKind.i64.wrap (left + 1) = a := ⟨_, rfl⟩
        have haw : (Lit.int .i64 a).wf = true := by rw [← ha]; exact wf_wrapX _
        have hcl := hid (hrec'.out hd0 a haw X hXB.out)
        rw [he.out] at hcl
        have x0 := hX0.out.1.1.cell 0
        have x1 := hX0.out.1.2.1.cell 0
        have x2 := hX0.out.1.2.2.1.cell 0
        have x3 := hX0.out.1.2.2.2.1.cell 0
        have x4 := hX0.out.1.2.2.2.2.1.cell 0
        have x6 := hX0.out.1.2.2.2.2.2.2.1.cell 0
        simp only [List.getElem?_toArray, List.getElem?_cons_zero] at x0 x1 x2 x3 x4 x6
        clear he haw hd0 hr2
        gi_wp2_with fail
        rw [← hX2]
        refine ⟨trivial, ?_⟩
        refine (CallsIn.inRound l (callsIn_wide.2 hcl.out)).mono ?_
        rintro e' W2 ⟨rfl, hb2⟩
        have hq0 := hid (tdI_kept hX0.out hb2)
        have hqk := hid (hXk.out.trans (KpS.c (KpS.below hb2)))
        have hqf := hid (hXf.out.trans ((keeps_below hb2).from _))
        clear hb2 hcl x0 x1 x2 x3 x4 x6 e0 e1 e2 e3 e4 e6 f6 hX0 hXk hXf hXB hX2
        have d3 := hq0.out.1.2.2.2.1.cell 0
        have d6 := hq0.out.1.2.2.2.2.2.2.1.cell 0
        have d5 := hq0.out.1.2.2.2.2.2.1.cell 0
        have g5 := hq0.out.1.2.2.2.2.2.1.frozen 0
        simp only [List.getElem?_toArray, List.getElem?_cons_zero] at d3 d6 d5
        by_cases hleft : left = (r : Int) + 1
        ·have e9 : ((r : Int) + 1 == left) = true := by simp [hleft]
         have e9' : (((r + 1 : Nat) : Int) == left) = true := by simp [hleft]
         clear hleft
         gi_wp2
         exact ⟨hqf.out.trans ((KeepsOthers.setCell _ _ _).from _), hqk.out.trans (KpC.set _ (by show ¬ (w.heap.size + 1 + 1 + 1 + 1 + 1 < w.heap.size); omega) (by omega)), rfl, at_setX hq0.out.1.2.2.2.2.2.1 (.bool true), hq0.out.2.setCell (p := ⟨w.heap.size + 1 + 1 + 1 + 1 + 1, 0, none⟩) (by show w.heap.size ≤ w.heap.size + 1 + 1 + 1 + 1 + 1; omega) _, Nat.le_trans hq0.out.1.2.2.2.2.2.2.2 (KeepsOthers.setCell _ _ _).1⟩
        ·have e9 : ((r : Int) + 1 == left) = false := by rw [beq_eq_false_iff_ne]; exact fun e => hleft e.symm
         have e9' : (((r + 1 : Nat) : Int) == left) = false := by rw [beq_eq_false_iff_ne]; exact fun e => hleft (by rw [← e]; simp)
         clear hleft
         gi_wp2
         exact ⟨hqf.out, hqk.out, hq0.out⟩
       ·have hq0 := hX0
        have hqk := hXk
        have hqf := hXf
        rw [hX2] at hq0 hqk hqf
        clear hX0 hXk hXf hXB hX2
        by_cases hr2 : r + 1 = 2
        ·have e22 : ((r : Int) + 1 == 2) = true := by rw [beq_iff_eq]; omega
         obtain rfl : d = 0 := by omega
         clear hcall hr2
         gi_wp2_with fail
         refine ⟨trivial, ?_⟩
         have d3 := hq0.out.1.2.2.2.1.cell 0
         have d6 := hq0.out.1.2.2.2.2.2.2.1.cell 0
         have d5 := hq0.out.1.2.2.2.2.2.1.cell 0
         have g5 := hq0.out.1.2.2.2.2.2.1.frozen 0
         simp only [List.getElem?_toArray, List.getElem?_cons_zero] at d3 d6 d5
         by_cases hleft : left = (r : Int) + 1
         ·have e9 : ((r : Int) + 1 == left) = true := by simp [hleft]
          have e9' : (((r + 1 : Nat) : Int) == left) = true := by simp [hleft]
          clear hleft
          gi_wp2
          exact ⟨hqf.out.trans ((KeepsOthers.setCell _ _ _).from _), hqk.out.trans (KpC.set _ (by show ¬ (w.heap.size + 1 + 1 + 1 + 1 + 1 < w.heap.size); omega) (by omega)), rfl, at_setX hq0.out.1.2.2.2.2.2.1 (.bool true), hq0.out.2.setCell (p := ⟨w.heap.size + 1 + 1 + 1 + 1 + 1, 0, none⟩) (by show w.heap.size ≤ w.heap.size + 1 + 1 + 1 + 1 + 1; omega) _, Nat.le_trans hq0.out.1.2.2.2.2.2.2.2 (KeepsOthers.setCell _ _ _).1⟩
         ·have e9 : ((r : Int) + 1 == left) = false := by rw [beq_eq_false_iff_ne]; exact fun e => hleft e.symm
          have e9' : (((r + 1 : Nat) : Int) == left) = false := by rw [beq_eq_false_iff_ne]; exact fun e => hleft (by rw [← e]; simp)
          clear hleft
          gi_wp2
          exact ⟨hqf.out, hqk.out, hq0.out⟩
        ·have e22 : ((r : Int) + 1 == 2) = false := by rw [beq_eq_false_iff_ne]; omega
         clear hcall hr2
         gi_wp2_with fail
         refine ⟨trivial, ?_⟩
         have d3 := hq0.out.1.2.2.2.1.cell 0
         have d6 := hq0.out.1.2.2.2.2.2.2.1.cell 0
         have d5 := hq0.out.1.2.2.2.2.2.1.cell 0
         have g5 := hq0.out.1.2.2.2.2.2.1.frozen 0
         simp only [List.getElem?_toArray, List.getElem?_cons_zero] at d3 d6 d5
         by_cases hleft : left = (r : Int) + 1
         ·have e9 : ((r : Int) + 1 == left) = true := by simp [hleft]
          have e9' : (((r + 1 : Nat) : Int) == left) = true := by simp [hleft]
          clear hleft
          gi_wp2
          exact ⟨hqf.out.trans ((KeepsOthers.setCell _ _ _).from _), hqk.out.trans (KpC.set _ (by show ¬ (w.heap.size + 1 + 1 + 1 + 1 + 1 < w.heap.size); omega) (by omega)), rfl, at_setX hq0.out.1.2.2.2.2.2.1 (.bool true), hq0.out.2.setCell (p := ⟨w.heap.size + 1 + 1 + 1 + 1 + 1, 0, none⟩) (by show w.heap.size ≤ w.heap.size + 1 + 1 + 1 + 1 + 1; omega) _, Nat.le_trans hq0.out.1.2.2.2.2.2.2.2 (KeepsOthers.setCell _ _ _).1⟩
         ·have e9 : ((r : Int) + 1 == left) = false := by rw [beq_eq_false_iff_ne]; exact fun e => hleft e.symm
          have e9' : (((r + 1 : Nat) : Int) == left) = false := by rw [beq_eq_false_iff_ne]; exact fun e => hleft (by rw [← e]; simp)
          clear hleft
          gi_wp2
          exact ⟨hqf.out, hqk.out, hq0.out⟩
  exact AllReadyH.nil
 case done =>
  rintro D W hD ⟨⟨-, h1, -, -, -, h5, h6, hzW⟩, hB⟩ hK
  rw [hN.out] at h6
  have c1 := h1.cell 0
  have c5 := h5.cell 0
  have c6 := h6.cell 0
  have f5 := h5.frozen 0
  simp only [List.getElem?_toArray, List.getElem?_cons_zero] at c1 c5 c6
  have eN : ((N : Int) == (N : Int)) = true := by simp
  have hB2 := hB.setCell (p := ⟨w.heap.size + 1 + 1 + 1 + 1 + 1, 0, none⟩) (by show w.heap.size ≤ w.heap.size + 1 + 1 + 1 + 1 + 1; omega) (.bool true)
  have hK' : (W.setCell ⟨w.heap.size + 1 + 1 + 1 + 1 + 1, 0, none⟩ (.bool true)).heap[D]? = some (.deferred (some [])) := (Below.heap_setCell W ⟨w.heap.size + 1 + 1 + 1 + 1 + 1, 0, none⟩ _ D (by show D ≠ w.heap.size + 1 + 1 + 1 + 1 + 1; omega)).trans hK
  gi_wp2
  refine ⟨by simp, .inl ⟨_, _, rfl, run_takeDeferred hK', ?_⟩⟩
  have hc5 := cell_kept (World.cell?_setCell_same' W ⟨w.heap.size + 1 + 1 + 1 + 1 + 1, 0, none⟩ (.bool true) (by rw [c5]; rfl)) (grownBy_putObj' _ D (.deferred none)) (fun r e => by cases e; exact ⟨_, hK', rfl⟩)
  refine ⟨.bool true, ?_, rfl, hB2.trans (belowK_b (w := w) (Nat.le_refl _) _ D _ _ (by omega) hK' rfl rfl)⟩
  simp [results, Tryz.f7, go_sem, hc5]
 case stop =>
  rintro D c r W hD - ⟨rfl, h5, hB, hG⟩ hK
  have c5 := h5.cell 0
  simp only [List.getElem?_toArray, List.getElem?_cons_zero] at c5
  gi_wp2
  refine ⟨by simp, .inl ⟨_, _, rfl, run_takeDeferred hK, ?_⟩⟩
  have hc5 := cell_kept c5 (grownBy_putObj' _ D (.deferred none)) (fun r e => by cases e; exact ⟨_, hK, rfl⟩)
  refine ⟨.bool true, ?_, rfl, hB.trans (belowK_b (w := w) (Nat.le_refl _) _ D _ _ (by omega) hK rfl rfl)⟩
  simp [results, Tryz.f7, go_sem, hc5]
theorem told17_calls (L : List (List UInt8 × Vt)) (gf : Nat) (lb : Array Value) (eg : ∀ args w, (callFunc gf args).run Tryz.prog w = .ok (.enter gf args) w) (ao vo : Option Addr) (N ca cl : Nat) (hN : Hid (L.length = N)) (hNs : N ≤ 1099511627776) : ∀ (d : Nat), d ≤ 100 → ∀ (left : Int), (Lit.int .i64 left).wf = true → ∀ (w : World), PowT w → MxI w → (∀ w1 w2, Below w.heap.size w w1 → Below w1.heap.size w1 w2 → SeqTellR (fun W => PowT W ∧ MxI W) (4 - 1) Tryz.prog gf lb (TellE L) (KpC (fun b => b < w1.heap.size)) L.length w2) → PtsV w ao vo L →
  Calls Tryz.prog 7 #[.func (.func gf) #[] lb, .slice ao N ca, .slice vo N cl, .int .i64 left, .int .i64 (d : Int)] w fun e w' => e = .returned (.bool true) ∧ Below w.heap.size w w'
 | 0, hd, left, hl, w, hP, hM, hS, hL => callsIn_wide.1 (told17_in L gf lb eg ao vo N ca cl 0 left hl hd w hN hNs hP hM (fun w2 hb => hS w w2 (Below.refl _ _) hb) hL (fun h => by omega))
 | d + 1, hd, left, hl, w, hP, hM, hS, hL => callsIn_wide.1 (told17_in L gf lb eg ao vo N ca cl (d + 1) left hl hd w hN hNs hP hM (fun w2 hb => hS w w2 (Below.refl _ _) hb) hL (fun _ a ha W' hb => told17_calls L gf lb eg ao vo N ca cl hN hNs d (by omega) a ha W' (hP.kept hb) (hM.kept hb) (fun w1 w2 h1 h2 => hS w1 w2 (hb.trans (h1.mono hb.size)) h2) (hL.kept hb)))
/-- told of what tree.Walk made. -/
theorem told17_walk (t : Vt) (hln : lnV t) (hok : okP t) (hbd : ∀ x ∈ prV [] t, x.1.length ≤ 1099511627776) (Bk : Nat) (ck : Array Value) (ao vo : Option Addr) (N ca cl : Nat) (hN : Hid ((prV [] t).length = N)) (hNs : N ≤ 1099511627776) (d : Nat) (hd : d ≤ 100) (left : Int) (hl : (Lit.int .i64 left).wf = true) (w : World) (hP : PowT w) (hM : MxI w) (hA : At w Bk ck 25) (hV : ValOn (fun c => c < w.heap.size) w t (.agg ck)) (hL : PtsV w ao vo (prV [] t)) :
  Calls Tryz.prog 7 #[.func (.func 15) #[] #[.pointer (some ⟨Bk, 0, none⟩)], .slice ao N ca, .slice vo N cl, .int .i64 left, .int .i64 (d : Int)] w fun e w' => e = .returned (.bool true) ∧ Below w.heap.size w w' :=
 told17_calls (prV [] t) 15 #[.pointer (some ⟨Bk, 0, none⟩)] (enters_of Tryz.func15 (by kernel_rfl) rfl) ao vo N ca cl hN hNs d hd left hl w hP hM (fun w1 w2 h1 h2 => walk2_tell (fun b => b < w1.heap.size) (4 - 1) t hln hok hbd Bk ck w2 ((hA.keptAll h1).keptAll h2) (((hV.keptB h1).mono (fun c _ hc => Nat.lt_of_lt_of_le hc h1.size)).keptB h2)) hL
/-- An iterator that tells nothing. -/
theorem walk1_tell (S : Nat → Prop) (n : Nat) (w : World) : SeqTellR (fun W => PowT W ∧ MxI W) n Tryz.prog 13 #[] (TellE []) (KpC S) 0 w := by
 intro l J Jx W hbW hJ hJx hGd hY h0
 refine callsIn_of_wp Tryz.func13 rfl trivial ?_ rfl
 simp only [Tryz.ntmps13, List.size_toArray, List.length_cons, List.length_nil, Nat.reduceAdd, Nat.reduceSub, Array.replicate_succ, Array.replicate_zero, List.push_toArray, List.append_toArray, List.nil_append, List.cons_append]
 have h0' := hid h0
 clear hY hGd hJ hJx h0
 gi_wp2
 refine bodyPost_end (results_none rfl _ _ _) rfl ?_
 exact ⟨⟨_, rfl⟩, .inl h0'.out⟩
theorem told17_none (ao vo : Option Addr) (ca cl : Nat) (d : Nat) (hd : d ≤ 100) (left : Int) (hl : (Lit.int .i64 left).wf = true) (w : World) (hP : PowT w) (hM : MxI w) :
  Calls Tryz.prog 7 #[.func (.func 13) #[] #[], .slice ao 0 ca, .slice vo 0 cl, .int .i64 left, .int .i64 (d : Int)] w fun e w' => e = .returned (.bool true) ∧ Below w.heap.size w w' :=
 told17_calls [] 13 #[] (enters_of Tryz.func13 (by kernel_rfl) rfl) ao vo 0 ca cl (hid rfl) (by omega) d hd left hl w hP hM (fun w1 w2 h1 h2 => walk1_tell (fun b => b < w1.heap.size) (4 - 1) w2) ⟨fun i s h => by simp [ptK] at h, fun _ => #[], fun i h => by simp at h, fun i u h => by simp [ptU] at h⟩
end Go.Proofs.YtlmjiocdhobopaaGreatDoor
