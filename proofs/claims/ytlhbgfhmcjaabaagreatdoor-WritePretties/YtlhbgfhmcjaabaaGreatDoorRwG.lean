/-
 quarryref00.fewValue (by gen_rwg.py).
-/
import Derived.Test.YtlhbgfhmcjaabaaGreatDoorRwF
import Derived.Test.YtlhbgfhmcjaabaaGreatDoorRwO
namespace Go.Proofs.YtlhbgfhmcjaabaaGreatDoor
open Go.RowKit Go.Shelf
/-- A value of which so many parts are taken. -/
structure FwS (H : Nat) (w : World) (src : Array Value) (vv : Value) (vs : List Vt) (wr : World) : Prop where
 src : At wr H src 25
 res : At wr (H + 1) #[.int .i64 0, .bool false, .string ⟨#[]⟩, .string ⟨#[]⟩, .slice none 0 0, .slice none 0 0] 25
 kids : KidsG (H + 2) none wr vv vs
 sz : H + 2 ≤ wr.heap.size
 bel : Below H w wr
section
variable {H : Nat} {w x x' y : World} {src : Array Value} {vv vv' : Value} {vs vs' : List Vt}
theorem FwS.kept (h : FwS H w src vv vs x) (hb : Below x.heap.size x x') : FwS H w src vv vs x' :=
 ⟨h.src.keptAll hb, h.res.keptAll hb, h.kids.kept (SameOn.below hb), Nat.le_trans h.sz hb.size, h.bel.trans (hb.mono (by have := h.sz; omega))⟩
theorem FwS.kid (h : FwS H w src vv vs x) (hk : KidsG (H + 2) none y vv' vs') (hg : x.grownBy y vv.ownBlock) : FwS H w src vv' vs' y := by
 have hlow : ∀ c, c < H + 2 → y.heap[c]? = x.heap[c]? := fun c hc => hg.block c (Nat.lt_of_lt_of_le hc h.sz) (fun e => by have := (h.kids.blk e.symm).1; omega)
 exact ⟨(hlow H (by omega)).trans h.src, (hlow (H + 1) (by omega)).trans h.res, hk, Nat.le_trans h.sz hg.size, ⟨hg.os.trans h.bel.os, hg.tape.trans h.bel.tape, hg.output.trans h.bel.output, Nat.le_trans h.bel.size hg.size, fun c hc => (hlow c (by omega)).trans (h.bel.block c hc)⟩⟩
theorem KidsG.avoid {B p : Nat} {W : World} {v : Value} {vs : List Vt} (h : KidsG B none W v vs) (hp : W.heap.size ≤ p) : KidsG B (some p) W v vs := by
 obtain ⟨X, h1, h2, h3⟩ := h
 exact ⟨X, h1, h2, fun i u hi => (h3 i u hi).mono (fun c hl hc => ⟨hc.1, hc.2.1, fun e => by injection e with e; omega⟩)⟩
theorem KidsG.off {B p : Nat} {W W' : World} {v : Value} {vs : List Vt} (h : KidsG B (some p) W v vs) (hv : v.ownBlock ≠ some p) (hs : SameOn (fun c => c ≠ p) W W') : KidsG B none W' v vs := by
 obtain ⟨X, h1, h2, h3⟩ := h
 exact ⟨X, own_on h1 (fun g hg _ hl => hs.2 g (fun e => hv (e ▸ hg)) hl), h2, fun i u hi => (h3 i u hi).kept (fun c _ hc => ⟨hc.1, hc.2.1, fun e => by cases e⟩) ⟨hs.1, fun c hc hl => hs.2 c (fun e => hc.2.2 (by rw [e])) hl⟩⟩
/-- A box of its own is stored over. -/
theorem FwS.box (h : FwS H w src vv vs x) {p : Nat} (hp : H + 2 ≤ p) (hs : SameOn (fun c => c ≠ p) x x') (hk : KidsG (H + 2) none x' vv vs) (hb : Below H x x') : FwS H w src vv vs x' :=
 ⟨(hs.2 H (by omega) h.src.lt).trans h.src, (hs.2 (H + 1) (by omega) h.res.lt).trans h.res, hk, Nat.le_trans h.sz hs.1, h.bel.trans hb⟩
end
theorem append_keys {w : World} {ko : Option Addr} (kc : Nat) {ks : List ByteArray} (h : KeysAt w ko ks) (hl : ks.length ≤ 1099511627776) : ∃ (ko' : Option Addr) (kc' : Nat) (W' : World), (∀ ty, (Builtin.append_ #[22, 22] ty #[.slice none 0 0, .slice ko ks.length kc]).run Tryz.prog w = .ok (.slice ko' ks.length kc') W') ∧ KRow w.heap.size W' ko' ks ∧ Below w.heap.size w W' := by
 obtain ⟨iK, zK, hi, hiz, his, hib⟩ := infoK
 have hsrc := keys_src kc h
 rw [← his] at hsrc
 by_cases h0 : ks.length = 0
 ·have hks0 : ks = [] := List.length_eq_zero_iff.1 h0
  subst hks0
  exact ⟨none, 0, w, fun ty => append_none Tryz.underlying22 hi w hsrc ty, .inl rfl, Below.refl _ _⟩
 ·obtain ⟨cap, cs, happ, hcs⟩ := append_fresh Tryz.underlying22 hi hiz w hsrc (by omega) (by rw [hib]; omega) hl
  refine ⟨_, _, _, happ, .inr ⟨w.heap.size, cs, rfl, Nat.le_refl _, At.new w.drew cs 9, fun i s hi => ?_⟩, (Below.refl _ w).drew.alloc (Nat.le_refl _) _⟩
  have hl := (List.getElem?_eq_some_iff.1 hi).1
  rw [hcs i (by rw [List.length_map]; exact hl), List.getElem?_map, hi]
  rfl
theorem KeysAt.take {w : World} {ko : Option Addr} {ks : List ByteArray} (h : KeysAt w ko ks) (n : Nat) : KeysAt w ko (ks.take n) := fun i s hi => by
 rw [List.getElem?_take] at hi
 split at hi
 ·exact h i s hi
 ·cases hi
set_option maxRecDepth 10000 in
set_option maxHeartbeats 8000000 in
theorem fewP_ex : ∀ (n : Nat) (t : Vt), SizeOf.sizeOf t ≤ n → ∀ (lf : Nat), lf ≤ 1500 → ∀ (va : Value) (w : World), ValC w t va →
  Calls Tryz.prog 22 #[va, .int .i64 (lf : Int)] w fun e w' => ∃ x : Value, e = .returned (.tuple #[x, .int .i64 ((fewV t lf).2 : Int)]) ∧ ValOn (fun c => w.heap.size ≤ c) w' (fewV t lf).1 x ∧ Below w.heap.size w w' := by
 intro n
 induction n with
 | zero =>
  intro t hs
  cases t
  simp at hs
 | succ n ih =>
  intro t hs lf hlf va w ha
  cases ha with
  | mk k b r t ks vs ko kc vo vc X hw hz hc hk hr hv =>
  have ih' := hid ih
  have hs' := hid hs
  have hk' := hid hk
  have hr' := hid hr
  have hv' := hid hv
  have hz' := hid hz
  have hw' := hid hw
  have hc' := hid hc
  obtain ⟨N, hN⟩ : ∃ N, Hid (ks.length = N) := ⟨_, rfl⟩
  obtain ⟨M, hM⟩ : ∃ M, Hid (vs.length = M) := ⟨_, rfl⟩
  have hMi : (M : Int) ≤ 140737488351232 := by have := hz.2.2.2; rw [hM.out] at this; unfold capT at this; omega
  have hNi : (N : Int) ≤ 140737488351232 := by have := hz.2.2.1; rw [hN.out] at this; unfold capT at this; omega
  obtain ⟨T1, hT1⟩ : ∃ x, Hid (fewV (.mk k b r t ks vs) lf = x) := ⟨_, hid rfl⟩
  rw [hT1.out, hN.out, hM.out]
  rw [hN.out] at hc'
  clear ih hs hk hr hv hz hw hc
  obtain ⟨H, hH⟩ : ∃ H, Hid (w.heap.size = H) := ⟨_, rfl⟩
  have e1 : (w.alloc (.cells #[.int .i64 k, .bool b, .string r, .string t, .slice ko N kc, .slice vo M vc] 25)).heap.size = H + 1 := by rw [World.size_alloc, hH.out]
  have S1 : Hid (FwS H w #[.int .i64 k, .bool b, .string r, .string t, .slice ko N kc, .slice vo M vc] (.slice none 0 0) [] ((w.alloc (.cells #[.int .i64 k, .bool b, .string r, .string t, .slice ko N kc, .slice vo M vc] 25)).alloc (.cells #[.int .i64 0, .bool false, .string ⟨#[]⟩, .string ⟨#[]⟩, .slice none 0 0, .slice none 0 0] 25))) := by
   have h1 := (At.new w #[.int .i64 k, .bool b, .string r, .string t, .slice ko N kc, .slice vo M vc] 25).alloc (.cells #[.int .i64 0, .bool false, .string ⟨#[]⟩, .string ⟨#[]⟩, .slice none 0 0, .slice none 0 0] 25)
   rw [hH.out] at h1
   have h2 := At.new (w.alloc (.cells #[.int .i64 k, .bool b, .string r, .string t, .slice ko N kc, .slice vo M vc] 25)) #[.int .i64 0, .bool false, .string ⟨#[]⟩, .string ⟨#[]⟩, .slice none 0 0, .slice none 0 0] 25
   rw [e1] at h2
   refine ⟨h1, h2, KidsG.nil _ _ _, by rw [World.size_alloc, e1]; exact Nat.le_refl _, ?_⟩
   rw [← hH.out]
   exact ((Below.refl _ w).alloc (Nat.le_refl _) _).alloc (by rw [World.size_alloc]; omega) _
  clear e1
  go_enter Tryz.func22, Tryz.ntmps22
  go_upto_region 1 with fail
  rw [hH.out]
  generalize (w.alloc (.cells #[.int .i64 k, .bool b, .string r, .string t, .slice ko N kc, .slice vo M vc] 25)).alloc (.cells #[.int .i64 0, .bool false, .string ⟨#[]⟩, .string ⟨#[]⟩, .slice none 0 0, .slice none 0 0] 25) = W1 at S1 ⊢
  go_wp2
  go_loopw [1, 6, 7, 8] (fun ll kk ii _ wr => ∃ (q L cap : Nat) (so : Option Addr) (pre : List Vt), q ≤ M ∧ L ≤ 1500 ∧ ii = .int .i64 (q : Int) ∧ ll = .int .i64 (L : Int) ∧ kk = .slice so q cap ∧ Hid (pre.length = q) ∧ Hid (fewL vs lf = (pre ++ (fewL (vs.drop q) L).1, (fewL (vs.drop q) L).2)) ∧ Hid (FwS H w #[.int .i64 k, .bool b, .string r, .string t, .slice ko N kc, .slice vo M vc] (.slice so q cap) pre wr)) (fun _ _ ii _ _ => M - (intOf ii).toNat)
  case atStart => exact ⟨0, lf, 0, none, [], Nat.zero_le _, hlf, rfl, rfl, rfl, hid rfl, hid (by simp), S1⟩
  case round =>
   clear S1
   obtain ⟨q, L, cap, so, pre, hqM, hL, rfl, rfl, rfl, hpl, hfe, hC⟩ := hrel
   have d0 := hC.out.src.cell 0
   have d1 := hC.out.src.cell 1
   have d2 := hC.out.src.cell 2
   have d3 := hC.out.src.cell 3
   have d4 := hC.out.src.cell 4
   have d5 := hC.out.src.cell 5
   simp only [List.getElem?_toArray, List.getElem?_cons_zero, List.getElem?_cons_succ] at d0 d1 d2 d3 d4 d5
   by_cases hgo : q < M ∧ 0 < L
   ·obtain ⟨hq, hL0⟩ := hgo
    have hq15 : q ≤ 1500 := by
     have h1 := (fewL_le vs lf).2
     have h2 := cntL_len (fewL vs lf).1
     rw [hfe.out] at h1 h2
     dsimp only at h1 h2
     rw [List.length_append, hpl.out] at h2
     omega
    obtain ⟨L', rfl⟩ : ∃ L', L = L' + 1 := ⟨L - 1, by omega⟩
    have hqi : (q : Int) < (M : Int) := by omega
    have hlv : q < vs.length := by rw [hM.out]; exact hq
    obtain ⟨u, hu⟩ : ∃ u, vs[q]? = some u := ⟨_, List.getElem?_eq_getElem hlv⟩
    have hBw : Below w.heap.size w wr := by rw [hH.out]; exact hC.out.bel
    obtain ⟨g, o, rfl, hg, hrg, -⟩ := row_range (hr'.out.kept hBw) (i := q) hlv
    obtain ⟨LX, hLX⟩ : ∃ L, (X q).toList = L := ⟨_, rfl⟩
    rw [hLX] at hrg
    have hVu : ValC wr u (.agg LX.toArray) := by
     have := (hv'.out q u hu).kept hBw
     rw [← hLX, Array.toArray_toList]
     exact this
    obtain ⟨k1, b1, r1, t1, ko1, N1, kc1, vo1, M1, vc1, rfl⟩ := hVu.at.six
    have z1 : (Tryz.prog.info? 25).map (·.size) = some ([.int .i64 k1, .bool b1, .string r1, .string t1, .slice ko1 N1 kc1, .slice vo1 M1 vc1] : List Value).length := sizeVl
    have hsu := kid_size (k := k) (b := b) (r := r) (t := t) (ks := ks) hu
    have q1 : Below wr.heap.size wr (wr.alloc (.cells #[.int .i64 0, .bool false, .string ⟨#[]⟩, .string ⟨#[]⟩, .slice none 0 0, .slice none 0 0] 25)) := (Below.refl _ _).alloc (Nat.le_refl _) _
    obtain ⟨FT, hFT⟩ : ∃ x, Hid (fewV u L' = x) := ⟨_, hid rfl⟩
    have hcu := hid (ih'.out u (by have := hs'.out; omega) L' (by omega) _ (wr.alloc (.cells #[.int .i64 0, .bool false, .string ⟨#[]⟩, .string ⟨#[]⟩, .slice none 0 0, .slice none 0 0] 25)) (hVu.kept q1))
    rw [hFT.out] at hcu
    have hF2 : FT.2 ≤ L' := by rw [← hFT.out]; exact (fewV_le u L').1
    have hst := hid (fewL_step (n := L') hu)
    rw [hFT.out] at hst
    have hrgk := hid (show (wr.alloc (.cells #[.int .i64 0, .bool false, .string ⟨#[]⟩, .string ⟨#[]⟩, .slice none 0 0, .slice none 0 0] 25)).rangeAt g (o + q * 6) [.int .i64 k1, .bool b1, .string r1, .string t1, .slice ko1 N1 kc1, .slice vo1 M1 vc1] from fun j v hv => by rw [World.cell?_alloc_past _ _ _ (by exact hg)]; exact hrg j v hv)
    have C1 := hid (hC.out.kept q1)
    have G1 := hid ((hC.out.kids.avoid (Nat.le_refl _)).kept (SameOn.below q1))
    have hvp : Hid ((Value.slice so q cap).ownBlock ≠ some wr.heap.size) := fun e => by have := (hC.out.kids.blk e).2; omega
    have E1 := hid (At.new wr #[.int .i64 0, .bool false, .string ⟨#[]⟩, .string ⟨#[]⟩, .slice none 0 0, .slice none 0 0] 25)
    obtain ⟨pe, hpe⟩ : ∃ x, Hid (wr.heap.size = x) := ⟨_, rfl⟩
    have hpl2 : Hid (H + 2 ≤ pe) := by have := hC.out.sz; rw [hpe.out] at this; exact this
    rw [hpe.out] at E1 G1 hvp
    clear hrg hVu hLX hBw hsu hu hC q1
    have hL2 : ((L' : Int) + 1) ≤ 1500 := by omega
    go_upto_region 6 with fail
    clear d0 d1 d2 d3 d4 d5
    generalize wr.alloc (.cells #[.int .i64 0, .bool false, .string ⟨#[]⟩, .string ⟨#[]⟩, .slice none 0 0, .slice none 0 0] 25) = W2 at hcu hrgk C1 E1 G1 ⊢
    rw [hpe.out]
    have d5 : W2.cell? ⟨H, 5, none⟩ = some (.slice (some ⟨g, o, none⟩) M vc) := C1.out.src.cell 5
    go_wp2_with (refine wpList_load_want 25 _ g (o + q * 6) [.int .i64 k1, .bool b1, .string r1, .string t1, .slice ko1 N1 kc1, .slice vo1 M1 vc1] _ hrgk.out Tryz.underlying25 z1 rfl rfl rfl (by rfl) ?_)
    refine Calls.mono hcu.out ?_
    rintro e w2 ⟨x, rfl, hV, hb⟩
    obtain ⟨u', hu'⟩ : ∃ u', Hid (FT.1 = u') := ⟨_, rfl⟩
    rw [hu'.out] at hV
    obtain ⟨ko2, kc2, vo2, vc2, rfl⟩ := hV.six
    have hpw : pe < W2.heap.size := E1.out.lt
    have E2 := hid (E1.out.keptAll hb)
    have C2 := hid (C1.out.kept hb)
    have G2 := hid (G1.out.kept (SameOn.below hb))
    have hzz := hpl2.out
    have V3 := hid (hV.kept (S' := fun c => H + 2 ≤ c ∧ (Value.slice so q cap).ownBlock ≠ some c ∧ (none : Option Nat) ≠ some c) (w' := ((((((w2.setCell ⟨pe, 0, none⟩ (.int .i64 u'.kind)).setCell ⟨pe, 1, none⟩ (.bool u'.b)).setCell ⟨pe, 2, none⟩ (.string u'.raw)).setCell ⟨pe, 3, none⟩ (.string u'.text)).setCell ⟨pe, 4, none⟩ (.slice ko2 u'.keys.length kc2)).setCell ⟨pe, 5, none⟩ (.slice vo2 u'.kids.length vc2))) (fun c _ hc => ⟨by have : W2.heap.size ≤ c := hc; omega, fun e => absurd (C1.out.kids.blk e).2 (Nat.not_lt.2 hc), fun e => by cases e⟩) ⟨same_six.1, fun c hc hl => same_six.2 c (by have : W2.heap.size ≤ c := hc; omega) hl⟩)
    have C3 := hid (C2.out.box (x' := ((((((w2.setCell ⟨pe, 0, none⟩ (.int .i64 u'.kind)).setCell ⟨pe, 1, none⟩ (.bool u'.b)).setCell ⟨pe, 2, none⟩ (.string u'.raw)).setCell ⟨pe, 3, none⟩ (.string u'.text)).setCell ⟨pe, 4, none⟩ (.slice ko2 u'.keys.length kc2)).setCell ⟨pe, 5, none⟩ (.slice vo2 u'.kids.length vc2))) hpl2.out same_six (G2.out.off hvp.out same_six) (below_six (Below.refl _ _) (by omega) _ _ _ _ _ _))
    have E3 := hid (show At ((((((w2.setCell ⟨pe, 0, none⟩ (.int .i64 u'.kind)).setCell ⟨pe, 1, none⟩ (.bool u'.b)).setCell ⟨pe, 2, none⟩ (.string u'.raw)).setCell ⟨pe, 3, none⟩ (.string u'.text)).setCell ⟨pe, 4, none⟩ (.slice ko2 u'.keys.length kc2)).setCell ⟨pe, 5, none⟩ (.slice vo2 u'.kids.length vc2)) pe #[.int .i64 u'.kind, .bool u'.b, .string u'.raw, .string u'.text, .slice ko2 u'.keys.length kc2, .slice vo2 u'.kids.length vc2] 25 from E2.out.six)
    have d0 := E2.out.cell 0
    have d1 := E2.out.cell 1
    have d2 := E2.out.cell 2
    have d3 := E2.out.cell 3
    have d4 := E2.out.cell 4
    have d5 := E2.out.cell 5
    simp only [List.getElem?_toArray, List.getElem?_cons_zero, List.getElem?_cons_succ] at d0 d1 d2 d3 d4 d5
    have f0 := E2.out.frozen 0
    have f1 := E2.out.frozen 1
    have f2 := E2.out.frozen 2
    have f3 := E2.out.frozen 3
    have f4 := E2.out.frozen 4
    have f5 := E2.out.frozen 5
    clear hV hb C1 C2 G1 G2 E1 hcu hrgk z1 hpw hzz
    go_upto_region 7 with fail
    clear d0 d1 d2 d3 d4 d5 f0 f1 f2 f3 f4 f5 E2
    generalize ((((((w2.setCell ⟨pe, 0, none⟩ (.int .i64 u'.kind)).setCell ⟨pe, 1, none⟩ (.bool u'.b)).setCell ⟨pe, 2, none⟩ (.string u'.raw)).setCell ⟨pe, 3, none⟩ (.string u'.text)).setCell ⟨pe, 4, none⟩ (.slice ko2 u'.keys.length kc2)).setCell ⟨pe, 5, none⟩ (.slice vo2 u'.kids.length vc2)) = W5 at V3 C3 E3 ⊢
    have qz : Below W5.heap.size W5 (W5.alloc (.cells #[.int .i64 u'.kind, .bool u'.b, .string u'.raw, .string u'.text, .slice ko2 u'.keys.length kc2, .slice vo2 u'.kids.length vc2] 25)) := (Below.refl _ _).alloc (Nat.le_refl _) _
    have s2 := hid (C3.out.kept qz)
    have V4 := hid (V3.out.keptB qz)
    have hpz := hid (At.new W5 #[.int .i64 u'.kind, .bool u'.b, .string u'.raw, .string u'.text, .slice ko2 u'.keys.length kc2, .slice vo2 u'.kids.length vc2] 25)
    have g0 := E3.out.cell 0
    have g1 := E3.out.cell 1
    have g2 := E3.out.cell 2
    have g3 := E3.out.cell 3
    have g4 := E3.out.cell 4
    have g5 := E3.out.cell 5
    simp only [List.getElem?_toArray, List.getElem?_cons_zero, List.getElem?_cons_succ] at g0 g1 g2 g3 g4 g5
    go_wp2_with (at_builtin; refine wpList_kidsR rfl rfl rfl s2.out.kids V4.out ⟨W5.heap.size, 0, none⟩ 1 rfl (fun j y hj => by rw [show (⟨W5.heap.size, 0, none⟩ : Addr).add j = ⟨W5.heap.size, j, none⟩ by by_cases h : j = 0 <;> simp [Addr.add, h]]; rw [hpz.out.cell j]; exact hj) (by rw [hpl.out]; omega) s2.out.sz ?_)
    intro nv y hk1 hgr hap
    obtain ⟨no, nc, rfl⟩ := hk1.shape
    have hnn : (pre ++ [u']).length = q + 1 := by rw [List.length_append, hpl.out, List.length_singleton]
    rw [hnn] at hk1 ⊢
    have fin := hid (s2.out.kid hk1 hgr)
    clear hk1 hgr hap s2 V4 hpz qz V3 C3 E3 g0 g1 g2 g3 g4 g5
    go_wp2
    go_roundw
    case rel =>
     refine ⟨q + 1, FT.2, nc, no, pre ++ [u'], by omega, by omega, by simp, rfl, rfl, hid hnn, hid ?_, fin⟩
     rw [hfe.out, hst.out, hu'.out]
     simp
    case measure => simp [intOf]; omega
   ·obtain ⟨K, hK⟩ : ∃ K, Hid (fewK N M q L = K) := ⟨_, rfl⟩
    have hT : Hid (T1 = (.mk k b r t (ks.take K) pre, L)) := by
     have e : fewL (vs.drop q) L = ([], L) := by
      by_cases h0 : L = 0
      ·subst h0
       exact fewL_zero _
      ·rw [List.drop_eq_nil_of_le (by rw [hM.out]; omega)]
       exact fewL_nil _
     show T1 = _
     rw [← hT1.out]
     unfold fewV
     rw [hfe.out, e]
     simp only [List.append_nil]
     rw [hN.out, hM.out, hpl.out, hK.out]
    have hq15 : q ≤ 1500 := by
     have h1 := (fewL_le vs lf).2
     have h2 := cntL_len (fewL vs lf).1
     rw [hfe.out] at h1 h2
     dsimp only at h1 h2
     rw [List.length_append, hpl.out] at h2
     omega
    have hKb := fewK_le N M q L
    rw [hK.out] at hKb
    have htl : Hid ((ks.take K).length = K) := by show _ = _; rw [List.length_take, hN.out]; omega
    obtain ⟨BB, hBB⟩ : ∃ B : Bool, Hid (B = decide (q < M ∨ q + L < N)) := ⟨_, hid rfl⟩
    have hKv : K = if BB then min N q else N := by rw [← hK.out, hBB.out]; unfold fewK; simp
    by_cases hq : q < M
    ·obtain rfl : L = 0 := by omega
     have hqi : (q : Int) < (M : Int) := by omega
     go_upto_region 9 with fail
     go_cut [52] from 39 to 52 (fun t52 wx => t52 = .bool BB ∧ wr = wx)
     case first =>
      go_wp2
      go_meet
      case rel => exact ⟨by rw [hBB.out]; simp [hq], rfl⟩
     case rest =>
      obtain ⟨rfl, rfl⟩ := hcut
      rename_i Kc hKc
      refine hKc _ _ ?_
      clear hKc Kc
      go_cut [9] from 53 to 56 (fun t9 wx => t9 = .int .i64 (K : Int) ∧ wr = wx)
      case first =>
       cases BB with
       | true =>
        rw [if_pos rfl] at hKv
        go_wp2
        go_meet
        case rel => exact ⟨by rw [hKv]; congr 1; omega, rfl⟩
       | false =>
        rw [if_neg (by simp)] at hKv
        go_wp2
        go_meet
        case rel => exact ⟨by rw [hKv], rfl⟩
      case rest =>
       obtain ⟨rfl, rfl⟩ := hcut
       clear d0 d1 d2 d3 d4 d5 hKv hK hBB
       have f5 := hC.out.src.frozen 5
       have d5 : wr.cell? ⟨H, 5, none⟩ = some (.slice vo M vc) := hC.out.src.cell 5
       have A1 := hid (show At (wr.setCell ⟨H, 5, none⟩ (.slice so q cap)) H #[.int .i64 k, .bool b, .string r, .string t, .slice ko N kc, .slice so q cap] 25 from hC.out.src.set 5 (.slice so q cap))
       have R1 := hid (hC.out.res.other (p := ⟨H, 5, none⟩) (Nat.succ_ne_self H) (.slice so q cap))
       have B1 := hid (hC.out.bel.setCell (p := ⟨H, 5, none⟩) (Nat.le_refl _) (.slice so q cap))
       have G1 := hid (hC.out.kids.kept (W' := wr.setCell ⟨H, 5, none⟩ (.slice so q cap)) ⟨by simp, fun c hc _ => Below.heap_setCell wr ⟨H, 5, none⟩ (.slice so q cap) c (by show c ≠ H; omega)⟩)
       have z1 : Hid (H + 2 ≤ (wr.setCell ⟨H, 5, none⟩ (.slice so q cap)).heap.size) := by have := hC.out.sz; show _ ≤ _; simpa using this
       go_upto_region 12 with fail
       clear d5 f5 hC
       generalize wr.setCell ⟨H, 5, none⟩ (.slice so q cap) = W1 at A1 R1 B1 G1 z1 ⊢
       obtain ⟨ko', kc', W2, happ, hKR, hb2⟩ := append_keys (w := W1) kc ((hk'.out.kept (show Below w.heap.size w W1 by rw [hH.out]; exact B1.out)).take K) (by rw [htl.out]; omega)
       rw [htl.out] at happ
       have happ' := hid happ
       have A2 := hid (A1.out.keptAll hb2)
       have R2 := hid (R1.out.keptAll hb2)
       have G2 := hid (G1.out.kept (SameOn.below hb2))
       have B2 := hid (B1.out.trans (hb2.mono (by have := z1.out; omega)))
       have K2 := hid hKR
       have z2 := z1.out
       have c4 : W1.cell? ⟨H, 4, none⟩ = some (.slice ko N kc) := A1.out.cell 4
       have c4' : W2.cell? ⟨H, 4, none⟩ = some (.slice ko N kc) := A2.out.cell 4
       have f4' := A2.out.frozen 4
       have hc4 := hc'.out
       have hKi : (K : Int) ≤ (kc : Int) := by omega
       clear happ hKR hb2 B1 G1 R1
       have A3 := hid (show At (W2.setCell ⟨H, 4, none⟩ (.slice ko' K kc')) H #[.int .i64 k, .bool b, .string r, .string t, .slice ko' K kc', .slice so q cap] 25 from A2.out.set 4 (.slice ko' K kc'))
       have R3 := hid (R2.out.other (p := ⟨H, 4, none⟩) (Nat.succ_ne_self H) (.slice ko' K kc'))
       have B3 := hid (B2.out.setCell (p := ⟨H, 4, none⟩) (Nat.le_refl _) (.slice ko' K kc'))
       have G3 := hid (G2.out.kept (W' := W2.setCell ⟨H, 4, none⟩ (.slice ko' K kc')) ⟨by simp, fun c hc _ => Below.heap_setCell W2 ⟨H, 4, none⟩ (.slice ko' K kc') c (by show c ≠ H; omega)⟩)
       have K3 := hid (K2.out.setH A2.out (.slice ko' K kc') 4)
       clear A2 R2 B2 G2 K2
       go_upto_region 13 with (first | (at_builtin; refine wpList_append_run rfl _ _ 22 rfl _ _ _ _ rfl rfl happ'.out ?_) | fail)
       clear happ' c4 c4' f4' A1 z1
       generalize W2.setCell ⟨H, 4, none⟩ (.slice ko' K kc') = W3 at A3 R3 B3 G3 K3 ⊢
       have e0 := A3.out.cell 0
       have e1 := A3.out.cell 1
       have e2 := A3.out.cell 2
       have e3 := A3.out.cell 3
       have e4 := A3.out.cell 4
       have e5 := A3.out.cell 5
       simp only [List.getElem?_toArray, List.getElem?_cons_zero, List.getElem?_cons_succ] at e0 e1 e2 e3 e4 e5
       have g0 := R3.out.cell 0
       have g1 := R3.out.cell 1
       have g2 := R3.out.cell 2
       have g3 := R3.out.cell 3
       have g4 := R3.out.cell 4
       have g5 := R3.out.cell 5
       simp only [List.getElem?_toArray, List.getElem?_cons_zero, List.getElem?_cons_succ] at g0 g1 g2 g3 g4 g5
       have f0 := R3.out.frozen 0
       have f1 := R3.out.frozen 1
       have f2 := R3.out.frozen 2
       have f3 := R3.out.frozen 3
       have f4 := R3.out.frozen 4
       have f5 := R3.out.frozen 5
       have hV : Hid (ValOn (fun c => H + 2 ≤ c) W3 (.mk k b r t (ks.take K) pre) (.agg #[.int .i64 k, .bool b, .string r, .string t, .slice ko' K kc', .slice so q cap])) := by
        obtain ⟨X3, hx1, hx2, hx3⟩ := G3.out.row
        have := ValOn.mk (S := fun c => H + 2 ≤ c) (w := W3) k b r t (ks.take K) pre ko' kc' so cap X3 hw'.out ⟨hz'.out.1, hz'.out.2.1, by rw [htl.out]; unfold capT; omega, by rw [← hx1]; unfold capT; omega⟩ (fun i s hi => by
         obtain ⟨h1, bb, off, h2, h3, h4, h5⟩ := (K3.out.keys (fun i s hi => ((hk'.out.take K) i s hi).1)) i s hi
         exact ⟨h1, bb, off, h2, Nat.le_trans z2 h3, h4, h5⟩) hx2 hx3
        rw [htl.out, ← hx1] at this
        exact this
       clear G3 K3
       go_wp2
       refine ret_val2 (p := 4) (u := 5) rfl rfl (R3.out.six) rfl rfl ?_
       rw [hT.out]
       refine ⟨_, rfl, ?_, ?_⟩
       ·refine hV.out.kept (fun c _ hc => ?_) ⟨same_six.1, fun c hc hl => same_six.2 c ?_ hl⟩
        ·show w.heap.size ≤ c
         have : H + 2 ≤ c := hc
         have := hH.out
         omega
        ·show c ≠ H + 1
         have : H + 2 ≤ c := hc
         omega
       ·rw [hH.out]
        exact below_six B3.out (Nat.le_succ _) _ _ _ _ _ _
    ·obtain rfl : M = q := by omega
     go_upto_region 9 with fail
     go_cut [52] from 39 to 52 (fun t52 wx => t52 = .bool BB ∧ wr = wx)
     case first =>
      by_cases hN : N ≤ M + L
      ·have hNi2 : ¬ ((M : Int) + (L : Int) < (N : Int)) := by omega
       go_wp2
       go_meet
       case rel => exact ⟨by rw [hBB.out]; simp; omega, rfl⟩
      ·have hNi2 : (M : Int) + (L : Int) < (N : Int) := by omega
       go_wp2
       go_meet
       case rel => exact ⟨by rw [hBB.out]; simp; omega, rfl⟩
     case rest =>
      obtain ⟨rfl, rfl⟩ := hcut
      rename_i Kc hKc
      refine hKc _ _ ?_
      clear hKc Kc
      go_cut [9] from 53 to 56 (fun t9 wx => t9 = .int .i64 (K : Int) ∧ wr = wx)
      case first =>
       cases BB with
       | true =>
        rw [if_pos rfl] at hKv
        go_wp2
        go_meet
        case rel => exact ⟨by rw [hKv]; congr 1; omega, rfl⟩
       | false =>
        rw [if_neg (by simp)] at hKv
        go_wp2
        go_meet
        case rel => exact ⟨by rw [hKv], rfl⟩
      case rest =>
       obtain ⟨rfl, rfl⟩ := hcut
       clear d0 d1 d2 d3 d4 d5 hKv hK hBB
       have f5 := hC.out.src.frozen 5
       have d5 : wr.cell? ⟨H, 5, none⟩ = some (.slice vo M vc) := hC.out.src.cell 5
       have A1 := hid (show At (wr.setCell ⟨H, 5, none⟩ (.slice so M cap)) H #[.int .i64 k, .bool b, .string r, .string t, .slice ko N kc, .slice so M cap] 25 from hC.out.src.set 5 (.slice so M cap))
       have R1 := hid (hC.out.res.other (p := ⟨H, 5, none⟩) (Nat.succ_ne_self H) (.slice so M cap))
       have B1 := hid (hC.out.bel.setCell (p := ⟨H, 5, none⟩) (Nat.le_refl _) (.slice so M cap))
       have G1 := hid (hC.out.kids.kept (W' := wr.setCell ⟨H, 5, none⟩ (.slice so M cap)) ⟨by simp, fun c hc _ => Below.heap_setCell wr ⟨H, 5, none⟩ (.slice so M cap) c (by show c ≠ H; omega)⟩)
       have z1 : Hid (H + 2 ≤ (wr.setCell ⟨H, 5, none⟩ (.slice so M cap)).heap.size) := by have := hC.out.sz; show _ ≤ _; simpa using this
       go_upto_region 12 with fail
       clear d5 f5 hC
       generalize wr.setCell ⟨H, 5, none⟩ (.slice so M cap) = W1 at A1 R1 B1 G1 z1 ⊢
       obtain ⟨ko', kc', W2, happ, hKR, hb2⟩ := append_keys (w := W1) kc ((hk'.out.kept (show Below w.heap.size w W1 by rw [hH.out]; exact B1.out)).take K) (by rw [htl.out]; omega)
       rw [htl.out] at happ
       have happ' := hid happ
       have A2 := hid (A1.out.keptAll hb2)
       have R2 := hid (R1.out.keptAll hb2)
       have G2 := hid (G1.out.kept (SameOn.below hb2))
       have B2 := hid (B1.out.trans (hb2.mono (by have := z1.out; omega)))
       have K2 := hid hKR
       have z2 := z1.out
       have c4 : W1.cell? ⟨H, 4, none⟩ = some (.slice ko N kc) := A1.out.cell 4
       have c4' : W2.cell? ⟨H, 4, none⟩ = some (.slice ko N kc) := A2.out.cell 4
       have f4' := A2.out.frozen 4
       have hc4 := hc'.out
       have hKi : (K : Int) ≤ (kc : Int) := by omega
       clear happ hKR hb2 B1 G1 R1
       have A3 := hid (show At (W2.setCell ⟨H, 4, none⟩ (.slice ko' K kc')) H #[.int .i64 k, .bool b, .string r, .string t, .slice ko' K kc', .slice so M cap] 25 from A2.out.set 4 (.slice ko' K kc'))
       have R3 := hid (R2.out.other (p := ⟨H, 4, none⟩) (Nat.succ_ne_self H) (.slice ko' K kc'))
       have B3 := hid (B2.out.setCell (p := ⟨H, 4, none⟩) (Nat.le_refl _) (.slice ko' K kc'))
       have G3 := hid (G2.out.kept (W' := W2.setCell ⟨H, 4, none⟩ (.slice ko' K kc')) ⟨by simp, fun c hc _ => Below.heap_setCell W2 ⟨H, 4, none⟩ (.slice ko' K kc') c (by show c ≠ H; omega)⟩)
       have K3 := hid (K2.out.setH A2.out (.slice ko' K kc') 4)
       clear A2 R2 B2 G2 K2
       go_upto_region 13 with (first | (at_builtin; refine wpList_append_run rfl _ _ 22 rfl _ _ _ _ rfl rfl happ'.out ?_) | fail)
       clear happ' c4 c4' f4' A1 z1
       generalize W2.setCell ⟨H, 4, none⟩ (.slice ko' K kc') = W3 at A3 R3 B3 G3 K3 ⊢
       have e0 := A3.out.cell 0
       have e1 := A3.out.cell 1
       have e2 := A3.out.cell 2
       have e3 := A3.out.cell 3
       have e4 := A3.out.cell 4
       have e5 := A3.out.cell 5
       simp only [List.getElem?_toArray, List.getElem?_cons_zero, List.getElem?_cons_succ] at e0 e1 e2 e3 e4 e5
       have g0 := R3.out.cell 0
       have g1 := R3.out.cell 1
       have g2 := R3.out.cell 2
       have g3 := R3.out.cell 3
       have g4 := R3.out.cell 4
       have g5 := R3.out.cell 5
       simp only [List.getElem?_toArray, List.getElem?_cons_zero, List.getElem?_cons_succ] at g0 g1 g2 g3 g4 g5
       have f0 := R3.out.frozen 0
       have f1 := R3.out.frozen 1
       have f2 := R3.out.frozen 2
       have f3 := R3.out.frozen 3
       have f4 := R3.out.frozen 4
       have f5 := R3.out.frozen 5
       have hV : Hid (ValOn (fun c => H + 2 ≤ c) W3 (.mk k b r t (ks.take K) pre) (.agg #[.int .i64 k, .bool b, .string r, .string t, .slice ko' K kc', .slice so M cap])) := by
        obtain ⟨X3, hx1, hx2, hx3⟩ := G3.out.row
        have := ValOn.mk (S := fun c => H + 2 ≤ c) (w := W3) k b r t (ks.take K) pre ko' kc' so cap X3 hw'.out ⟨hz'.out.1, hz'.out.2.1, by rw [htl.out]; unfold capT; omega, by rw [← hx1]; unfold capT; omega⟩ (fun i s hi => by
         obtain ⟨h1, bb, off, h2, h3, h4, h5⟩ := (K3.out.keys (fun i s hi => ((hk'.out.take K) i s hi).1)) i s hi
         exact ⟨h1, bb, off, h2, Nat.le_trans z2 h3, h4, h5⟩) hx2 hx3
        rw [htl.out, ← hx1] at this
        exact this
       clear G3 K3
       go_wp2
       refine ret_val2 (p := 4) (u := 5) rfl rfl (R3.out.six) rfl rfl ?_
       rw [hT.out]
       refine ⟨_, rfl, ?_, ?_⟩
       ·refine hV.out.kept (fun c _ hc => ?_) ⟨same_six.1, fun c hc hl => same_six.2 c ?_ hl⟩
        ·show w.heap.size ≤ c
         have : H + 2 ≤ c := hc
         have := hH.out
         omega
        ·show c ≠ H + 1
         have : H + 2 ≤ c := hc
         omega
       ·rw [hH.out]
        exact below_six B3.out (Nat.le_succ _) _ _ _ _ _ _
set_option maxRecDepth 10000 in
set_option maxHeartbeats 8000000 in
theorem few_calls (t : Vt) (va : Value) (w : World) (ha : ValC w t va) :
  Calls Tryz.prog 7 #[va, .int .i64 1500] w fun e w' => ∃ x : Value, e = .returned x ∧ ValOn (fun c => w.heap.size ≤ c) w' (fewV t 1499).1 x ∧ Below w.heap.size w w' := by
 have hc := hid (fun u (hu : ValC u t va) => fewP_ex _ t (Nat.le_refl _) 1499 (by omega) va u hu)
 obtain ⟨T1, hT1⟩ : ∃ x, Hid (fewV t 1499 = x) := ⟨_, hid rfl⟩
 rw [hT1.out] at hc ⊢
 have ha' := hid ha
 have hon := ha.at.on
 obtain ⟨ko, kc, vo, vc, rfl⟩ := hon.six
 obtain ⟨H, hH⟩ : ∃ H, Hid (w.heap.size = H) := ⟨_, rfl⟩
 have e1 : (w.alloc (.cells #[.int .i64 t.kind, .bool t.b, .string t.raw, .string t.text, .slice ko t.keys.length kc, .slice vo t.kids.length vc] 25)).heap.size = H + 1 := by rw [World.size_alloc, hH.out]
 have R1 : Hid (At ((w.alloc (.cells #[.int .i64 t.kind, .bool t.b, .string t.raw, .string t.text, .slice ko t.keys.length kc, .slice vo t.kids.length vc] 25)).alloc (.cells #[.int .i64 0, .bool false, .string ⟨#[]⟩, .string ⟨#[]⟩, .slice none 0 0, .slice none 0 0] 25)) (H + 1) #[.int .i64 0, .bool false, .string ⟨#[]⟩, .string ⟨#[]⟩, .slice none 0 0, .slice none 0 0] 25) := by
  have h := At.new (w.alloc (.cells #[.int .i64 t.kind, .bool t.b, .string t.raw, .string t.text, .slice ko t.keys.length kc, .slice vo t.kids.length vc] 25)) #[.int .i64 0, .bool false, .string ⟨#[]⟩, .string ⟨#[]⟩, .slice none 0 0, .slice none 0 0] 25
  rw [e1] at h
  exact h
 have A1 : Hid (At ((w.alloc (.cells #[.int .i64 t.kind, .bool t.b, .string t.raw, .string t.text, .slice ko t.keys.length kc, .slice vo t.kids.length vc] 25)).alloc (.cells #[.int .i64 0, .bool false, .string ⟨#[]⟩, .string ⟨#[]⟩, .slice none 0 0, .slice none 0 0] 25)) H #[.int .i64 t.kind, .bool t.b, .string t.raw, .string t.text, .slice ko t.keys.length kc, .slice vo t.kids.length vc] 25) := by
  have h := (At.new w #[.int .i64 t.kind, .bool t.b, .string t.raw, .string t.text, .slice ko t.keys.length kc, .slice vo t.kids.length vc] 25).alloc (.cells #[.int .i64 0, .bool false, .string ⟨#[]⟩, .string ⟨#[]⟩, .slice none 0 0, .slice none 0 0] 25)
  rw [hH.out] at h
  exact h
 have B1 : Hid (Below w.heap.size w ((w.alloc (.cells #[.int .i64 t.kind, .bool t.b, .string t.raw, .string t.text, .slice ko t.keys.length kc, .slice vo t.kids.length vc] 25)).alloc (.cells #[.int .i64 0, .bool false, .string ⟨#[]⟩, .string ⟨#[]⟩, .slice none 0 0, .slice none 0 0] 25))) := ((Below.refl _ w).alloc (Nat.le_refl _) _).alloc (by rw [World.size_alloc]; omega) _
 have hcw := hid (hc.out _ (ha'.out.kept B1.out))
 have z1 : Hid (((w.alloc (.cells #[.int .i64 t.kind, .bool t.b, .string t.raw, .string t.text, .slice ko t.keys.length kc, .slice vo t.kids.length vc] 25)).alloc (.cells #[.int .i64 0, .bool false, .string ⟨#[]⟩, .string ⟨#[]⟩, .slice none 0 0, .slice none 0 0] 25)).heap.size = H + 2) := by show _ = _; rw [World.size_alloc, e1]
 clear hc e1 hon ha
 go_enter Tryz.func7, Tryz.ntmps7
 go_upto_region 1 with fail
 rw [hH.out]
 generalize (w.alloc (.cells #[.int .i64 t.kind, .bool t.b, .string t.raw, .string t.text, .slice ko t.keys.length kc, .slice vo t.kids.length vc] 25)).alloc (.cells #[.int .i64 0, .bool false, .string ⟨#[]⟩, .string ⟨#[]⟩, .slice none 0 0, .slice none 0 0] 25) = W1 at R1 A1 B1 z1 hcw ⊢
 have d0 := A1.out.cell 0
 have d1 := A1.out.cell 1
 have d2 := A1.out.cell 2
 have d3 := A1.out.cell 3
 have d4 := A1.out.cell 4
 have d5 := A1.out.cell 5
 simp only [List.getElem?_toArray, List.getElem?_cons_zero, List.getElem?_cons_succ] at d0 d1 d2 d3 d4 d5
 go_wp2_with fail
 refine Calls.mono hcw.out ?_
 rintro e w2 ⟨x, rfl, hV, hb⟩
 clear d0 d1 d2 d3 d4 d5 hcw A1
 obtain ⟨u, hu⟩ : ∃ u, Hid (T1.1 = u) := ⟨_, rfl⟩
 rw [hu.out] at hV
 obtain ⟨ko2, kc2, vo2, vc2, rfl⟩ := hV.six
 have q2 : Below w2.heap.size w2 (w2.alloc (.cells #[.int .i64 u.kind, .bool u.b, .string u.raw, .string u.text, .slice ko2 u.keys.length kc2, .slice vo2 u.kids.length vc2] 25)) := (Below.refl _ _).alloc (Nat.le_refl _) _
 have V2 := hid ((hV.keptB q2))
 have R2 := hid ((R1.out.keptAll hb).keptAll q2)
 have E2 := hid (At.new w2 #[.int .i64 u.kind, .bool u.b, .string u.raw, .string u.text, .slice ko2 u.keys.length kc2, .slice vo2 u.kids.length vc2] 25)
 have hb' := hb.size
 rw [z1.out] at hb'
 have B2 := hid ((B1.out.trans (hb.mono (by rw [z1.out, hH.out]; omega))).trans (q2.mono (by rw [hH.out]; omega)))
 clear hV hb q2 B1 R1
 go_upto_region 2 with fail
 obtain ⟨pe, hpe⟩ : ∃ x, w2.heap.size = x := ⟨_, rfl⟩
 rw [hpe] at E2 ⊢
 clear hpe
 generalize w2.alloc (.cells #[.int .i64 u.kind, .bool u.b, .string u.raw, .string u.text, .slice ko2 u.keys.length kc2, .slice vo2 u.kids.length vc2] 25) = W3 at V2 R2 E2 B2 ⊢
 have e0 := E2.out.cell 0
 have e1 := E2.out.cell 1
 have e2 := E2.out.cell 2
 have e3 := E2.out.cell 3
 have e4 := E2.out.cell 4
 have e5 := E2.out.cell 5
 simp only [List.getElem?_toArray, List.getElem?_cons_zero, List.getElem?_cons_succ] at e0 e1 e2 e3 e4 e5
 have g0 := R2.out.cell 0
 have g1 := R2.out.cell 1
 have g2 := R2.out.cell 2
 have g3 := R2.out.cell 3
 have g4 := R2.out.cell 4
 have g5 := R2.out.cell 5
 simp only [List.getElem?_toArray, List.getElem?_cons_zero, List.getElem?_cons_succ] at g0 g1 g2 g3 g4 g5
 have f0 := R2.out.frozen 0
 have f1 := R2.out.frozen 1
 have f2 := R2.out.frozen 2
 have f3 := R2.out.frozen 3
 have f4 := R2.out.frozen 4
 have f5 := R2.out.frozen 5
 go_wp2
 refine ret_val1 (p := 4) rfl rfl (R2.out.six) rfl ?_
 rw [hu.out]
 have hz := z1.out
 have hh := hH.out
 refine ⟨_, rfl, ?_, below_six B2.out (by omega) _ _ _ _ _ _⟩
 refine V2.out.kept (fun c _ hc => ?_) ⟨same_six.1, fun c hc hl => same_six.2 c ?_ hl⟩
 ·show w.heap.size ≤ c
  have : W1.heap.size ≤ c := hc
  omega
 ·show c ≠ H + 1
  have : W1.heap.size ≤ c := hc
  omega
end Go.Proofs.YtlhbgfhmcjaabaaGreatDoor
