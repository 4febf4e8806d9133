/-
  TrM, TrM2, TrM3, TrM4, TrM5, TrM6, one behind the other.
-/
import Derived.Test.YthfbmelfflpenaaDoorTrJA
import Derived.Test.YthfbmelfflpenaaDoorRefCmp
import Derived.Deep.MidRow
/- When two values that are well shaped are alike; quarryref17.covers. -/
namespace Go.Proofs.YthfbmelfflpenaaDoor
open Go.RowKit Go.Shelf

/-- Numbers of one worth; or of both none, and the same text. -/
def NumA (r r' : ByteArray) : Prop := if (ofS r).2 ≠ 0 ∨ (ofS r').2 ≠ 0 then r = r' else (cmpR (ofS r).1.neg ⟨(ofS r).1.ds.toArray⟩ (ofS r).1.ex (ofS r').1.neg ⟨(ofS r').1.ds.toArray⟩ (ofS r').1.ex).1 = 0
/-- Alike. -/
def Alk : Vt → Vt → Prop
  | .mk k b r t ks vs, u =>
    k = u.kind ∧ (k = 2 → b = u.b) ∧ (k = 4 → t = u.text) ∧ (k = 3 → NumA r u.raw) ∧
    (k = 5 → vs.length = u.kids.length ∧ ∀ (i : Nat) (x y : Vt) (_h : vs[i]? = some x), u.kids[i]? = some y → Alk x y) ∧
    (k = 6 → (∀ (j : Nat) (nm : ByteArray), u.keys[j]? = some nm → ∃ q : Nat, ks[q]? = some nm) ∧
      ∀ (i : Nat) (x : Vt) (_h : vs[i]? = some x) (nm : ByteArray), ks[i]? = some nm → IsFst ks nm (i : Int) → ∃ (q : Nat) (y : Vt), IsFst u.keys nm (q : Int) ∧ u.kids[q]? = some y ∧ Alk x y)
termination_by t => SizeOf.sizeOf t
decreasing_by
  all_goals exact kid_size _h
/-- What alike leaves. -/
def AlkP (t u : Vt) (w : World) (e : Ending) (w' : World) : Prop := ∃ B : Bool, e = .returned (.bool B) ∧ (B = true ↔ Alk t u) ∧ Below w.heap.size w w'
/-- Each member that counts is alike to that of the other one. -/
def CovS (ks : List ByteArray) (vs : List Vt) (ks2 : List ByteArray) (vs2 : List Vt) (n : Nat) : Prop :=
  ∀ (i : Nat) (x : Vt) (nm : ByteArray), i < n → vs[i]? = some x → ks[i]? = some nm → IsFst ks nm (i : Int) → ∃ (q : Nat) (y : Vt), IsFst ks2 nm (q : Int) ∧ vs2[q]? = some y ∧ Alk x y
def CovP (ks : List ByteArray) (vs : List Vt) (ks2 : List ByteArray) (vs2 : List Vt) (w : World) (e : Ending) (w' : World) : Prop := ∃ B : Bool, e = .returned (.bool B) ∧ (B = true ↔ CovS ks vs ks2 vs2 ks.length) ∧ Below w.heap.size w w'
end Go.Proofs.YthfbmelfflpenaaDoor

/- quarryref17.covers, where alike is known of the Kids. -/
namespace Go.Proofs.YthfbmelfflpenaaDoor
open Go.RowKit Go.Shelf

set_option maxRecDepth 10000 in
set_option maxHeartbeats 16000000 in
theorem covers_of (k : Int) (b : Bool) (r t : ByteArray) (ks : List ByteArray) (vs : List Vt) (ko : Option Addr) (kc : Nat) (vo : Option Addr) (vc : Nat) (X : Nat → Array Value) (k2 : Int) (b2 : Bool) (r2 t2 : ByteArray) (ks2 : List ByteArray) (vs2 : List Vt) (ko2 : Option Addr) (kc2 : Nat) (vo2 : Option Addr) (vc2 : Nat) (X2 : Nat → Array Value) (w : World)
    (hl : ks.length ≤ 4294967296) (hl2 : ks2.length ≤ 4294967296) (hvl : vs.length = ks.length) (hvl2 : vs2.length = ks2.length) (hk : KeysAt w ko ks) (hk2 : KeysAt w ko2 ks2) (hr : RowAt w vo vs.length X) (hr2 : RowAt w vo2 vs2.length X2) (hv : ∀ (i : Nat) (u : Vt), vs[i]? = some u → ValAt w u (.agg (X i))) (hv2 : ∀ (i : Nat) (u : Vt), vs2[i]? = some u → ValAt w u (.agg (X2 i)))
    (hkid : Hid (∀ (i q : Nat) (x y : Vt), vs[i]? = some x → vs2[q]? = some y → ∀ (va vb : Value) (u : World), ValAt u x va → ValAt u y vb → Calls Tryd.prog 24 #[va, vb] u fun e w' => AlkP x y u e w')) :
    Calls Tryd.prog 38 #[.agg #[.int .i64 k, .bool b, .string r, .string t, .slice ko ks.length kc, .slice vo vs.length vc], .agg #[.int .i64 k2, .bool b2, .string r2, .string t2, .slice ko2 ks2.length kc2, .slice vo2 vs2.length vc2]] w fun e w' => CovP ks vs ks2 vs2 w e w' := by
  rw [hvl, hvl2]
  have hk' := hid hk
  have hk2' := hid hk2
  have hr' := hid hr
  have hr2' := hid hr2
  have hv' := hid hv
  have hv2' := hid hv2
  have hvl' := hid hvl
  have hvl2' := hid hvl2
  obtain ⟨N, hN⟩ : ∃ N, Hid (ks.length = N) := ⟨_, rfl⟩
  obtain ⟨N2, hN2⟩ : ∃ N, Hid (ks2.length = N) := ⟨_, rfl⟩
  have hord1 := hid (fun u0 (hu : KeysAt u0 ko ks) => ordered_calls ks ko kc hl u0 hu)
  have hord2 := hid (fun u0 (hu : KeysAt u0 ko2 ks2) => ordered_calls ks2 ko2 kc2 hl2 u0 hu)
  have hplc1 := hid (fun (O : List Nat) (nm : ByteArray) (oo : Option Addr) (oc : Nat) (u0 : World) (h1 : KeysAt u0 ko ks) (h2 : OrdAt u0 oo O) (h3 : Hid (IsOrd ks O)) (f : Int) (h4 : Hid (IsFst ks nm f)) => place_calls ks O nm ko kc oo oc hl u0 h1 h2 h3 f h4)
  have hplc2 := hid (fun (O : List Nat) (nm : ByteArray) (oo : Option Addr) (oc : Nat) (u0 : World) (h1 : KeysAt u0 ko2 ks2) (h2 : OrdAt u0 oo O) (h3 : Hid (IsOrd ks2 O)) (f : Int) (h4 : Hid (IsFst ks2 nm f)) => place_calls ks2 O nm ko2 kc2 oo oc hl2 u0 h1 h2 h3 f h4)
  rw [hN.out] at hl hord1 hplc1
  rw [hN2.out] at hl2 hord2 hplc2
  rw [hN.out, hN2.out]
  have hNi : (N : Int) ≤ 4294967296 := by omega
  have hN2i : (N2 : Int) ≤ 4294967296 := by omega
  clear hk hk2 hr hr2 hv hv2 hvl hvl2
  have A1 : Hid (At ((w.alloc (.cells #[.int .i64 k, .bool b, .string r, .string t, .slice ko N kc, .slice vo N vc] 25)).alloc (.cells #[.int .i64 k2, .bool b2, .string r2, .string t2, .slice ko2 N2 kc2, .slice vo2 N2 vc2] 25)) w.heap.size #[.int .i64 k, .bool b, .string r, .string t, .slice ko N kc, .slice vo N vc] 25) := (At.new _ _ _).alloc _
  have A2 : Hid (At ((w.alloc (.cells #[.int .i64 k, .bool b, .string r, .string t, .slice ko N kc, .slice vo N vc] 25)).alloc (.cells #[.int .i64 k2, .bool b2, .string r2, .string t2, .slice ko2 N2 kc2, .slice vo2 N2 vc2] 25)) (w.heap.size + 1) #[.int .i64 k2, .bool b2, .string r2, .string t2, .slice ko2 N2 kc2, .slice vo2 N2 vc2] 25) := by
    have := At.new (w.alloc (.cells #[.int .i64 k, .bool b, .string r, .string t, .slice ko N kc, .slice vo N vc] 25)) #[.int .i64 k2, .bool b2, .string r2, .string t2, .slice ko2 N2 kc2, .slice vo2 N2 vc2] 25
    rwa [World.size_alloc] at this
  have B1 : Hid (Below w.heap.size w ((w.alloc (.cells #[.int .i64 k, .bool b, .string r, .string t, .slice ko N kc, .slice vo N vc] 25)).alloc (.cells #[.int .i64 k2, .bool b2, .string r2, .string t2, .slice ko2 N2 kc2, .slice vo2 N2 vc2] 25))) := by
    show Below _ _ _
    repeat (first | with_reducible exact Below.refl _ _ | with_reducible refine Below.setCell ?_ (by first | (simp; done) | (simp; omega)) _ | with_reducible refine below_drewN ?_ _ | with_reducible refine Below.alloc ?_ (by first | (simp; done) | (simp; omega)) _ | with_reducible refine Below.drew ?_)
  go_enter Tryd.func38, Tryd.ntmps38
  go_upto_region 1 with fail
  generalize ((w.alloc (.cells #[.int .i64 k, .bool b, .string r, .string t, .slice ko N kc, .slice vo N vc] 25)).alloc (.cells #[.int .i64 k2, .bool b2, .string r2, .string t2, .slice ko2 N2 kc2, .slice vo2 N2 vc2] 25)) = W at A1 A2 B1 ⊢
  have d1 : W.cell? ⟨w.heap.size, 4, none⟩ = some (.slice ko N kc) := A1.out.cell 4
  have d2 : W.cell? ⟨w.heap.size + 1, 4, none⟩ = some (.slice ko2 N2 kc2) := A2.out.cell 4
  have hx0 : W.drew.cell? ⟨w.heap.size, 4, none⟩ = some (.slice ko N kc) ∧ W.drew.cell? ⟨w.heap.size + 1, 4, none⟩ = some (.slice ko2 N2 kc2) := ⟨d1, d2⟩
  have q0 := hid (show Below W.heap.size W W.drew from (Below.refl _ _).drew)
  have C1 := hid (A1.out.keptAll q0.out)
  have C2 := hid (A2.out.keptAll q0.out)
  have Cb := hid (B1.out.trans (q0.out.mono B1.out.size))
  go_wp2
  refine wp_region_held_drew (S := fun w' => w'.cell? ⟨w.heap.size, 4, none⟩ = some (.slice ko N kc) ∧ w'.cell? ⟨w.heap.size + 1, 4, none⟩ = some (.slice ko2 N2 kc2)) (by kernel_rfl) hx0 (fun hHeld => ?_)
  clear hHeld d1 d2 q0 A1 A2 B1
  generalize W.drew = v0 at *
  (refine' wpAnyH_take (i := 0) rfl (by kernel_rfl) (by kernel_rfl) (by kernel_rfl) (fun _ _ _ h => h) (Or.inl ⟨by rfl, ?_⟩) (by assumption) ?_; rotate_left; (· (intro wq hq; (try dsimp only at hq); go_simp; first | done | with_reducible rfl)); simp only [Act.put, List.getElem_toArray, List.getElem_cons_zero, List.setIfInBounds_toArray, List.set_cons_zero, List.set_cons_succ])
  (refine' wpAnyH_take (i := 1) rfl (by kernel_rfl) (by kernel_rfl) (by kernel_rfl) (fun _ _ _ h => h) (Or.inl ⟨by rfl, ?_⟩) (by assumption) ?_; rotate_left; (· (intro wq hq; (try dsimp only at hq); go_simp; first | done | with_reducible rfl)); simp only [Act.put, List.getElem_toArray, List.getElem_cons_zero, List.getElem_cons_succ, List.setIfInBounds_toArray, List.set_cons_zero, List.set_cons_succ])
  (refine' wpAnyH_take (i := 3) rfl (by kernel_rfl) (by kernel_rfl) (by kernel_rfl) (fun _ _ _ h => h) (Or.inl ⟨by rfl, ?_⟩) (by assumption) ?_; rotate_left; (· (intro wq hq; (try dsimp only at hq); go_simp; first | done | with_reducible rfl)); simp only [Act.put, List.getElem_toArray, List.getElem_cons_zero, List.getElem_cons_succ, List.setIfInBounds_toArray, List.set_cons_zero, List.set_cons_succ])
  (refine' wpAnyH_take (i := 4) rfl (by kernel_rfl) (by kernel_rfl) (by kernel_rfl) (fun _ _ _ h => h) (Or.inl ⟨by rfl, ?_⟩) (by assumption) ?_; rotate_left; (· (intro wq hq; (try dsimp only at hq); go_simp; first | done | with_reducible rfl)); simp only [Act.put, List.getElem_toArray, List.getElem_cons_zero, List.getElem_cons_succ, List.setIfInBounds_toArray, List.set_cons_zero, List.set_cons_succ])
  refine wpAnyH_ready (rs := [2]) (by kernel_rfl) (by simp) ?_
  refine AllReadyH.cons rfl (fun K hK => ?_) ?_
  · rw [if_pos (by rfl)]
    go_simp
    refine Calls.mono (hord1.out v0 (hk'.out.kept Cb.out)) ?_
    rintro e v1 ⟨x1, O1, H1, rfl, hH1, hrow1, hO1, hb1⟩
    rw [hN.out] at hrow1
    obtain ⟨oo1, oc1, rfl, hoa1⟩ := ownI_at hrow1 (by rw [hO1.len, hN.out])
    have hO1' := hid hO1
    have ho1 := hid (show OrdAt v1 oo1 O1 from hoa1)
    have D1 := hid (C1.out.keptAll hb1)
    have D2 := hid (C2.out.keptAll hb1)
    have Db := hid (Cb.out.trans (hb1.mono Cb.out.size))
    refine hK.out _ _ ⟨D1.out.cell 4, D2.out.cell 4⟩ (fun _ => ?_)
    clear hK K hrow1 hO1 hoa1 hb1 C1 C2 Cb hx0 hord1
    refine wpAnyH_ready (rs := [5]) (by kernel_rfl) (by simp) ?_
    refine AllReadyH.cons rfl (fun K hK => ?_) ?_
    · rw [if_pos (by rfl)]
      go_simp
      refine Calls.mono (hord2.out v1 (hk2'.out.kept Db.out)) ?_
      rintro e v2 ⟨x2, O2, H2, rfl, hH2, hrow2, hO2, hb2⟩
      rw [hN2.out] at hrow2
      obtain ⟨oo2, oc2, rfl, hoa2⟩ := ownI_at hrow2 (by rw [hO2.len, hN2.out])
      have hO2' := hid hO2
      have ho2 := hid (show OrdAt v2 oo2 O2 from hoa2)
      have ho1' := hid (ho1.out.kept hb2)
      have E1 := hid (D1.out.keptAll hb2)
      have E2 := hid (D2.out.keptAll hb2)
      have Eb := hid (Db.out.trans (hb2.mono Db.out.size))
      refine hK.out _ _ ⟨E1.out.cell 4, E2.out.cell 4⟩ (fun _ => ?_)
      clear hK K hrow2 hO2 hoa2 hb2 D1 D2 Db hord2 ho1
      (refine' wpAnyH_take (i := 6) rfl (by kernel_rfl) (by kernel_rfl) (by kernel_rfl) (fun _ _ _ h => h) (Or.inl ⟨by rfl, ?_⟩) (by assumption) ?_; rotate_left; (· (intro wq hq; (try dsimp only at hq); go_simp; first | done | with_reducible rfl)); simp only [Act.put, List.getElem_toArray, List.getElem_cons_zero, List.getElem_cons_succ, List.setIfInBounds_toArray, List.set_cons_zero, List.set_cons_succ])
      (refine' wpAnyH_take (i := 7) rfl (by kernel_rfl) (by kernel_rfl) (by kernel_rfl) (fun _ _ _ h => h) (Or.inl ⟨by rfl, ?_⟩) (by assumption) ?_; rotate_left; (· (intro wq hq; (try dsimp only at hq); go_simp; first | done | with_reducible rfl)); simp only [Act.put, List.getElem_toArray, List.getElem_cons_zero, List.getElem_cons_succ, List.setIfInBounds_toArray, List.set_cons_zero, List.set_cons_succ])
      refine wpAnyH_done (by kernel_rfl) ?_ _
      go_wp2_with fail
      go_loopw [7] (fun ii wr => ∃ i : Nat, i ≤ N ∧ ii = .int .i64 (i : Int) ∧ Hid (CovS ks vs ks2 vs2 i) ∧ Hid (At wr w.heap.size #[.int .i64 k, .bool b, .string r, .string t, .slice ko N kc, .slice vo N vc] 25) ∧ Hid (At wr (w.heap.size + 1) #[.int .i64 k2, .bool b2, .string r2, .string t2, .slice ko2 N2 kc2, .slice vo2 N2 vc2] 25) ∧ Hid (OrdAt wr oo1 O1) ∧ Hid (OrdAt wr oo2 O2) ∧ Hid (Below w.heap.size w wr)) (fun ii _ => N - (intOf ii).toNat)
      case atStart => exact ⟨0, Nat.zero_le _, rfl, fun i x nm h => by omega, E1, E2, ho1', ho2, Eb⟩
      case round =>
        clear E1 E2 Eb ho1' ho2
        obtain ⟨i, hi, rfl, hI, J1, J2, ho1, ho2, Jb⟩ := hrel
        have c4 := J1.out.cell 4
        simp only [List.getElem?_toArray, List.getElem?_cons_zero, List.getElem?_cons_succ] at c4
        by_cases hlt : i < N
        · have hli : (i : Int) < (N : Int) := by omega
          obtain ⟨sk, hsk⟩ : ∃ sk, Hid (ks[i]? = some sk) := ⟨_, List.getElem?_eq_getElem (by rw [hN.out]; exact hlt)⟩
          obtain ⟨-, gk, ok, rfl, hgk, cgk⟩ := hk'.out i sk hsk.out
          have ad1 : (⟨gk, ok, none⟩ : Addr).add i = ⟨gk, ok + i, none⟩ := by by_cases h : i = 0 <;> simp [Addr.add, h]
          obtain ⟨f1, hf1⟩ : ∃ f, Hid (IsFst ks sk f) := fst_ex17 ks sk
          obtain ⟨f2, hf2⟩ : ∃ f, Hid (IsFst ks2 sk f) := fst_ex17 ks2 sk
          obtain ⟨u1, hu1⟩ : ∃ u, Hid (vs[i]? = some u) := ⟨_, List.getElem?_eq_getElem (by rw [hvl'.out, hN.out]; exact hlt)⟩
          have s1 := (Jb.out.cell (p := ⟨gk, ok + i, none⟩) hgk).trans cgk
          have d4 : wr.cell? ⟨w.heap.size + 1, 4, none⟩ = some (.slice ko2 N2 kc2) := J2.out.cell 4
          have hx0 : (wr.drew.cell? ⟨w.heap.size, 4, none⟩ = some (.slice (some ⟨gk, ok, none⟩) N kc) ∧ wr.drew.cell? ⟨w.heap.size + 1, 4, none⟩ = some (.slice ko2 N2 kc2)) ∧ wr.drew.cell? ⟨gk, ok + i, none⟩ = some (.string sk) := ⟨⟨c4, d4⟩, s1⟩
          have q0 := hid (show Below wr.heap.size wr wr.drew from (Below.refl _ _).drew)
          have K1 := hid (J1.out.keptAll q0.out)
          have K2 := hid (J2.out.keptAll q0.out)
          have Ko1 := hid (ho1.out.kept q0.out)
          have Ko2 := hid (ho2.out.kept q0.out)
          have Kb := hid (Jb.out.trans (q0.out.mono Jb.out.size))
          have hcall1 := hid (hplc1.out O1 sk oo1 oc1 wr.drew (hk'.out.kept Kb.out) Ko1.out hO1' f1 hf1)
          go_wp2
          refine wp_region_held_drew (S := fun w' => (w'.cell? ⟨w.heap.size, 4, none⟩ = some (.slice (some ⟨gk, ok, none⟩) N kc) ∧ w'.cell? ⟨w.heap.size + 1, 4, none⟩ = some (.slice ko2 N2 kc2)) ∧ w'.cell? ⟨gk, ok + i, none⟩ = some (.string sk)) (by kernel_rfl) hx0 (fun hHeld => ?_)
          clear hHeld c4 d4 s1 q0 J1 J2 Jb ho1 ho2
          generalize wr.drew = v3 at *
          (refine' wpAnyH_take (i := 0) rfl (by kernel_rfl) (by kernel_rfl) (by kernel_rfl) (fun _ _ _ h => h) (Or.inl ⟨by rfl, ?_⟩) (by assumption) ?_; rotate_left; (· (intro wq hq; (try dsimp only at hq); go_simp; first | done | with_reducible rfl)); simp only [Act.put, List.getElem_toArray, List.getElem_cons_zero, List.setIfInBounds_toArray, List.set_cons_zero, List.set_cons_succ])
          (refine' wpAnyH_take (i := 1) rfl (by kernel_rfl) (by kernel_rfl) (by kernel_rfl) (fun _ _ _ h => h) (Or.inl ⟨by rfl, ?_⟩) (by assumption) ?_; rotate_left; (· (intro wq hq; (try dsimp only at hq); go_simp; first | done | with_reducible rfl)); simp only [Act.put, List.getElem_toArray, List.getElem_cons_zero, List.getElem_cons_succ, List.setIfInBounds_toArray, List.set_cons_zero, List.set_cons_succ])
          (refine' wpAnyH_take (i := 2) rfl (by kernel_rfl) (by kernel_rfl) (by kernel_rfl) (fun _ _ _ h => h) (Or.inl ⟨by rfl, ?_⟩) (by assumption) ?_; rotate_left; (· (intro wq hq; (try dsimp only at hq); go_simp; first | done | with_reducible rfl)); simp only [Act.put, List.getElem_toArray, List.getElem_cons_zero, List.getElem_cons_succ, List.setIfInBounds_toArray, List.set_cons_zero, List.set_cons_succ])
          (refine' wpAnyH_take (i := 3) rfl (by kernel_rfl) (by kernel_rfl) (by kernel_rfl) (fun _ _ _ h => h) (Or.inl ⟨by rfl, ?_⟩) (by assumption) ?_; rotate_left; (· (intro wq hq; (try dsimp only at hq); go_simp; first | done | with_reducible rfl)); simp only [Act.put, List.getElem_toArray, List.getElem_cons_zero, List.getElem_cons_succ, List.setIfInBounds_toArray, List.set_cons_zero, List.set_cons_succ])
          (refine' wpAnyH_take (i := 4) rfl (by kernel_rfl) (by kernel_rfl) (by kernel_rfl) (fun _ _ _ h => h) (Or.inl ⟨by rfl, ?_⟩) (by assumption) ?_; rotate_left; (· (intro wq hq; (try dsimp only at hq); go_simp; first | done | with_reducible rfl)); simp only [Act.put, List.getElem_toArray, List.getElem_cons_zero, List.getElem_cons_succ, List.setIfInBounds_toArray, List.set_cons_zero, List.set_cons_succ])
          (refine' wpAnyH_take (i := 5) rfl (by kernel_rfl) (by kernel_rfl) (by kernel_rfl) (fun _ _ _ h => h) (Or.inl ⟨by rfl, ?_⟩) (by assumption) ?_; rotate_left; (· (intro wq hq; (try dsimp only at hq); go_simp; first | done | with_reducible rfl)); simp only [Act.put, List.getElem_toArray, List.getElem_cons_zero, List.getElem_cons_succ, List.setIfInBounds_toArray, List.set_cons_zero, List.set_cons_succ])
          (refine' wpAnyH_take (i := 6) rfl (by kernel_rfl) (by kernel_rfl) (by kernel_rfl) (fun _ _ _ h => h) (Or.inl ⟨by rfl, ?_⟩) (by assumption) ?_; rotate_left; (· (intro wq hq; (try dsimp only at hq); go_simp; first | done | with_reducible rfl)); simp only [Act.put, List.getElem_toArray, List.getElem_cons_zero, List.getElem_cons_succ, List.setIfInBounds_toArray, List.set_cons_zero, List.set_cons_succ])
          (refine' wpAnyH_take (i := 7) rfl (by kernel_rfl) (by kernel_rfl) (by kernel_rfl) (fun _ _ _ h => h) (Or.inl ⟨by rfl, ?_⟩) (by assumption) ?_; rotate_left; (· (intro wq hq; (try dsimp only at hq); go_simp; first | done | with_reducible rfl)); simp only [Act.put, List.getElem_toArray, List.getElem_cons_zero, List.getElem_cons_succ, List.setIfInBounds_toArray, List.set_cons_zero, List.set_cons_succ])
          (refine' wpAnyH_take (i := 9) rfl (by kernel_rfl) (by kernel_rfl) (by kernel_rfl) (fun _ _ _ h => h) (Or.inl ⟨by rfl, ?_⟩) (by assumption) ?_; rotate_left; (· (intro wq hq; (try dsimp only at hq); go_simp; first | done | with_reducible rfl)); simp only [Act.put, List.getElem_toArray, List.getElem_cons_zero, List.getElem_cons_succ, List.setIfInBounds_toArray, List.set_cons_zero, List.set_cons_succ])
          refine wpAnyH_ready (rs := [8]) (by kernel_rfl) (by simp) ?_
          refine AllReadyH.cons rfl (fun K hK => ?_) ?_
          · rw [if_pos (by rfl)]
            go_simp
            refine Calls.mono hcall1.out ?_
            rintro e v4 ⟨rfl, hv4⟩
            rw [hv4]
            clear hv4
            refine hK.out _ _ hx0 (fun _ => ?_)
            clear hK K hcall1
            (refine' wpAnyH_take (i := 10) rfl (by kernel_rfl) (by kernel_rfl) (by kernel_rfl) (fun _ _ _ h => h) (Or.inl ⟨by rfl, ?_⟩) (by assumption) ?_; rotate_left; (· (intro wq hq; (try dsimp only at hq); go_simp; first | done | with_reducible rfl)); simp only [Act.put, List.getElem_toArray, List.getElem_cons_zero, List.getElem_cons_succ, List.setIfInBounds_toArray, List.set_cons_zero, List.set_cons_succ])
            refine wpAnyH_done (by kernel_rfl) ?_ _
            by_cases hfi : f1 = (i : Int)
            · have e1 : (f1 != (i : Int)) = false := by simp [hfi]
              subst hfi
              have q1 := hid (show Below v3.heap.size v3 v3.drew from (Below.refl _ _).drew)
              have hx1 : (v3.drew.cell? ⟨w.heap.size, 4, none⟩ = some (.slice (some ⟨gk, ok, none⟩) N kc) ∧ v3.drew.cell? ⟨w.heap.size + 1, 4, none⟩ = some (.slice ko2 N2 kc2)) ∧ v3.drew.cell? ⟨gk, ok + i, none⟩ = some (.string sk) := hx0
              have P1 := hid (K1.out.keptAll q1.out)
              have P2 := hid (K2.out.keptAll q1.out)
              have Po1 := hid (Ko1.out.kept q1.out)
              have Po2 := hid (Ko2.out.kept q1.out)
              have Pb := hid (Kb.out.trans (q1.out.mono Kb.out.size))
              have hcall2 := hid (hplc2.out O2 sk oo2 oc2 v3.drew (hk2'.out.kept Pb.out) Po2.out hO2' f2 hf2)
              go_wp2
              refine wp_region_held_drew (S := fun w' => (w'.cell? ⟨w.heap.size, 4, none⟩ = some (.slice (some ⟨gk, ok, none⟩) N kc) ∧ w'.cell? ⟨w.heap.size + 1, 4, none⟩ = some (.slice ko2 N2 kc2)) ∧ w'.cell? ⟨gk, ok + i, none⟩ = some (.string sk)) (by kernel_rfl) hx1 (fun hHeld => ?_)
              clear hHeld hx0 q1 K1 K2 Kb Ko1 Ko2
              generalize v3.drew = v5 at *
              (refine' wpAnyH_take (i := 0) rfl (by kernel_rfl) (by kernel_rfl) (by kernel_rfl) (fun _ _ _ h => h) (Or.inl ⟨by rfl, ?_⟩) (by assumption) ?_; rotate_left; (· (intro wq hq; (try dsimp only at hq); go_simp; first | done | with_reducible rfl)); simp only [Act.put, List.getElem_toArray, List.getElem_cons_zero, List.setIfInBounds_toArray, List.set_cons_zero, List.set_cons_succ])
              (refine' wpAnyH_take (i := 1) rfl (by kernel_rfl) (by kernel_rfl) (by kernel_rfl) (fun _ _ _ h => h) (Or.inl ⟨by rfl, ?_⟩) (by assumption) ?_; rotate_left; (· (intro wq hq; (try dsimp only at hq); go_simp; first | done | with_reducible rfl)); simp only [Act.put, List.getElem_toArray, List.getElem_cons_zero, List.getElem_cons_succ, List.setIfInBounds_toArray, List.set_cons_zero, List.set_cons_succ])
              (refine' wpAnyH_take (i := 2) rfl (by kernel_rfl) (by kernel_rfl) (by kernel_rfl) (fun _ _ _ h => h) (Or.inl ⟨by rfl, ?_⟩) (by assumption) ?_; rotate_left; (· (intro wq hq; (try dsimp only at hq); go_simp; first | done | with_reducible rfl)); simp only [Act.put, List.getElem_toArray, List.getElem_cons_zero, List.getElem_cons_succ, List.setIfInBounds_toArray, List.set_cons_zero, List.set_cons_succ])
              (refine' wpAnyH_take (i := 3) rfl (by kernel_rfl) (by kernel_rfl) (by kernel_rfl) (fun _ _ _ h => h) (Or.inl ⟨by rfl, ?_⟩) (by assumption) ?_; rotate_left; (· (intro wq hq; (try dsimp only at hq); go_simp; first | done | with_reducible rfl)); simp only [Act.put, List.getElem_toArray, List.getElem_cons_zero, List.getElem_cons_succ, List.setIfInBounds_toArray, List.set_cons_zero, List.set_cons_succ])
              (refine' wpAnyH_take (i := 4) rfl (by kernel_rfl) (by kernel_rfl) (by kernel_rfl) (fun _ _ _ h => h) (Or.inl ⟨by rfl, ?_⟩) (by assumption) ?_; rotate_left; (· (intro wq hq; (try dsimp only at hq); go_simp; first | done | with_reducible rfl)); simp only [Act.put, List.getElem_toArray, List.getElem_cons_zero, List.getElem_cons_succ, List.setIfInBounds_toArray, List.set_cons_zero, List.set_cons_succ])
              (refine' wpAnyH_take (i := 5) rfl (by kernel_rfl) (by kernel_rfl) (by kernel_rfl) (fun _ _ _ h => h) (Or.inl ⟨by rfl, ?_⟩) (by assumption) ?_; rotate_left; (· (intro wq hq; (try dsimp only at hq); go_simp; first | done | with_reducible rfl)); simp only [Act.put, List.getElem_toArray, List.getElem_cons_zero, List.getElem_cons_succ, List.setIfInBounds_toArray, List.set_cons_zero, List.set_cons_succ])
              (refine' wpAnyH_take (i := 6) rfl (by kernel_rfl) (by kernel_rfl) (by kernel_rfl) (fun _ _ _ h => h) (Or.inl ⟨by rfl, ?_⟩) (by assumption) ?_; rotate_left; (· (intro wq hq; (try dsimp only at hq); go_simp; first | done | with_reducible rfl)); simp only [Act.put, List.getElem_toArray, List.getElem_cons_zero, List.getElem_cons_succ, List.setIfInBounds_toArray, List.set_cons_zero, List.set_cons_succ])
              (refine' wpAnyH_take (i := 7) rfl (by kernel_rfl) (by kernel_rfl) (by kernel_rfl) (fun _ _ _ h => h) (Or.inl ⟨by rfl, ?_⟩) (by assumption) ?_; rotate_left; (· (intro wq hq; (try dsimp only at hq); go_simp; first | done | with_reducible rfl)); simp only [Act.put, List.getElem_toArray, List.getElem_cons_zero, List.getElem_cons_succ, List.setIfInBounds_toArray, List.set_cons_zero, List.set_cons_succ])
              refine wpAnyH_ready (rs := [8]) (by kernel_rfl) (by simp) ?_
              refine AllReadyH.cons rfl (fun K hK => ?_) ?_
              · rw [if_pos (by rfl)]
                go_simp
                refine Calls.mono hcall2.out ?_
                rintro e v6 ⟨rfl, hv6⟩
                rw [hv6]
                clear hv6
                refine hK.out _ _ hx1 (fun _ => ?_)
                clear hK K hcall2
                (refine' wpAnyH_take (i := 9) rfl (by kernel_rfl) (by kernel_rfl) (by kernel_rfl) (fun _ _ _ h => h) (Or.inl ⟨by rfl, ?_⟩) (by assumption) ?_; rotate_left; (· (intro wq hq; (try dsimp only at hq); go_simp; first | done | with_reducible rfl)); simp only [Act.put, List.getElem_toArray, List.getElem_cons_zero, List.getElem_cons_succ, List.setIfInBounds_toArray, List.set_cons_zero, List.set_cons_succ])
                refine wpAnyH_done (by kernel_rfl) ?_ _
                obtain ⟨fl1, fl2⟩ := fst_lo hf2.out
                have fl3 : f2 ≤ 4294967297 := by rw [hN2.out] at fl2; omega
                have q2 := hid (show Below v5.heap.size v5 v5.drew from (Below.refl _ _).drew)
                have R1 := hid (P1.out.keptAll q2.out)
                have R2 := hid (P2.out.keptAll q2.out)
                have Ro1 := hid (Po1.out.kept q2.out)
                have Ro2 := hid (Po2.out.kept q2.out)
                have Rb := hid (Pb.out.trans (q2.out.mono Pb.out.size))
                by_cases hneg : f2 < 0
                · have e3 : decide (f2 < 0) = true := by simp [hneg]
                  have hG : Hid (∀ u, Below w.heap.size w u → CovP ks vs ks2 vs2 w (.returned (.bool false)) u) := fun u hu => ⟨false, rfl, ⟨fun h => (by cases h), fun h => by
                    obtain ⟨q, y, g1, -⟩ := h i u1 sk (by rw [hN.out]; exact hlt) hu1.out hsk.out hf1.out
                    have := hf2.out.uniq g1
                    omega⟩, hu⟩
                  go_wp2
                  have hTr : True := trivial
                  refine wp_region_held_drew (S := fun _ => True) (by kernel_rfl) trivial (fun hHeld => ?_)
                  clear hHeld
                  generalize v5.drew = v7 at *
                  (refine' wpAnyH_take (i := 0) rfl (by kernel_rfl) (by kernel_rfl) (by kernel_rfl) (fun _ _ _ h => h) (Or.inl ⟨by rfl, ?_⟩) (by assumption) ?_; rotate_left; (· (intro wq hq; (try dsimp only at hq); go_simp; first | done | with_reducible rfl)); simp only [Act.put, List.getElem_toArray, List.getElem_cons_zero, List.setIfInBounds_toArray, List.set_cons_zero, List.set_cons_succ])
                  (refine' wpAnyH_take (i := 1) rfl (by kernel_rfl) (by kernel_rfl) (by kernel_rfl) (fun _ _ _ h => h) (Or.inl ⟨by rfl, ?_⟩) (by assumption) ?_; rotate_left; (· (intro wq hq; (try dsimp only at hq); go_simp; first | done | with_reducible rfl)); simp only [Act.put, List.getElem_toArray, List.getElem_cons_zero, List.getElem_cons_succ, List.setIfInBounds_toArray, List.set_cons_zero, List.set_cons_succ])
                  (refine' wpAnyH_take (i := 2) rfl (by kernel_rfl) (by kernel_rfl) (by kernel_rfl) (fun _ _ _ h => h) (Or.inl ⟨by rfl, ?_⟩) (by assumption) ?_; rotate_left; (· (intro wq hq; (try dsimp only at hq); go_simp; first | done | with_reducible rfl)); simp only [Act.put, List.getElem_toArray, List.getElem_cons_zero, List.getElem_cons_succ, List.setIfInBounds_toArray, List.set_cons_zero, List.set_cons_succ])
                  (refine wpAnyH_take (i := 3) (v := undef) rfl (by kernel_rfl) (by kernel_rfl) (by kernel_rfl) (fun _ _ _ h => h) (Or.inr ⟨by rfl, rfl⟩) (by assumption) ?_; simp only [Act.put, List.getElem_toArray, List.getElem_cons_zero, List.getElem_cons_succ, List.setIfInBounds_toArray, List.set_cons_zero, List.set_cons_succ])
                  (refine wpAnyH_take (i := 4) (v := undef) rfl (by kernel_rfl) (by kernel_rfl) (by kernel_rfl) (fun _ _ _ h => h) (Or.inr ⟨by rfl, rfl⟩) (by assumption) ?_; simp only [Act.put, List.getElem_toArray, List.getElem_cons_zero, List.getElem_cons_succ, List.setIfInBounds_toArray, List.set_cons_zero, List.set_cons_succ])
                  (refine wpAnyH_take (i := 5) (v := undef) rfl (by kernel_rfl) (by kernel_rfl) (by kernel_rfl) (fun _ _ _ h => h) (Or.inr ⟨by rfl, rfl⟩) (by assumption) ?_; simp only [Act.put, List.getElem_toArray, List.getElem_cons_zero, List.getElem_cons_succ, List.setIfInBounds_toArray, List.set_cons_zero, List.set_cons_succ])
                  (refine wpAnyH_take (i := 6) (v := undef) rfl (by kernel_rfl) (by kernel_rfl) (by kernel_rfl) (fun _ _ _ h => h) (Or.inr ⟨by rfl, rfl⟩) (by assumption) ?_; simp only [Act.put, List.getElem_toArray, List.getElem_cons_zero, List.getElem_cons_succ, List.setIfInBounds_toArray, List.set_cons_zero, List.set_cons_succ])
                  (refine wpAnyH_take (i := 7) (v := undef) rfl (by kernel_rfl) (by kernel_rfl) (by kernel_rfl) (fun _ _ _ h => h) (Or.inr ⟨by rfl, rfl⟩) (by assumption) ?_; simp only [Act.put, List.getElem_toArray, List.getElem_cons_zero, List.getElem_cons_succ, List.setIfInBounds_toArray, List.set_cons_zero, List.set_cons_succ])
                  (refine wpAnyH_take (i := 8) (v := undef) rfl (by kernel_rfl) (by kernel_rfl) (by kernel_rfl) (fun _ _ _ h => h) (Or.inr ⟨by rfl, rfl⟩) (by assumption) ?_; simp only [Act.put, List.getElem_toArray, List.getElem_cons_zero, List.getElem_cons_succ, List.setIfInBounds_toArray, List.set_cons_zero, List.set_cons_succ])
                  (refine wpAnyH_take (i := 9) (v := undef) rfl (by kernel_rfl) (by kernel_rfl) (by kernel_rfl) (fun _ _ _ h => h) (Or.inr ⟨by rfl, rfl⟩) (by assumption) ?_; simp only [Act.put, List.getElem_toArray, List.getElem_cons_zero, List.getElem_cons_succ, List.setIfInBounds_toArray, List.set_cons_zero, List.set_cons_succ])
                  (refine wpAnyH_take (i := 10) (v := undef) rfl (by kernel_rfl) (by kernel_rfl) (by kernel_rfl) (fun _ _ _ h => h) (Or.inr ⟨by rfl, rfl⟩) (by assumption) ?_; simp only [Act.put, List.getElem_toArray, List.getElem_cons_zero, List.getElem_cons_succ, List.setIfInBounds_toArray, List.set_cons_zero, List.set_cons_succ])
                  (refine wpAnyH_take (i := 11) (v := undef) rfl (by kernel_rfl) (by kernel_rfl) (by kernel_rfl) (fun _ _ _ h => h) (Or.inr ⟨by rfl, rfl⟩) (by assumption) ?_; simp only [Act.put, List.getElem_toArray, List.getElem_cons_zero, List.getElem_cons_succ, List.setIfInBounds_toArray, List.set_cons_zero, List.set_cons_succ])
                  (refine wpAnyH_take (i := 12) (v := undef) rfl (by kernel_rfl) (by kernel_rfl) (by kernel_rfl) (fun _ _ _ h => h) (Or.inr ⟨by rfl, rfl⟩) (by assumption) ?_; simp only [Act.put, List.getElem_toArray, List.getElem_cons_zero, List.getElem_cons_succ, List.setIfInBounds_toArray, List.set_cons_zero, List.set_cons_succ])
                  (refine wpAnyH_take (i := 13) (v := undef) rfl (by kernel_rfl) (by kernel_rfl) (by kernel_rfl) (fun _ _ _ h => h) (Or.inr ⟨by rfl, rfl⟩) (by assumption) ?_; simp only [Act.put, List.getElem_toArray, List.getElem_cons_zero, List.getElem_cons_succ, List.setIfInBounds_toArray, List.set_cons_zero, List.set_cons_succ])
                  (refine wpAnyH_take (i := 14) (v := undef) rfl (by kernel_rfl) (by kernel_rfl) (by kernel_rfl) (fun _ _ _ h => h) (Or.inr ⟨by rfl, rfl⟩) (by assumption) ?_; simp only [Act.put, List.getElem_toArray, List.getElem_cons_zero, List.getElem_cons_succ, List.setIfInBounds_toArray, List.set_cons_zero, List.set_cons_succ])
                  (refine' wpAnyH_take (i := 15) rfl (by kernel_rfl) (by kernel_rfl) (by kernel_rfl) (fun _ _ _ h => h) (Or.inl ⟨by rfl, ?_⟩) (by assumption) ?_; rotate_left; (· (intro wq hq; (try dsimp only at hq); go_simp; first | done | with_reducible rfl)); simp only [Act.put, List.getElem_toArray, List.getElem_cons_zero, List.getElem_cons_succ, List.setIfInBounds_toArray, List.set_cons_zero, List.set_cons_succ])
                  refine wpAnyH_done (by kernel_rfl) ?_ _
                  go_wp2
                  go_ret
                  exact hG.out _ Rb.out
                · obtain ⟨q, rfl⟩ : ∃ q : Nat, f2 = (q : Int) := ⟨f2.toNat, by omega⟩
                  have e3 : decide ((q : Int) < 0) = false := by simp
                  have hqN : q < N2 := by
                    rcases hf2.out with ⟨h, -⟩ | ⟨j, h, h', -⟩
                    · omega
                    · have := (List.getElem?_eq_some_iff.mp h').1
                      rw [hN2.out] at this
                      omega
                  have hqI : (q : Int) < (N2 : Int) := by omega
                  obtain ⟨u2, hu2⟩ : ∃ u, Hid (vs2[q]? = some u) := ⟨_, List.getElem?_eq_getElem (by rw [hvl2'.out, hN2.out]; exact hqN)⟩
                  obtain ⟨g, o, rfl, hg, hrg, hl1⟩ := row_range (hr'.out.kept Rb.out) (i := i) (by rw [hvl'.out, hN.out]; exact hlt)
                  obtain ⟨g', o', rfl, hg', hrg', hl2'⟩ := row_range (hr2'.out.kept Rb.out) (i := q) (by rw [hvl2'.out, hN2.out]; exact hqN)
                  obtain ⟨L1, hL1⟩ : ∃ L, Hid ((X i).toList = L) := ⟨_, rfl⟩
                  obtain ⟨L2, hL2⟩ : ∃ L, Hid ((X2 q).toList = L) := ⟨_, rfl⟩
                  rw [hL1.out] at hrg hl1
                  rw [hL2.out] at hrg' hl2'
                  have z1 : (Tryd.prog.info? 25).map (·.size) = some L1.length := by rw [hl1]; exact sizeVl
                  have z2 : (Tryd.prog.info? 25).map (·.size) = some L2.length := by rw [hl2']; exact sizeVl
                  have v1' : Hid (ValAt v5.drew u1 (.agg L1.toArray)) := by
                    have := (hv'.out i u1 hu1.out).kept Rb.out
                    rw [← hL1.out, Array.toArray_toList]
                    exact this
                  have v2' : Hid (ValAt v5.drew u2 (.agg L2.toArray)) := by
                    have := (hv2'.out q u2 hu2.out).kept Rb.out
                    rw [← hL2.out, Array.toArray_toList]
                    exact this
                  have hcall3 := hid (hkid.out i q u1 u2 hu1.out hu2.out _ _ v5.drew v1'.out v2'.out)
                  have c5 : v5.drew.cell? ⟨w.heap.size, 5, none⟩ = some (.slice (some ⟨g, o, none⟩) N vc) := R1.out.cell 5
                  have d5 : v5.drew.cell? ⟨w.heap.size + 1, 5, none⟩ = some (.slice (some ⟨g', o', none⟩) N2 vc2) := R2.out.cell 5
                  have hrgk := hid hrg
                  have hrgk' := hid hrg'
                  have hx2 : (v5.drew.cell? ⟨w.heap.size, 5, none⟩ = some (.slice (some ⟨g, o, none⟩) N vc) ∧ v5.drew.cell? ⟨w.heap.size + 1, 5, none⟩ = some (.slice (some ⟨g', o', none⟩) N2 vc2)) ∧ Below v5.drew.heap.size v5.drew v5.drew := ⟨⟨c5, d5⟩, Below.refl _ _⟩
                  clear hrg hrg' hl1 hl2' hx1
                  go_wp2
                  refine wp_region_held_drew (S := fun w' => (w'.cell? ⟨w.heap.size, 5, none⟩ = some (.slice (some ⟨g, o, none⟩) N vc) ∧ w'.cell? ⟨w.heap.size + 1, 5, none⟩ = some (.slice (some ⟨g', o', none⟩) N2 vc2)) ∧ Below v5.drew.heap.size v5.drew w') (by kernel_rfl) hx2 (fun hHeld => ?_)
                  clear hHeld q2 P1 P2 Pb Po1 Po2
                  generalize v5.drew = v7 at *
                  (refine' wpAnyH_take (i := 0) rfl (by kernel_rfl) (by kernel_rfl) (by kernel_rfl) (fun _ _ _ h => h) (Or.inl ⟨by rfl, ?_⟩) (by assumption) ?_; rotate_left; (· (intro wq hq; (try dsimp only at hq); go_simp; first | done | with_reducible rfl)); simp only [Act.put, List.getElem_toArray, List.getElem_cons_zero, List.setIfInBounds_toArray, List.set_cons_zero, List.set_cons_succ])
                  (refine' wpAnyH_take (i := 1) rfl (by kernel_rfl) (by kernel_rfl) (by kernel_rfl) (fun _ _ _ h => h) (Or.inl ⟨by rfl, ?_⟩) (by assumption) ?_; rotate_left; (· (intro wq hq; (try dsimp only at hq); go_simp; first | done | with_reducible rfl)); simp only [Act.put, List.getElem_toArray, List.getElem_cons_zero, List.getElem_cons_succ, List.setIfInBounds_toArray, List.set_cons_zero, List.set_cons_succ])
                  (refine' wpAnyH_take (i := 2) rfl (by kernel_rfl) (by kernel_rfl) (by kernel_rfl) (fun _ _ _ h => h) (Or.inl ⟨by rfl, ?_⟩) (by assumption) ?_; rotate_left; (· (intro wq hq; (try dsimp only at hq); go_simp; first | done | with_reducible rfl)); simp only [Act.put, List.getElem_toArray, List.getElem_cons_zero, List.getElem_cons_succ, List.setIfInBounds_toArray, List.set_cons_zero, List.set_cons_succ])
                  (refine' wpAnyH_take (i := 3) rfl (by kernel_rfl) (by kernel_rfl) (by kernel_rfl) (fun _ _ _ h => h) (Or.inl ⟨by rfl, ?_⟩) (by assumption) ?_; rotate_left; (· (intro wq hq; (try dsimp only at hq); go_simp; first | done | with_reducible rfl)); simp only [Act.put, List.getElem_toArray, List.getElem_cons_zero, List.getElem_cons_succ, List.setIfInBounds_toArray, List.set_cons_zero, List.set_cons_succ])
                  (refine' wpAnyH_take (i := 4) rfl (by kernel_rfl) (by kernel_rfl) (by kernel_rfl) (fun _ _ _ h => h) (Or.inl ⟨by rfl, ?_⟩) (by assumption) ?_; rotate_left; (· (intro wq hq; (try dsimp only at hq); go_simp; first | done | with_reducible rfl)); simp only [Act.put, List.getElem_toArray, List.getElem_cons_zero, List.getElem_cons_succ, List.setIfInBounds_toArray, List.set_cons_zero, List.set_cons_succ])
                  (refine' wpAnyH_take (i := 5) rfl (by kernel_rfl) (by kernel_rfl) (by kernel_rfl) (fun _ _ _ h => h) (Or.inl ⟨by rfl, ?_⟩) (by assumption) ?_; rotate_left; (· (intro wq hq; (try dsimp only at hq); go_simp; first | done | with_reducible rfl)); simp only [Act.put, List.getElem_toArray, List.getElem_cons_zero, List.getElem_cons_succ, List.setIfInBounds_toArray, List.set_cons_zero, List.set_cons_succ])
                  (refine' wpAnyH_take (i := 6) rfl (by kernel_rfl) (by kernel_rfl) (by kernel_rfl) (fun _ _ _ h => h) (Or.inl ⟨by rfl, ?_⟩) (by assumption) ?_; rotate_left; (· (intro wq hq; (try dsimp only at hq); go_simp; first | done | with_reducible rfl)); simp only [Act.put, List.getElem_toArray, List.getElem_cons_zero, List.getElem_cons_succ, List.setIfInBounds_toArray, List.set_cons_zero, List.set_cons_succ])
                  (refine wpAnyH_take (i := 7) (v := .agg L1.toArray) rfl (by kernel_rfl) (by kernel_rfl) (by kernel_rfl) (fun _ _ _ h => h) (yieldsIf_load_mid (by rfl) 25 _ rfl (g) (o + i * 6) rfl L1 _ (fun wq hq => range_kept hrgk.out hq.2) Tryd.underlying25 rfl z1) (by assumption) ?_; simp only [Act.put, List.getElem_toArray, List.getElem_cons_zero, List.getElem_cons_succ, List.setIfInBounds_toArray, List.set_cons_zero, List.set_cons_succ])
                  (refine' wpAnyH_take (i := 8) rfl (by kernel_rfl) (by kernel_rfl) (by kernel_rfl) (fun _ _ _ h => h) (Or.inl ⟨by rfl, ?_⟩) (by assumption) ?_; rotate_left; (· (intro wq hq; (try dsimp only at hq); go_simp; first | done | with_reducible rfl)); simp only [Act.put, List.getElem_toArray, List.getElem_cons_zero, List.getElem_cons_succ, List.setIfInBounds_toArray, List.set_cons_zero, List.set_cons_succ])
                  (refine' wpAnyH_take (i := 9) rfl (by kernel_rfl) (by kernel_rfl) (by kernel_rfl) (fun _ _ _ h => h) (Or.inl ⟨by rfl, ?_⟩) (by assumption) ?_; rotate_left; (· (intro wq hq; (try dsimp only at hq); go_simp; first | done | with_reducible rfl)); simp only [Act.put, List.getElem_toArray, List.getElem_cons_zero, List.getElem_cons_succ, List.setIfInBounds_toArray, List.set_cons_zero, List.set_cons_succ])
                  (refine' wpAnyH_take (i := 10) rfl (by kernel_rfl) (by kernel_rfl) (by kernel_rfl) (fun _ _ _ h => h) (Or.inl ⟨by rfl, ?_⟩) (by assumption) ?_; rotate_left; (· (intro wq hq; (try dsimp only at hq); go_simp; first | done | with_reducible rfl)); simp only [Act.put, List.getElem_toArray, List.getElem_cons_zero, List.getElem_cons_succ, List.setIfInBounds_toArray, List.set_cons_zero, List.set_cons_succ])
                  (refine' wpAnyH_take (i := 11) rfl (by kernel_rfl) (by kernel_rfl) (by kernel_rfl) (fun _ _ _ h => h) (Or.inl ⟨by rfl, ?_⟩) (by assumption) ?_; rotate_left; (· (intro wq hq; (try dsimp only at hq); go_simp; first | done | with_reducible rfl)); simp only [Act.put, List.getElem_toArray, List.getElem_cons_zero, List.getElem_cons_succ, List.setIfInBounds_toArray, List.set_cons_zero, List.set_cons_succ])
                  (refine wpAnyH_take (i := 12) (v := .agg L2.toArray) rfl (by kernel_rfl) (by kernel_rfl) (by kernel_rfl) (fun _ _ _ h => h) (yieldsIf_load_mid (by rfl) 25 _ rfl (g') (o' + q * 6) rfl L2 _ (fun wq hq => range_kept hrgk'.out hq.2) Tryd.underlying25 rfl z2) (by assumption) ?_; simp only [Act.put, List.getElem_toArray, List.getElem_cons_zero, List.getElem_cons_succ, List.setIfInBounds_toArray, List.set_cons_zero, List.set_cons_succ])
                  refine wpAnyH_ready (rs := [13]) (by kernel_rfl) (by simp) ?_
                  refine AllReadyH.cons rfl (fun K hK => ?_) ?_
                  · rw [if_pos (by rfl)]
                    go_simp
                    refine Calls.mono hcall3.out ?_
                    rintro e v8 ⟨S, rfl, hS, hb8⟩
                    have S1 := hid (R1.out.keptAll hb8)
                    have S2 := hid (R2.out.keptAll hb8)
                    have So1 := hid (Ro1.out.kept hb8)
                    have So2 := hid (Ro2.out.kept hb8)
                    have Sb := hid (Rb.out.trans (hb8.mono Rb.out.size))
                    have hS' := hid hS
                    refine hK.out _ _ ⟨⟨S1.out.cell 5, S2.out.cell 5⟩, hb8⟩ (fun _ => ?_)
                    clear hK K hcall3 hS hb8 c5 d5 hx2 hrgk hrgk' R1 R2 Ro1 Ro2 Rb
                    cases S with
                    | true =>
                      (refine' wpAnyH_take (i := 14) rfl (by kernel_rfl) (by kernel_rfl) (by kernel_rfl) (fun _ _ _ h => h) (Or.inl ⟨by rfl, ?_⟩) (by assumption) ?_; rotate_left; (· (intro wq hq; (try dsimp only at hq); go_simp; first | done | with_reducible rfl)); simp only [Act.put, List.getElem_toArray, List.getElem_cons_zero, List.getElem_cons_succ, List.setIfInBounds_toArray, List.set_cons_zero, List.set_cons_succ])
                      (refine' wpAnyH_take (i := 15) rfl (by kernel_rfl) (by kernel_rfl) (by kernel_rfl) (fun _ _ _ h => h) (Or.inl ⟨by rfl, ?_⟩) (by assumption) ?_; rotate_left; (· (intro wq hq; (try dsimp only at hq); go_simp; first | done | with_reducible rfl)); simp only [Act.put, List.getElem_toArray, List.getElem_cons_zero, List.getElem_cons_succ, List.setIfInBounds_toArray, List.set_cons_zero, List.set_cons_succ])
                      refine wpAnyH_done (by kernel_rfl) ?_ _
                      have hnx : Hid (CovS ks vs ks2 vs2 (i + 1)) := fun j x nm hj hx hn hfst => by
                        by_cases e : j = i
                        · subst e
                          rw [hsk.out] at hn
                          injection hn with hn
                          subst hn
                          rw [hu1.out] at hx
                          injection hx with hx
                          subst hx
                          exact ⟨q, u2, hf2.out, hu2.out, hS'.out.1 rfl⟩
                        · exact hI.out j x nm (by omega) hx hn hfst
                      clear hI hS'
                      go_wp2
                      go_roundw
                      case rel => exact ⟨i + 1, by omega, by simp, hnx, S1, S2, So1, So2, Sb⟩
                      case measure => simp [intOf]; omega
                    | false =>
                      (refine' wpAnyH_take (i := 14) rfl (by kernel_rfl) (by kernel_rfl) (by kernel_rfl) (fun _ _ _ h => h) (Or.inl ⟨by rfl, ?_⟩) (by assumption) ?_; rotate_left; (· (intro wq hq; (try dsimp only at hq); go_simp; first | done | with_reducible rfl)); simp only [Act.put, List.getElem_toArray, List.getElem_cons_zero, List.getElem_cons_succ, List.setIfInBounds_toArray, List.set_cons_zero, List.set_cons_succ])
                      (refine' wpAnyH_take (i := 15) rfl (by kernel_rfl) (by kernel_rfl) (by kernel_rfl) (fun _ _ _ h => h) (Or.inl ⟨by rfl, ?_⟩) (by assumption) ?_; rotate_left; (· (intro wq hq; (try dsimp only at hq); go_simp; first | done | with_reducible rfl)); simp only [Act.put, List.getElem_toArray, List.getElem_cons_zero, List.getElem_cons_succ, List.setIfInBounds_toArray, List.set_cons_zero, List.set_cons_succ])
                      refine wpAnyH_done (by kernel_rfl) ?_ _
                      have hG : Hid (CovP ks vs ks2 vs2 w (.returned (.bool false)) v8) := ⟨false, rfl, ⟨fun h => (by cases h), fun h => by
                        obtain ⟨q', y, g1, g2, g3⟩ := h i u1 sk (by rw [hN.out]; exact hlt) hu1.out hsk.out hf1.out
                        have e := hf2.out.uniq g1
                        have e' : q = q' := by omega
                        subst e'
                        rw [hu2.out] at g2
                        injection g2 with g2
                        subst g2
                        exact absurd (hS'.out.2 g3) (by decide)⟩, Sb.out⟩
                      clear hI hS'
                      go_wp2
                      go_ret
                      exact hG.out
                  exact AllReadyH.nil
              exact AllReadyH.nil
            · have e1 : (f1 != (i : Int)) = true := by simp [hfi]
              have hnx : Hid (CovS ks vs ks2 vs2 (i + 1)) := fun j x nm hj hx hn hfst => by
                by_cases e : j = i
                · subst e
                  rw [hsk.out] at hn
                  injection hn with hn
                  subst hn
                  exact absurd (hf1.out.uniq hfst) hfi
                · exact hI.out j x nm (by omega) hx hn hfst
              have e2 : ¬ f1 = (i : Int) := hfi
              clear hI hx0
              go_wp2
              go_roundw
              case rel => exact ⟨i + 1, by omega, by simp, hnx, K1, K2, Ko1, Ko2, Kb⟩
              case measure => simp [intOf]; omega
          exact AllReadyH.nil
        · have hge : (N : Int) ≤ (i : Int) := by omega
          have hG : Hid (CovP ks vs ks2 vs2 w (.returned (.bool true)) wr) := ⟨true, rfl, ⟨fun _ => by rw [hN.out, show N = i by omega]; exact hI.out, fun _ => rfl⟩, Jb.out⟩
          clear hI
          go_wp2
          go_ret
          exact hG.out
    exact AllReadyH.nil
  exact AllReadyH.nil
end Go.Proofs.YthfbmelfflpenaaDoor

/- quarryref17.alike of values that are neither arrays nor objects. -/
namespace Go.Proofs.YthfbmelfflpenaaDoor
open Go.RowKit Go.Shelf

set_option maxRecDepth 10000 in
set_option maxHeartbeats 4000000 in
theorem alike_ne (k : Int) (b : Bool) (r t : ByteArray) (ko : Option Addr) (N kc : Nat) (vo : Option Addr) (M vc : Nat) (k2 : Int) (b2 : Bool) (r2 t2 : ByteArray) (ko2 : Option Addr) (N2 kc2 : Nat) (vo2 : Option Addr) (M2 vc2 : Nat) (w : World) (hk : k ≠ k2) :
    Calls Tryd.prog 24 #[.agg #[.int .i64 k, .bool b, .string r, .string t, .slice ko N kc, .slice vo M vc], .agg #[.int .i64 k2, .bool b2, .string r2, .string t2, .slice ko2 N2 kc2, .slice vo2 M2 vc2]] w fun e w' => e = .returned (.bool false) ∧ Below w.heap.size w w' := by
  have e1 : (k != k2) = true := by simp [hk]
  go_enter Tryd.func24, Tryd.ntmps24
  go_wp2
  go_ret
  exact ⟨rfl, by repeat (first | with_reducible exact Below.refl _ _ | with_reducible refine Below.setCell ?_ (by first | (simp; done) | (simp; omega)) _ | with_reducible refine below_drewN ?_ _ | with_reducible refine Below.alloc ?_ (by first | (simp; done) | (simp; omega)) _ | with_reducible refine Below.drew ?_)⟩
set_option maxRecDepth 10000 in
set_option maxHeartbeats 4000000 in
theorem alike_2 (b : Bool) (r t : ByteArray) (ko : Option Addr) (N kc : Nat) (vo : Option Addr) (M vc : Nat) (b2 : Bool) (r2 t2 : ByteArray) (ko2 : Option Addr) (N2 kc2 : Nat) (vo2 : Option Addr) (M2 vc2 : Nat) (w : World) :
    Calls Tryd.prog 24 #[.agg #[.int .i64 2, .bool b, .string r, .string t, .slice ko N kc, .slice vo M vc], .agg #[.int .i64 2, .bool b2, .string r2, .string t2, .slice ko2 N2 kc2, .slice vo2 M2 vc2]] w fun e w' => e = .returned (.bool (b == b2)) ∧ Below w.heap.size w w' := by
  go_enter Tryd.func24, Tryd.ntmps24
  go_wp2
  go_ret
  exact ⟨rfl, by repeat (first | with_reducible exact Below.refl _ _ | with_reducible refine Below.setCell ?_ (by first | (simp; done) | (simp; omega)) _ | with_reducible refine below_drewN ?_ _ | with_reducible refine Below.alloc ?_ (by first | (simp; done) | (simp; omega)) _ | with_reducible refine Below.drew ?_)⟩
set_option maxRecDepth 10000 in
set_option maxHeartbeats 4000000 in
theorem alike_4 (b : Bool) (r t : ByteArray) (ko : Option Addr) (N kc : Nat) (vo : Option Addr) (M vc : Nat) (b2 : Bool) (r2 t2 : ByteArray) (ko2 : Option Addr) (N2 kc2 : Nat) (vo2 : Option Addr) (M2 vc2 : Nat) (w : World) :
    Calls Tryd.prog 24 #[.agg #[.int .i64 4, .bool b, .string r, .string t, .slice ko N kc, .slice vo M vc], .agg #[.int .i64 4, .bool b2, .string r2, .string t2, .slice ko2 N2 kc2, .slice vo2 M2 vc2]] w fun e w' => e = .returned (.bool (t.toList == t2.toList)) ∧ Below w.heap.size w w' := by
  go_enter Tryd.func24, Tryd.ntmps24
  go_wp2
  go_ret
  exact ⟨rfl, by repeat (first | with_reducible exact Below.refl _ _ | with_reducible refine Below.setCell ?_ (by first | (simp; done) | (simp; omega)) _ | with_reducible refine below_drewN ?_ _ | with_reducible refine Below.alloc ?_ (by first | (simp; done) | (simp; omega)) _ | with_reducible refine Below.drew ?_)⟩
set_option maxRecDepth 10000 in
set_option maxHeartbeats 4000000 in
theorem alike_0 (k : Int) (hk : k ≠ 2 ∧ k ≠ 3 ∧ k ≠ 4 ∧ k ≠ 5 ∧ k ≠ 6) (b : Bool) (r t : ByteArray) (ko : Option Addr) (N kc : Nat) (vo : Option Addr) (M vc : Nat) (b2 : Bool) (r2 t2 : ByteArray) (ko2 : Option Addr) (N2 kc2 : Nat) (vo2 : Option Addr) (M2 vc2 : Nat) (w : World) :
    Calls Tryd.prog 24 #[.agg #[.int .i64 k, .bool b, .string r, .string t, .slice ko N kc, .slice vo M vc], .agg #[.int .i64 k, .bool b2, .string r2, .string t2, .slice ko2 N2 kc2, .slice vo2 M2 vc2]] w fun e w' => e = .returned (.bool true) ∧ Below w.heap.size w w' := by
  obtain ⟨k2, k3, k4, k5, k6⟩ := hk
  have e2 : (k == 2) = false := by simp [k2]
  have e3 : (k == 3) = false := by simp [k3]
  have e4 : (k == 4) = false := by simp [k4]
  have e5 : (k == 5) = false := by simp [k5]
  have e6 : (k == 6) = false := by simp [k6]
  go_enter Tryd.func24, Tryd.ntmps24
  go_wp2
  all_goals go_ret
  all_goals (exact ⟨rfl, by repeat (first | with_reducible exact Below.refl _ _ | with_reducible refine Below.setCell ?_ (by first | (simp; done) | (simp; omega)) _ | with_reducible refine below_drewN ?_ _ | with_reducible refine Below.alloc ?_ (by first | (simp; done) | (simp; omega)) _ | with_reducible refine Below.drew ?_)⟩)
/-- What alike of two numbers leaves. -/
def NumP (r r2 : ByteArray) (w : World) (e : Ending) (w' : World) : Prop := ∃ B : Bool, e = .returned (.bool B) ∧ (B = true ↔ NumA r r2) ∧ Below w.heap.size w w'
theorem ds_read17 (s : ByteArray) : (readS s 0).1.ds.length ≤ 2 * s.size := by
  have hd : ∀ (n : Num) (d : Dec), worthS n = some d → d.ds.length ≤ n.wh.size + n.be.size := by
    intro n d hn
    unfold worthS at hn
    split at hn
    · injection hn with hn; rw [← hn]; exact Nat.zero_le _
    · split at hn
      · injection hn with hn
        rw [← hn]
        refine Nat.le_trans (trimR_length _ _) (Nat.le_trans (trimL_length _ _) ?_)
        rw [List.length_append, size_list, size_list]
        exact Nat.le_refl _
      · cases hn
  obtain ⟨r, hrr⟩ : ∃ r, scanS s 0 = r := ⟨_, rfl⟩
  obtain ⟨on, en⟩ := r
  cases on with
  | none =>
    have : readS s 0 = (zeroD, en, 110) := by rw [readS, hrr]
    rw [this]; exact Nat.zero_le _
  | some n =>
    obtain ⟨q1, -, -⟩ := num_of hrr (Nat.zero_le _)
    have e1 : readS s 0 = match worthS n with | none => (zeroD, en, 111) | some d => (d, en, 0) := by rw [readS, hrr]; rfl
    cases hw : worthS n with
    | none => rw [hw] at e1; rw [e1]; exact Nat.zero_le _
    | some d =>
      rw [hw] at e1
      have := hd n d hw
      rw [e1]
      show d.ds.length ≤ _
      omega
theorem ds_size17 (r : ByteArray) : ((⟨(ofS r).1.ds.toArray⟩ : ByteArray)).size ≤ 2 * r.size := by
  show (ofS r).1.ds.toArray.size ≤ _
  rw [List.size_toArray]
  unfold ofS
  split
  · exact ds_read17 r
  · exact Nat.zero_le _
set_option maxRecDepth 10000 in
set_option maxHeartbeats 8000000 in
theorem alike_3 (b : Bool) (r t : ByteArray) (ko : Option Addr) (N kc : Nat) (vo : Option Addr) (M vc : Nat) (b2 : Bool) (r2 t2 : ByteArray) (ko2 : Option Addr) (N2 kc2 : Nat) (vo2 : Option Addr) (M2 vc2 : Nat) (w : World) (hr : r.size ≤ 281474976710656) (hr2 : r2.size ≤ 281474976710656) :
    Calls Tryd.prog 24 #[.agg #[.int .i64 3, .bool b, .string r, .string t, .slice ko N kc, .slice vo M vc], .agg #[.int .i64 3, .bool b2, .string r2, .string t2, .slice ko2 N2 kc2, .slice vo2 M2 vc2]] w fun e w' => NumP r r2 w e w' := by
  have hd1 := ds_size17 r
  have hd2 := ds_size17 r2
  have hna := hid (show NumA r r2 ↔ (if (ofS r).2 ≠ 0 ∨ (ofS r2).2 ≠ 0 then r = r2 else (cmpR (ofS r).1.neg ⟨(ofS r).1.ds.toArray⟩ (ofS r).1.ex (ofS r2).1.neg ⟨(ofS r2).1.ds.toArray⟩ (ofS r2).1.ex).1 = 0) from Iff.rfl)
  obtain ⟨q, hq⟩ : ∃ q, ofS r = q := ⟨_, rfl⟩
  obtain ⟨⟨dn, dd, dx⟩, er⟩ := q
  obtain ⟨q2, hq2⟩ : ∃ q, ofS r2 = q := ⟨_, rfl⟩
  obtain ⟨⟨dn2, dd2, dx2⟩, er2⟩ := q2
  have hof := hid (fun u => refOfD_calls r hr u)
  have hof2 := hid (fun u => refOfD_calls r2 hr2 u)
  have hov := hid (show ofV r = .tuple #[.agg #[.bool dn, .string ⟨dd.toArray⟩, .int .i64 dx], .int .i64 (er : Int)] by rw [ofV, hq]; rfl)
  have hov2 := hid (show ofV r2 = .tuple #[.agg #[.bool dn2, .string ⟨dd2.toArray⟩, .int .i64 dx2], .int .i64 (er2 : Int)] by rw [ofV, hq2]; rfl)
  rw [hov.out] at hof
  rw [hov2.out] at hof2
  rw [hq] at hd1 hna
  rw [hq2] at hd2 hna
  dsimp only at hd1 hd2 hna
  generalize (⟨dd.toArray⟩ : ByteArray) = TD at hof hd1 hna
  generalize (⟨dd2.toArray⟩ : ByteArray) = TD2 at hof2 hd2 hna
  obtain ⟨CE, hCE⟩ : ∃ CE, cmpR dn TD dx dn2 TD2 dx2 = CE := ⟨_, rfl⟩
  obtain ⟨C, E⟩ := CE
  rw [hCE] at hna
  have hcm := hid (fun u => refCmp_calls dn TD dx dn2 TD2 dx2 (by omega) (by omega) C E hCE u)
  clear hov hov2 hq hq2 hr hr2 hd1 hd2 hCE
  have A1 : Hid (At ((w.alloc (.cells #[.int .i64 3, .bool b, .string r, .string t, .slice ko N kc, .slice vo M vc] 25)).alloc (.cells #[.int .i64 3, .bool b2, .string r2, .string t2, .slice ko2 N2 kc2, .slice vo2 M2 vc2] 25)) w.heap.size #[.int .i64 3, .bool b, .string r, .string t, .slice ko N kc, .slice vo M vc] 25) := (At.new _ _ _).alloc _
  have A2 : Hid (At ((w.alloc (.cells #[.int .i64 3, .bool b, .string r, .string t, .slice ko N kc, .slice vo M vc] 25)).alloc (.cells #[.int .i64 3, .bool b2, .string r2, .string t2, .slice ko2 N2 kc2, .slice vo2 M2 vc2] 25)) (w.heap.size + 1) #[.int .i64 3, .bool b2, .string r2, .string t2, .slice ko2 N2 kc2, .slice vo2 M2 vc2] 25) := by
    have := At.new (w.alloc (.cells #[.int .i64 3, .bool b, .string r, .string t, .slice ko N kc, .slice vo M vc] 25)) #[.int .i64 3, .bool b2, .string r2, .string t2, .slice ko2 N2 kc2, .slice vo2 M2 vc2] 25
    rwa [World.size_alloc] at this
  have B1 : Hid (Below w.heap.size w ((w.alloc (.cells #[.int .i64 3, .bool b, .string r, .string t, .slice ko N kc, .slice vo M vc] 25)).alloc (.cells #[.int .i64 3, .bool b2, .string r2, .string t2, .slice ko2 N2 kc2, .slice vo2 M2 vc2] 25))) := by
    show Below _ _ _
    repeat (first | with_reducible exact Below.refl _ _ | with_reducible refine Below.setCell ?_ (by first | (simp; done) | (simp; omega)) _ | with_reducible refine below_drewN ?_ _ | with_reducible refine Below.alloc ?_ (by first | (simp; done) | (simp; omega)) _ | with_reducible refine Below.drew ?_)
  go_enter Tryd.func24, Tryd.ntmps24
  go_wp2_with fail
  generalize (w.alloc (.cells #[.int .i64 3, .bool b, .string r, .string t, .slice ko N kc, .slice vo M vc] 25)).alloc (.cells #[.int .i64 3, .bool b2, .string r2, .string t2, .slice ko2 N2 kc2, .slice vo2 M2 vc2] 25) = W at A1 A2 B1 ⊢
  refine Calls.mono (hof.out _) ?_
  rintro e w1 ⟨rfl, hb⟩
  have q1 : Below w1.heap.size w1 (w1.alloc (.cells #[.bool dn, .string TD, .int .i64 dx] 35)) := (Below.refl _ _).alloc (Nat.le_refl _) _
  have C1 := hid ((A1.out.keptAll hb).keptAll q1)
  have C2 := hid ((A2.out.keptAll hb).keptAll q1)
  have Cb := hid ((B1.out.trans (hb.mono B1.out.size)).trans (q1.mono (Nat.le_trans B1.out.size hb.size)))
  have D1 := hid (At.new w1 #[.bool dn, .string TD, .int .i64 dx] 35)
  have hlt1 : w.heap.size + 1 < w1.heap.size := (A2.out.keptAll hb).lt
  clear hof hb A1 A2 B1 q1
  go_upto_region 10 with fail
  obtain ⟨bd, hbd⟩ : ∃ bd, w1.heap.size = bd := ⟨_, rfl⟩
  rw [hbd] at D1 ⊢
  generalize w1.alloc (.cells #[.bool dn, .string TD, .int .i64 dx] 35) = w2 at C1 C2 Cb D1 ⊢
  clear hbd hlt1
  have d2 : w2.cell? ⟨w.heap.size + 1, 2, none⟩ = some (.string r2) := C2.out.cell 2
  go_wp2_with fail
  refine Calls.mono (hof2.out _) ?_
  rintro e w3 ⟨rfl, hb⟩
  have q1 : Below w3.heap.size w3 (w3.alloc (.cells #[.bool dn2, .string TD2, .int .i64 dx2] 35)) := (Below.refl _ _).alloc (Nat.le_refl _) _
  have F1 := hid ((C1.out.keptAll hb).keptAll q1)
  have F2 := hid ((C2.out.keptAll hb).keptAll q1)
  have G1 := hid ((D1.out.keptAll hb).keptAll q1)
  have Fb := hid ((Cb.out.trans (hb.mono Cb.out.size)).trans (q1.mono (Nat.le_trans Cb.out.size hb.size)))
  have G2 := hid (At.new w3 #[.bool dn2, .string TD2, .int .i64 dx2] 35)
  clear hof2 hb C1 C2 Cb D1 q1 d2
  go_upto_region 11 with fail
  obtain ⟨bd2, hbd2⟩ : ∃ bd, w3.heap.size = bd := ⟨_, rfl⟩
  rw [hbd2] at G2 ⊢
  generalize w3.alloc (.cells #[.bool dn2, .string TD2, .int .i64 dx2] 35) = w4 at F1 F2 G1 G2 Fb ⊢
  clear hbd2
  have r1 : w4.cell? ⟨w.heap.size, 2, none⟩ = some (.string r) := F1.out.cell 2
  have r2' : w4.cell? ⟨w.heap.size + 1, 2, none⟩ = some (.string r2) := F2.out.cell 2
  have g0 : w4.cell? ⟨bd, 0, none⟩ = some (.bool dn) := G1.out.cell 0
  have g1 : w4.cell? ⟨bd, 1, none⟩ = some (.string TD) := G1.out.cell 1
  have g2 : w4.cell? ⟨bd, 2, none⟩ = some (.int .i64 dx) := G1.out.cell 2
  have h0 : w4.cell? ⟨bd2, 0, none⟩ = some (.bool dn2) := G2.out.cell 0
  have h1 : w4.cell? ⟨bd2, 1, none⟩ = some (.string TD2) := G2.out.cell 1
  have h2 : w4.cell? ⟨bd2, 2, none⟩ = some (.int .i64 dx2) := G2.out.cell 2
  by_cases hz : er = 0 ∧ er2 = 0
  · have e1 : ((er : Int) != 0) = false := by simp [hz.1]
    have e2 : ((er2 : Int) != 0) = false := by simp [hz.2]
    have hG : Hid (NumA r r2 ↔ C = 0) := by
      have := hna.out
      rw [if_neg (by omega)] at this
      exact this
    obtain ⟨rfl, rfl⟩ := hz
    clear hna e1 e2
    go_wp2_with fail
    refine Calls.mono (hcm.out _) ?_
    rintro e w5 ⟨rfl, hb⟩
    have hfin : Hid (NumP r r2 w (.returned (.bool (C == 0))) w5) := ⟨C == 0, rfl, by rw [hG.out]; simp, Fb.out.trans (hb.mono Fb.out.size)⟩
    clear hcm hb
    go_wp2
    go_ret
    exact hfin.out
  · have hG : Hid (NumA r r2 ↔ r = r2) := by
      have := hna.out
      rw [if_pos (by omega)] at this
      exact this
    have hfin : Hid (NumP r r2 w (.returned (.bool (r.toList == r2.toList))) w4) := ⟨_, rfl, by rw [hG.out]; exact ⟨fun h => toList_inj16 (by simpa using h), fun h => by rw [h]; simp⟩, Fb.out⟩
    by_cases hz1 : er = 0
    · have e2 : ((er2 : Int) != 0) = true := by simp; omega
      have e3 : ¬ (er2 : Int) = 0 := by omega
      subst hz1
      clear hna hz
      go_wp2
      go_ret
      exact hfin.out
    · have e2 : ((er : Int) != 0) = true := by simp; omega
      have e3 : ¬ (er : Int) = 0 := by omega
      clear hna hz
      go_wp2
      go_ret
      exact hfin.out
end Go.Proofs.YthfbmelfflpenaaDoor

/- quarryref17.alike of arrays, where it is known of the Kids. -/
namespace Go.Proofs.YthfbmelfflpenaaDoor
open Go.RowKit Go.Shelf

theorem alk5 (b : Bool) (r t : ByteArray) (ks : List ByteArray) (vs : List Vt) (b2 : Bool) (r2 t2 : ByteArray) (ks2 : List ByteArray) (vs2 : List Vt) :
    Alk (.mk 5 b r t ks vs) (.mk 5 b2 r2 t2 ks2 vs2) ↔ vs.length = vs2.length ∧ ∀ (i : Nat) (x y : Vt), vs[i]? = some x → vs2[i]? = some y → Alk x y := by
  rw [Alk]
  constructor
  · rintro ⟨-, -, -, -, h, -⟩
    exact h rfl
  · intro h
    exact ⟨rfl, fun e => absurd e (by decide), fun e => absurd e (by decide), fun e => absurd e (by decide), fun _ => h, fun e => absurd e (by decide)⟩
theorem alk6 (b : Bool) (r t : ByteArray) (ks : List ByteArray) (vs : List Vt) (b2 : Bool) (r2 t2 : ByteArray) (ks2 : List ByteArray) (vs2 : List Vt) :
    Alk (.mk 6 b r t ks vs) (.mk 6 b2 r2 t2 ks2 vs2) ↔ (∀ (j : Nat) (nm : ByteArray), ks2[j]? = some nm → ∃ q : Nat, ks[q]? = some nm) ∧ CovS ks vs ks2 vs2 ks.length := by
  rw [Alk]
  constructor
  · rintro ⟨-, -, -, -, -, h⟩
    exact ⟨(h rfl).1, fun i x nm _ hx hn hf => (h rfl).2 i x hx nm hn hf⟩
  · intro h
    exact ⟨rfl, fun e => absurd e (by decide), fun e => absurd e (by decide), fun e => absurd e (by decide), fun e => absurd e (by decide), fun _ => ⟨h.1, fun i x hx nm hn hf => h.2 i x nm (List.getElem?_eq_some_iff.mp hn).1 hx hn hf⟩⟩
set_option maxRecDepth 10000 in
set_option maxHeartbeats 8000000 in
theorem alike_5 (b : Bool) (r t : ByteArray) (ks : List ByteArray) (vs : List Vt) (ko : Option Addr) (N kc : Nat) (vo : Option Addr) (vc : Nat) (X : Nat → Array Value) (b2 : Bool) (r2 t2 : ByteArray) (ks2 : List ByteArray) (vs2 : List Vt) (ko2 : Option Addr) (N2 kc2 : Nat) (vo2 : Option Addr) (vc2 : Nat) (X2 : Nat → Array Value) (w : World)
    (hl : vs.length ≤ capT) (hl2 : vs2.length ≤ capT) (hr : RowAt w vo vs.length X) (hr2 : RowAt w vo2 vs2.length X2) (hv : ∀ (i : Nat) (u : Vt), vs[i]? = some u → ValAt w u (.agg (X i))) (hv2 : ∀ (i : Nat) (u : Vt), vs2[i]? = some u → ValAt w u (.agg (X2 i)))
    (hkid : Hid (∀ (i q : Nat) (x y : Vt), vs[i]? = some x → vs2[q]? = some y → ∀ (va vb : Value) (u : World), ValAt u x va → ValAt u y vb → Calls Tryd.prog 24 #[va, vb] u fun e w' => AlkP x y u e w')) :
    Calls Tryd.prog 24 #[.agg #[.int .i64 5, .bool b, .string r, .string t, .slice ko N kc, .slice vo vs.length vc], .agg #[.int .i64 5, .bool b2, .string r2, .string t2, .slice ko2 N2 kc2, .slice vo2 vs2.length vc2]] w fun e w' => AlkP (.mk 5 b r t ks vs) (.mk 5 b2 r2 t2 ks2 vs2) w e w' := by
  have hr1 := hid hr
  have hr2' := hid hr2
  have hv1 := hid hv
  have hv2' := hid hv2
  obtain ⟨M, hM⟩ : ∃ M, Hid (vs.length = M) := ⟨_, rfl⟩
  obtain ⟨M', hM'⟩ : ∃ M, Hid (vs2.length = M) := ⟨_, rfl⟩
  have hMi : (M : Int) ≤ 9223372036854775807 := by have := hl; rw [hM.out] at this; unfold capT at this; omega
  have hMi' : (M' : Int) ≤ 9223372036854775807 := by have := hl2; rw [hM'.out] at this; unfold capT at this; omega
  rw [hM.out, hM'.out]
  clear hl hl2 hr hr2 hv hv2
  obtain ⟨W1, hW1⟩ : ∃ W, w.alloc (.cells #[.int .i64 5, .bool b, .string r, .string t, .slice ko N kc, .slice vo M vc] 25) = W := ⟨_, rfl⟩
  obtain ⟨W2, hW2⟩ : ∃ W, W1.alloc (.cells #[.int .i64 5, .bool b2, .string r2, .string t2, .slice ko2 N2 kc2, .slice vo2 M' vc2] 25) = W := ⟨_, rfl⟩
  have A1 : Hid (At W2 w.heap.size #[.int .i64 5, .bool b, .string r, .string t, .slice ko N kc, .slice vo M vc] 25) := by
    rw [← hW2, ← hW1]
    exact (At.new w _ _).alloc _
  have A2 : Hid (At W2 (w.heap.size + 1) #[.int .i64 5, .bool b2, .string r2, .string t2, .slice ko2 N2 kc2, .slice vo2 M' vc2] 25) := by
    have h := At.new W1 #[.int .i64 5, .bool b2, .string r2, .string t2, .slice ko2 N2 kc2, .slice vo2 M' vc2] 25
    rw [hW2, ← hW1, World.size_alloc] at h
    exact h
  have hsz1 : W1.heap.size = w.heap.size + 1 := by rw [← hW1, World.size_alloc]
  have B2 : Hid (Below w.heap.size w W2) := by
    rw [← hW2, ← hW1]
    exact ((Below.refl _ w).alloc (Nat.le_refl _) _).alloc (by rw [World.size_alloc]; omega) _
  obtain ⟨a1, ha1⟩ : ∃ a, w.heap.size = a := ⟨_, rfl⟩
  obtain ⟨a2, ha2⟩ : ∃ a, a1 + 1 = a := ⟨_, rfl⟩
  rw [ha1] at A1 hsz1
  rw [ha1, ha2] at A2
  rw [ha2] at hsz1
  have c0 := A1.out.cell 0
  have c5 := A1.out.cell 5
  have d0 := A2.out.cell 0
  have d5 := A2.out.cell 5
  simp only [List.getElem?_toArray, List.getElem?_cons_zero, List.getElem?_cons_succ] at c0 c5 d0 d5
  clear ha2
  by_cases e5 : M = M'
  · subst e5
    have f5 : ((M : Int) != (M : Int)) = false := by simp
    go_enter Tryd.func24, Tryd.ntmps24
    go_wp2_with fail
    clear hW1 hW2 hsz1 c0 c5 d0 d5
    go_loopw [11] (fun ii wr => ∃ i : Nat, i ≤ M ∧ ii = .int .i64 (i : Int) ∧ Hid (∀ (j : Nat) (x y : Vt), j < i → vs[j]? = some x → vs2[j]? = some y → Alk x y) ∧ Hid (At wr a1 #[.int .i64 5, .bool b, .string r, .string t, .slice ko N kc, .slice vo M vc] 25) ∧ Hid (At wr a2 #[.int .i64 5, .bool b2, .string r2, .string t2, .slice ko2 N2 kc2, .slice vo2 M vc2] 25) ∧ Hid (Below w.heap.size w wr)) (fun ii _ => M - (intOf ii).toNat)
    case atStart => exact ⟨0, Nat.zero_le _, rfl, hid (fun j x y hj => by omega), A1, A2, B2⟩
    case round =>
      obtain ⟨i, hi, rfl, hsm, hA1, hA2, hb⟩ := hrel
      have c5 := hA1.out.cell 5
      have d5 := hA2.out.cell 5
      simp only [List.getElem?_toArray, List.getElem?_cons_zero, List.getElem?_cons_succ] at c5 d5
      by_cases hlt : i < M
      · have hli : (i : Int) < (M : Int) := by omega
        obtain ⟨u1, hu1⟩ : ∃ u, Hid (vs[i]? = some u) := ⟨_, List.getElem?_eq_getElem (by rw [hM.out]; exact hlt)⟩
        obtain ⟨u2, hu2⟩ : ∃ u, Hid (vs2[i]? = some u) := ⟨_, List.getElem?_eq_getElem (by rw [hM'.out]; exact hlt)⟩
        obtain ⟨g, o, rfl, hg, hrg, hl1⟩ := row_range (hr1.out.kept hb.out) (i := i) (by rw [hM.out]; exact hlt)
        obtain ⟨g', o', rfl, hg', hrg', hl2⟩ := row_range (hr2'.out.kept hb.out) (i := i) (by rw [hM'.out]; exact hlt)
        obtain ⟨L1, hL1⟩ : ∃ L, Hid ((X i).toList = L) := ⟨_, rfl⟩
        obtain ⟨L2, hL2⟩ : ∃ L, Hid ((X2 i).toList = L) := ⟨_, rfl⟩
        rw [hL1.out] at hrg hl1
        rw [hL2.out] at hrg' hl2
        have z1 : (Tryd.prog.info? 25).map (·.size) = some L1.length := by rw [hl1]; exact sizeVl
        have z2 : (Tryd.prog.info? 25).map (·.size) = some L2.length := by rw [hl2]; exact sizeVl
        have v1 : Hid (ValAt wr u1 (.agg L1.toArray)) := by
          have := (hv1.out i u1 hu1.out).kept hb.out
          rw [← hL1.out, Array.toArray_toList]
          exact this
        have v2 : Hid (ValAt wr u2 (.agg L2.toArray)) := by
          have := (hv2'.out i u2 hu2.out).kept hb.out
          rw [← hL2.out, Array.toArray_toList]
          exact this
        obtain ⟨S, hS⟩ : ∃ S : Bool, Hid (S = true ↔ Alk u1 u2) := by
          by_cases h : Alk u1 u2
          · exact ⟨true, hid ⟨fun _ => h, fun _ => rfl⟩⟩
          · exact ⟨false, hid (no_iff h)⟩
        have hcall : Hid (∀ wq : World, Below wr.heap.size wr wq → Calls Tryd.prog 24 #[.agg L1.toArray, .agg L2.toArray] wq fun e w' => e = .returned (.bool S) ∧ Below wq.heap.size wq w') := fun wq hq => by
          refine (hkid.out i i u1 u2 hu1.out hu2.out _ _ wq (v1.out.kept hq) (v2.out.kept hq)).mono ?_
          rintro e w' ⟨B, rfl, hB, hbb⟩
          refine ⟨?_, hbb⟩
          have : B = S := by
            cases B <;> cases S
            · rfl
            · exact absurd (hB.2 (hS.out.1 rfl)) (by simp)
            · exact absurd (hS.out.2 (hB.1 rfl)) (by simp)
            · rfl
          rw [this]
        have hrgk := hid hrg
        have hrgk' := hid hrg'
        clear hrg hrg' hl1 hl2
        go_wp2
        refine wp_region_quiet (C := (fun w' => w'.cell? ⟨a1, 5, none⟩ = some (.slice (some ⟨g, o, none⟩) M vc) ∧ w'.cell? ⟨a2, 5, none⟩ = some (.slice (some ⟨g', o', none⟩) M vc2) ∧ Below wr.heap.size wr w')) (by kernel_rfl) (by kernel_rfl) (⟨c5, d5, (Below.refl _ _).drew⟩) ?_
        dsimp only
        repeat (first
          | (refine wpQuiet_skip (by rfl) ?_; simp only [Act.put, List.setIfInBounds_toArray, List.set_cons_zero, List.set_cons_succ])
          | (refine wpQuiet_load 25 _ (g) (o + i * 6) L1 _ (fun wq hq => range_kept hrgk.out hq.2.2) Tryd.underlying25 z1 rfl rfl rfl (by rfl) ?_; simp only [Act.put, List.setIfInBounds_toArray, List.set_cons_zero, List.set_cons_succ])
          | (refine wpQuiet_load 25 _ (g') (o' + i * 6) L2 _ (fun wq hq => range_kept hrgk'.out hq.2.2) Tryd.underlying25 z2 rfl rfl rfl (by rfl) ?_; simp only [Act.put, List.setIfInBounds_toArray, List.set_cons_zero, List.set_cons_succ])
          | (refine' wpQuiet_take (by rfl) ?_ ?_
             rotate_left
             · (intro wq hq; (try dsimp only at hq); go_simp
                first
                  | done
                  | with_reducible rfl
                  | (go_at_call 24; have hzz := hcall.out wq hq.2.2; with_reducible refine hzz.mono ?_; clear hzz; rintro e wz ⟨rfl, hb⟩; exact ⟨rfl, (hb.cell (p := ⟨a1, 5, none⟩) (block_lt_of_cell hq.1)).trans hq.1, (hb.cell (p := ⟨a2, 5, none⟩) (block_lt_of_cell hq.2.1)).trans hq.2.1, Below.trans hq.2.2 (Below.mono hb hq.2.2.size)⟩)
               )
             simp only [Act.put, List.setIfInBounds_toArray, List.set_cons_zero, List.set_cons_succ]))
        refine wpQuiet_nil ?_
        intro w5 hw5
        have J1 := hid (hA1.out.keptAll hw5.2.2)
        have J2 := hid (hA2.out.keptAll hw5.2.2)
        have Jb := hid (hb.out.trans (hw5.2.2.mono hb.out.size))
        clear hw5 c5 d5 hcall hrgk hrgk'
        cases S with
        | true =>
          have hue := hS.out.1 rfl
          go_wp2
          go_roundw
          case rel => exact ⟨i + 1, by omega, by simp, hid (fun j x y hj hx hy => by
            by_cases e : j = i
            · subst e
              rw [hu1.out] at hx
              rw [hu2.out] at hy
              injection hx with hx
              injection hy with hy
              subst hx hy
              exact hue
            · exact hsm.out j x y (by omega) hx hy), J1, J2, Jb⟩
          case measure => simp [intOf]; omega
        | false =>
          go_wp2
          go_ret
          refine ⟨false, rfl, no_iff (fun h => ?_), Jb.out⟩
          have := hS.out.2 (((alk5 ..).1 h).2 i u1 u2 hu1.out hu2.out)
          cases this
      · obtain rfl : i = M := by omega
        go_wp2
        go_ret
        refine ⟨true, rfl, ⟨fun _ => ?_, fun _ => rfl⟩, hb.out⟩
        exact (alk5 ..).2 ⟨hM.out.trans hM'.out.symm, fun j x y hx hy => hsm.out j x y (by rw [← hM.out]; exact (List.getElem?_eq_some_iff.mp hx).1) hx hy⟩
  · have f : ((M : Int) != (M' : Int)) = true := by simp; omega
    have f' : ¬ (M : Int) = (M' : Int) := by omega
    go_enter Tryd.func24, Tryd.ntmps24
    go_wp2
    go_ret
    exact ⟨false, rfl, no_iff (fun h => e5 (hM.out.symm.trans (((alk5 ..).1 h).1.trans hM'.out))), B2.out⟩
end Go.Proofs.YthfbmelfflpenaaDoor

/- quarryref17.alike, of objects and of all. -/
namespace Go.Proofs.YthfbmelfflpenaaDoor
open Go.RowKit Go.Shelf

set_option maxRecDepth 10000 in
set_option maxHeartbeats 8000000 in
theorem alike_6 (b : Bool) (r t : ByteArray) (ks : List ByteArray) (vs : List Vt) (ko : Option Addr) (kc : Nat) (vo : Option Addr) (vc : Nat) (X : Nat → Array Value) (b2 : Bool) (r2 t2 : ByteArray) (ks2 : List ByteArray) (vs2 : List Vt) (ko2 : Option Addr) (kc2 : Nat) (vo2 : Option Addr) (vc2 : Nat) (X2 : Nat → Array Value) (w : World)
    (hz : r.size ≤ capT ∧ t.size ≤ capT ∧ ks.length ≤ capT ∧ vs.length ≤ capT) (hz2 : r2.size ≤ capT ∧ t2.size ≤ capT ∧ ks2.length ≤ capT ∧ vs2.length ≤ capT)
    (hl : ks.length ≤ 4294967296) (hl2 : ks2.length ≤ 4294967296) (hvl : vs.length = ks.length) (hvl2 : vs2.length = ks2.length) (hk : KeysAt w ko ks) (hk2 : KeysAt w ko2 ks2) (hr : RowAt w vo vs.length X) (hr2 : RowAt w vo2 vs2.length X2) (hv : ∀ (i : Nat) (u : Vt), vs[i]? = some u → ValAt w u (.agg (X i))) (hv2 : ∀ (i : Nat) (u : Vt), vs2[i]? = some u → ValAt w u (.agg (X2 i)))
    (hkid : Hid (∀ (i q : Nat) (x y : Vt), vs[i]? = some x → vs2[q]? = some y → ∀ (va vb : Value) (u : World), ValAt u x va → ValAt u y vb → Calls Tryd.prog 24 #[va, vb] u fun e w' => AlkP x y u e w')) :
    Calls Tryd.prog 24 #[.agg #[.int .i64 6, .bool b, .string r, .string t, .slice ko ks.length kc, .slice vo vs.length vc], .agg #[.int .i64 6, .bool b2, .string r2, .string t2, .slice ko2 ks2.length kc2, .slice vo2 vs2.length vc2]] w fun e w' => AlkP (.mk 6 b r t ks vs) (.mk 6 b2 r2 t2 ks2 vs2) w e w' := by
  have wf6 : (Lit.int .i64 6).wf = true := by decide
  have hcov : Hid (∀ u : World, Below w.heap.size w u → Calls Tryd.prog 38 #[.agg #[.int .i64 6, .bool b, .string r, .string t, .slice ko ks.length kc, .slice vo vs.length vc], .agg #[.int .i64 6, .bool b2, .string r2, .string t2, .slice ko2 ks2.length kc2, .slice vo2 vs2.length vc2]] u fun e w' => CovP ks vs ks2 vs2 u e w') := fun u hb => covers_of 6 b r t ks vs ko kc vo vc X 6 b2 r2 t2 ks2 vs2 ko2 kc2 vo2 vc2 X2 u hl hl2 hvl hvl2 (hk.kept hb) (hk2.kept hb) (hr.kept hb) (hr2.kept hb) (fun i x hx => (hv i x hx).kept hb) (fun i x hx => (hv2 i x hx).kept hb) hkid
  obtain ⟨H, hH⟩ : ∃ H : Bool, Hid (H = true ↔ ∀ (i : Nat) (k : ByteArray), ks2[i]? = some k → ∃ j : Nat, ks[j]? = some k) := by
    by_cases h : ∀ (i : Nat) (k : ByteArray), ks2[i]? = some k → ∃ j : Nat, ks[j]? = some k
    · exact ⟨true, hid ⟨fun _ => h, fun _ => rfl⟩⟩
    · exact ⟨false, hid (no_iff h)⟩
  have hhas : Hid (∀ u : World, Below w.heap.size w u → Calls Tryd.prog 37 #[.agg #[.int .i64 6, .bool b2, .string r2, .string t2, .slice ko2 ks2.length kc2, .slice vo2 vs2.length vc2], .agg #[.int .i64 6, .bool b, .string r, .string t, .slice ko ks.length kc, .slice vo vs.length vc]] u fun e w' => e = .returned (.bool H) ∧ Below u.heap.size u w') := fun u hb => has17_calls (.mk 6 b2 r2 t2 ks2 vs2) (.mk 6 b r t ks vs) _ _ u (.mk 6 b2 r2 t2 ks2 vs2 ko2 kc2 vo2 vc2 X2 wf6 hz2 (hk2.kept hb) (hr2.kept hb) (fun i x hx => (hv2 i x hx).kept hb)) (.mk 6 b r t ks vs ko kc vo vc X wf6 hz (hk.kept hb) (hr.kept hb) (fun i x hx => (hv i x hx).kept hb)) hl H hH
  generalize ks.length = N at hcov hhas ⊢
  generalize ks2.length = N2 at hcov hhas ⊢
  generalize vs.length = M at hcov hhas ⊢
  generalize vs2.length = M2 at hcov hhas ⊢
  clear hz hz2 hl hl2 hvl hvl2 hk hk2 hr hr2 hv hv2 hkid wf6
  have A1 : Hid (At ((w.alloc (.cells #[.int .i64 6, .bool b, .string r, .string t, .slice ko N kc, .slice vo M vc] 25)).alloc (.cells #[.int .i64 6, .bool b2, .string r2, .string t2, .slice ko2 N2 kc2, .slice vo2 M2 vc2] 25)) w.heap.size #[.int .i64 6, .bool b, .string r, .string t, .slice ko N kc, .slice vo M vc] 25) := (At.new _ _ _).alloc _
  have A2 : Hid (At ((w.alloc (.cells #[.int .i64 6, .bool b, .string r, .string t, .slice ko N kc, .slice vo M vc] 25)).alloc (.cells #[.int .i64 6, .bool b2, .string r2, .string t2, .slice ko2 N2 kc2, .slice vo2 M2 vc2] 25)) (w.heap.size + 1) #[.int .i64 6, .bool b2, .string r2, .string t2, .slice ko2 N2 kc2, .slice vo2 M2 vc2] 25) := by
    have := At.new (w.alloc (.cells #[.int .i64 6, .bool b, .string r, .string t, .slice ko N kc, .slice vo M vc] 25)) #[.int .i64 6, .bool b2, .string r2, .string t2, .slice ko2 N2 kc2, .slice vo2 M2 vc2] 25
    rwa [World.size_alloc] at this
  have B1 : Hid (Below w.heap.size w ((w.alloc (.cells #[.int .i64 6, .bool b, .string r, .string t, .slice ko N kc, .slice vo M vc] 25)).alloc (.cells #[.int .i64 6, .bool b2, .string r2, .string t2, .slice ko2 N2 kc2, .slice vo2 M2 vc2] 25))) := by
    show Below _ _ _
    repeat (first | with_reducible exact Below.refl _ _ | with_reducible refine Below.setCell ?_ (by first | (simp; done) | (simp; omega)) _ | with_reducible refine below_drewN ?_ _ | with_reducible refine Below.alloc ?_ (by first | (simp; done) | (simp; omega)) _ | with_reducible refine Below.drew ?_)
  go_enter Tryd.func24, Tryd.ntmps24
  go_wp2_with fail
  generalize ((w.alloc (.cells #[.int .i64 6, .bool b, .string r, .string t, .slice ko N kc, .slice vo M vc] 25)).alloc (.cells #[.int .i64 6, .bool b2, .string r2, .string t2, .slice ko2 N2 kc2, .slice vo2 M2 vc2] 25)) = W at A1 A2 B1 ⊢
  refine Calls.mono (hhas.out W B1.out) ?_
  rintro e w1 ⟨rfl, hb1⟩
  have C1 := hid (A1.out.keptAll hb1)
  have C2 := hid (A2.out.keptAll hb1)
  have Cb := hid (B1.out.trans (hb1.mono B1.out.size))
  clear hhas hb1 A1 A2 B1
  cases H with
  | false =>
    have hG : Hid (AlkP (.mk 6 b r t ks vs) (.mk 6 b2 r2 t2 ks2 vs2) w (.returned (.bool false)) w1) := ⟨false, rfl, no_iff (fun h => by
      have := hH.out.2 ((alk6 ..).1 h).1
      cases this), Cb.out⟩
    go_wp2
    go_ret
    exact hG.out
  | true =>
    have hcl := hid (hcov.out w1 Cb.out)
    have hHt := hid (hH.out.1 rfl)
    clear hH hcov
    have c0 := C1.out.cell 0
    have c1 := C1.out.cell 1
    have c2 := C1.out.cell 2
    have c3 := C1.out.cell 3
    have c4 := C1.out.cell 4
    have c5 := C1.out.cell 5
    have d0 := C2.out.cell 0
    have d1 := C2.out.cell 1
    have d2 := C2.out.cell 2
    have d3 := C2.out.cell 3
    have d4 := C2.out.cell 4
    have d5 := C2.out.cell 5
    simp only [List.getElem?_toArray, List.getElem?_cons_zero, List.getElem?_cons_succ] at c0 c1 c2 c3 c4 c5 d0 d1 d2 d3 d4 d5
    go_wp2_with fail
    refine Calls.mono hcl.out ?_
    rintro e w2 ⟨B, rfl, hB, hb2⟩
    have hG : Hid (AlkP (.mk 6 b r t ks vs) (.mk 6 b2 r2 t2 ks2 vs2) w (.returned (.bool B)) w2) := ⟨B, rfl, by
      rw [hB, alk6]
      exact ⟨fun h => ⟨hHt.out, h⟩, fun h => h.2⟩, Cb.out.trans (hb2.mono Cb.out.size)⟩
    clear hcl hB hb2
    go_wp2
    go_ret
    exact hG.out
end Go.Proofs.YthfbmelfflpenaaDoor

/- quarryref17.alike, of all; Alike, Like. -/
namespace Go.Proofs.YthfbmelfflpenaaDoor
open Go.RowKit Go.Shelf

mutual
/-- Objects have as many names as Kids, and no more than 4294967296. -/
def okA : Vt → Prop
  | .mk k _ _ _ ks vs => (k = 6 → vs.length = ks.length ∧ ks.length ≤ 4294967296) ∧ okAL vs
def okAL : List Vt → Prop
  | [] => True
  | v :: vs => okA v ∧ okAL vs
end
theorem okAL_get : ∀ {vs : List Vt} {i : Nat} {u : Vt}, okAL vs → vs[i]? = some u → okA u
  | [], i, u, _, h => by simp at h
  | v :: vs, i, u, hs, h => by
    unfold okAL at hs
    cases i with
    | zero => simp at h; subst h; exact hs.1
    | succ i => exact okAL_get hs.2 (by simpa using h)
mutual
/-- It has no more than 4294967296 names anywhere. -/
def nkV : Vt → Prop
  | .mk _ _ _ _ ks vs => ks.length ≤ 4294967296 ∧ nkL vs
def nkL : List Vt → Prop
  | [] => True
  | v :: vs => nkV v ∧ nkL vs
end
theorem plain_names {b : Bool} {r t : ByteArray} {ks : List ByteArray} {vs : List Vt} (h : plainV (.mk 6 b r t ks vs) = true) : vs.length = ks.length := by
  unfold plainV at h
  dsimp only at h
  simp only [show ¬ (6 : Int) = 1 by decide, show ¬ (6 : Int) = 2 by decide, show ¬ (6 : Int) = 3 by decide, show ¬ (6 : Int) = 4 by decide, show ¬ (6 : Int) = 5 by decide, if_false, if_true, Bool.and_eq_true, decide_eq_true_eq] at h
  exact h.2.2.2.2.symm
mutual
theorem okA_of : ∀ (t : Vt) (l : Int), wfV t l = true → nkV t → okA t
  | .mk k b r t ks vs, l, h, hn => by
    unfold wfV at h
    unfold nkV at hn
    rw [Bool.and_eq_true, Bool.and_eq_true] at h
    unfold okA
    refine ⟨fun hk => ?_, okAL_of vs (l - 1) h.2.2 hn.2⟩
    subst hk
    exact ⟨plain_names h.1, hn.1⟩
theorem okAL_of : ∀ (vs : List Vt) (l : Int), wfL vs l = true → nkL vs → okAL vs
  | [], _, _, _ => by unfold okAL; trivial
  | v :: vs, l, h, hn => by
    unfold wfL at h
    unfold nkL at hn
    rw [Bool.and_eq_true] at h
    unfold okAL
    exact ⟨okA_of v l h.1 hn.1, okAL_of vs l h.2 hn.2⟩
end
theorem alk_k (k : Int) (b : Bool) (r t : ByteArray) (ks : List ByteArray) (vs : List Vt) (k2 : Int) (b2 : Bool) (r2 t2 : ByteArray) (ks2 : List ByteArray) (vs2 : List Vt) (h : Alk (.mk k b r t ks vs) (.mk k2 b2 r2 t2 ks2 vs2)) : k = k2 := by
  rw [Alk] at h
  exact h.1
theorem alk0 (k : Int) (h5 : k ≠ 5) (h6 : k ≠ 6) (b : Bool) (r t : ByteArray) (ks : List ByteArray) (vs : List Vt) (b2 : Bool) (r2 t2 : ByteArray) (ks2 : List ByteArray) (vs2 : List Vt) :
    Alk (.mk k b r t ks vs) (.mk k b2 r2 t2 ks2 vs2) ↔ (k = 2 → b = b2) ∧ (k = 4 → t = t2) ∧ (k = 3 → NumA r r2) := by
  rw [Alk]
  constructor
  · rintro ⟨-, h2, h4, h3, -⟩
    exact ⟨h2, h4, h3⟩
  · rintro ⟨h2, h4, h3⟩
    exact ⟨rfl, h2, h4, h3, fun e => absurd e h5, fun e => absurd e h6⟩
set_option maxRecDepth 10000 in
theorem alike_ex : ∀ (n : Nat) (t u : Vt), SizeOf.sizeOf t ≤ n → okA t → okA u → ∀ (va vb : Value) (w : World), ValAt w t va → ValAt w u vb →
    Calls Tryd.prog 24 #[va, vb] w fun e w' => AlkP t u w e w' := by
  intro n
  induction n with
  | zero =>
    intro t u hs
    cases t
    simp at hs
  | succ n ih =>
    intro t u hs h1 h2 va vb w ha hb
    cases ha with
    | mk k b r t ks vs ko kc vo vc X hw hz hk hr hv =>
    cases hb with
    | mk k2 b2 r2 t2 ks2 vs2 ko2 kc2 vo2 vc2 X2 hw2 hz2 hk2 hr2 hv2 =>
    unfold okA at h1 h2
    have hkid : Hid (∀ (i q : Nat) (x y : Vt), vs[i]? = some x → vs2[q]? = some y → ∀ (va vb : Value) (u : World), ValAt u x va → ValAt u y vb → Calls Tryd.prog 24 #[va, vb] u fun e w' => AlkP x y u e w') := fun i q x y hx hy va vb u g1 g2 => by
      have hsz := kid_size (k := k) (b := b) (r := r) (t := t) (ks := ks) hx
      exact ih x y (by omega) (okAL_get h1.2 hx) (okAL_get h2.2 hy) va vb u g1 g2
    by_cases hkk : k = k2
    · subst hkk
      by_cases k2 : k = 2
      · subst k2
        refine (alike_2 b r t ko ks.length kc vo vs.length vc b2 r2 t2 ko2 ks2.length kc2 vo2 vs2.length vc2 w).mono ?_
        rintro e w' ⟨rfl, hb⟩
        refine ⟨_, rfl, ?_, hb⟩
        rw [alk0 2 (by decide) (by decide)]
        exact ⟨fun h => ⟨fun _ => by simpa using h, fun e => absurd e (by decide), fun e => absurd e (by decide)⟩, fun h => by simpa using h.1 rfl⟩
      · by_cases k3 : k = 3
        · subst k3
          have z1 := hz.1
          have z2 := hz2.1
          unfold capT at z1 z2
          refine (alike_3 b r t ko ks.length kc vo vs.length vc b2 r2 t2 ko2 ks2.length kc2 vo2 vs2.length vc2 w (by omega) (by omega)).mono ?_
          rintro e w' ⟨B, rfl, hB, hb⟩
          refine ⟨_, rfl, ?_, hb⟩
          rw [alk0 3 (by decide) (by decide), hB]
          exact ⟨fun h => ⟨fun e => absurd e (by decide), fun e => absurd e (by decide), fun _ => h⟩, fun h => h.2.2 rfl⟩
        · by_cases k4 : k = 4
          · subst k4
            refine (alike_4 b r t ko ks.length kc vo vs.length vc b2 r2 t2 ko2 ks2.length kc2 vo2 vs2.length vc2 w).mono ?_
            rintro e w' ⟨rfl, hb⟩
            refine ⟨_, rfl, ?_, hb⟩
            rw [alk0 4 (by decide) (by decide)]
            exact ⟨fun h => ⟨fun e => absurd e (by decide), fun _ => toList_inj16 (by simpa using h), fun e => absurd e (by decide)⟩, fun h => by rw [h.2.1 rfl]; simp⟩
          · by_cases k5 : k = 5
            · subst k5
              exact alike_5 b r t ks vs ko ks.length kc vo vc X b2 r2 t2 ks2 vs2 ko2 ks2.length kc2 vo2 vc2 X2 w hz.2.2.2 hz2.2.2.2 hr hr2 hv hv2 hkid
            · by_cases k6 : k = 6
              · subst k6
                exact alike_6 b r t ks vs ko kc vo vc X b2 r2 t2 ks2 vs2 ko2 kc2 vo2 vc2 X2 w hz hz2 (h1.1 rfl).2 (h2.1 rfl).2 (h1.1 rfl).1 (h2.1 rfl).1 hk hk2 hr hr2 hv hv2 hkid
              · refine (alike_0 k ⟨k2, k3, k4, k5, k6⟩ b r t ko ks.length kc vo vs.length vc b2 r2 t2 ko2 ks2.length kc2 vo2 vs2.length vc2 w).mono ?_
                rintro e w' ⟨rfl, hb⟩
                refine ⟨_, rfl, ?_, hb⟩
                rw [alk0 k k5 k6]
                exact ⟨fun _ => ⟨fun e => absurd e k2, fun e => absurd e k4, fun e => absurd e k3⟩, fun _ => rfl⟩
    · refine (alike_ne k b r t ko ks.length kc vo vs.length vc k2 b2 r2 t2 ko2 ks2.length kc2 vo2 vs2.length vc2 w hkk).mono ?_
      rintro e w' ⟨rfl, hb⟩
      exact ⟨_, rfl, no_iff (fun h => hkk (alk_k _ _ _ _ _ _ _ _ _ _ _ _ h)), hb⟩
/-- Whether two values are alike: both are well shaped, too. -/
def AlkB (t u : Vt) (B : Bool) : Prop := B = true ↔ wfV t 1024 = true ∧ wfV u 1024 = true ∧ Alk t u
set_option maxRecDepth 10000 in
set_option maxHeartbeats 8000000 in
theorem alike17_calls (t u : Vt) (B : Bool) (hB : Hid (AlkB t u B)) (hz : szV t) (hz2 : szV u) (hn : nkV t) (hn2 : nkV u) (va vb : Value) (w : World) (ha : ValAt w t va) (hb : ValAt w u vb) :
    Calls Tryd.prog 16 #[va, vb] w fun e w' => e = .returned (.bool B) ∧ Below w.heap.size w w' := by
  have hf1 := hid (fun u0 hu => formed17_calls t hz va u0 hu)
  have hf2 := hid (fun u0 hu => formed17_calls u hz2 vb u0 hu)
  have hal : Hid (wfV t 1024 = true → wfV u 1024 = true → ∀ u0 : World, ValAt u0 t va → ValAt u0 u vb → Calls Tryd.prog 24 #[va, vb] u0 fun e w' => e = .returned (.bool B) ∧ Below u0.heap.size u0 w') := fun g1 g2 u0 h1 h2 => by
    refine (alike_ex _ t u (Nat.le_refl _) (okA_of t 1024 g1 hn) (okA_of u 1024 g2 hn2) va vb u0 h1 h2).mono ?_
    rintro e w' ⟨S, rfl, hS, hbb⟩
    refine ⟨?_, hbb⟩
    have h3 : B = true ↔ Alk t u := ⟨fun h => (hB.out.1 h).2.2, fun h => hB.out.2 ⟨g1, g2, h⟩⟩
    have : S = B := by
      rw [← h3] at hS
      cases S <;> cases B <;> simp_all
    rw [this]
  have hBf : Hid (¬ (wfV t 1024 = true ∧ wfV u 1024 = true) → B = false) := fun h => by
    cases B with
    | false => rfl
    | true => exact absurd ⟨(hB.out.1 rfl).1, (hB.out.1 rfl).2.1⟩ h
  generalize wfV t 1024 = F1 at hf1 hal hBf
  generalize wfV u 1024 = F2 at hf2 hal hBf
  have ha' := hid ha
  have hb' := hid hb
  clear hB hz hz2 hn hn2
  cases ha with
  | mk k b r t ks vs ko kc vo vc X hw hzz hk hr hv =>
  cases hb with
  | mk k2 b2 r2 t2 ks2 vs2 ko2 kc2 vo2 vc2 X2 hw2 hzz2 hk2 hr2 hv2 =>
  clear hw hzz hk hr hv hw2 hzz2 hk2 hr2 hv2
  generalize ks.length = N at *
  generalize vs.length = M at *
  generalize ks2.length = N2 at *
  generalize vs2.length = M2 at *
  have A1 : Hid (At ((w.alloc (.cells #[.int .i64 k, .bool b, .string r, .string t, .slice ko N kc, .slice vo M vc] 25)).alloc (.cells #[.int .i64 k2, .bool b2, .string r2, .string t2, .slice ko2 N2 kc2, .slice vo2 M2 vc2] 25)) w.heap.size #[.int .i64 k, .bool b, .string r, .string t, .slice ko N kc, .slice vo M vc] 25) := (At.new _ _ _).alloc _
  have A2 : Hid (At ((w.alloc (.cells #[.int .i64 k, .bool b, .string r, .string t, .slice ko N kc, .slice vo M vc] 25)).alloc (.cells #[.int .i64 k2, .bool b2, .string r2, .string t2, .slice ko2 N2 kc2, .slice vo2 M2 vc2] 25)) (w.heap.size + 1) #[.int .i64 k2, .bool b2, .string r2, .string t2, .slice ko2 N2 kc2, .slice vo2 M2 vc2] 25) := by
    have := At.new (w.alloc (.cells #[.int .i64 k, .bool b, .string r, .string t, .slice ko N kc, .slice vo M vc] 25)) #[.int .i64 k2, .bool b2, .string r2, .string t2, .slice ko2 N2 kc2, .slice vo2 M2 vc2] 25
    rwa [World.size_alloc] at this
  have B1 : Hid (Below w.heap.size w ((w.alloc (.cells #[.int .i64 k, .bool b, .string r, .string t, .slice ko N kc, .slice vo M vc] 25)).alloc (.cells #[.int .i64 k2, .bool b2, .string r2, .string t2, .slice ko2 N2 kc2, .slice vo2 M2 vc2] 25))) := by
    show Below _ _ _
    repeat (first | with_reducible exact Below.refl _ _ | with_reducible refine Below.setCell ?_ (by first | (simp; done) | (simp; omega)) _ | with_reducible refine below_drewN ?_ _ | with_reducible refine Below.alloc ?_ (by first | (simp; done) | (simp; omega)) _ | with_reducible refine Below.drew ?_)
  go_enter Tryd.func16, Tryd.ntmps16
  go_wp2_with fail
  generalize ((w.alloc (.cells #[.int .i64 k, .bool b, .string r, .string t, .slice ko N kc, .slice vo M vc] 25)).alloc (.cells #[.int .i64 k2, .bool b2, .string r2, .string t2, .slice ko2 N2 kc2, .slice vo2 M2 vc2] 25)) = W at A1 A2 B1 ⊢
  refine Calls.mono (hf1.out W (ha'.out.kept B1.out)) ?_
  rintro e w1 ⟨rfl, hb1⟩
  have C1 := hid (A1.out.keptAll hb1)
  have C2 := hid (A2.out.keptAll hb1)
  have Cb := hid (B1.out.trans (hb1.mono B1.out.size))
  clear hf1 hb1 A1 A2 B1
  cases F1 with
  | false =>
    have hfin := hid (hBf.out (by simp))
    clear hBf hal hf2
    obtain rfl := hfin.out
    go_wp2
    go_ret
    exact ⟨rfl, Cb.out⟩
  | true =>
    have d0 := C2.out.cell 0
    have d1 := C2.out.cell 1
    have d2 := C2.out.cell 2
    have d3 := C2.out.cell 3
    have d4 := C2.out.cell 4
    have d5 := C2.out.cell 5
    simp only [List.getElem?_toArray, List.getElem?_cons_zero, List.getElem?_cons_succ] at d0 d1 d2 d3 d4 d5
    go_wp2_with fail
    refine Calls.mono (hf2.out w1 (hb'.out.kept Cb.out)) ?_
    rintro e w2 ⟨rfl, hb1⟩
    have D1 := hid (C1.out.keptAll hb1)
    have D2 := hid (C2.out.keptAll hb1)
    have Db := hid (Cb.out.trans (hb1.mono Cb.out.size))
    clear hf2 hb1 C1 C2 Cb d0 d1 d2 d3 d4 d5
    cases F2 with
    | false =>
      have hfin := hid (hBf.out (by simp))
      clear hBf hal
      obtain rfl := hfin.out
      go_wp2
      go_ret
      exact ⟨rfl, Db.out⟩
    | true =>
      have c0 := D1.out.cell 0
      have c1 := D1.out.cell 1
      have c2 := D1.out.cell 2
      have c3 := D1.out.cell 3
      have c4 := D1.out.cell 4
      have c5 := D1.out.cell 5
      have d0 := D2.out.cell 0
      have d1 := D2.out.cell 1
      have d2 := D2.out.cell 2
      have d3 := D2.out.cell 3
      have d4 := D2.out.cell 4
      have d5 := D2.out.cell 5
      simp only [List.getElem?_toArray, List.getElem?_cons_zero, List.getElem?_cons_succ] at c0 c1 c2 c3 c4 c5 d0 d1 d2 d3 d4 d5
      have hcl := hid (hal.out (by simp) (by simp) w2 (ha'.out.kept Db.out) (hb'.out.kept Db.out))
      clear hal hBf
      go_wp2_with fail
      refine Calls.mono hcl.out ?_
      rintro e w3 ⟨rfl, hb3⟩
      have hE := hid (Db.out.trans (hb3.mono Db.out.size))
      clear hcl hb3
      go_wp2
      go_ret
      exact ⟨rfl, hE.out⟩
end Go.Proofs.YthfbmelfflpenaaDoor
