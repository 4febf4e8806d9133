/-
  tree.alikeMembers, where alike is known of the Kids (by gen_tpe2.py).
-/
import Derived.Test.YtjlcliicdclooaaDoorTpE
import Derived.Test.YtjlcliicdclooaaDoorTrMA
import Derived.Deep.MidRow
namespace Go.Proofs.YtjlcliicdclooaaDoor
open Go.RowKit Go.Shelf Go.Maps Go.ChangeMaps Go.WideShapes
theorem belowE {w W w1 : World} (h : Below w.heap.size w W) (hb : Below W.heap.size W w1) : Below w.heap.size w w1 := h.trans (hb.mono h.size)
theorem fst_mem {ks : List ByteArray} {nm : ByteArray} {i : Nat} (h : IsFst ks nm (i : Int)) : nm ∈ ks := by
  rcases h with ⟨h, _⟩ | ⟨j, _, h2, _⟩
  · omega
  · exact List.mem_of_getElem? h2
theorem FstM.look {w : World} {B n : Nat} {ks : List ByteArray} (h : FstM w B n ks) {nm : ByteArray} (hs : nm.size ≤ capT) {i : Nat} (hi : IsFst ks nm (i : Int)) : (Instr.lookup 88 (.map (some B)) (.string nm) false).run Tryd.prog w = .ok (.int .i64 (i : Int)) w := by
  obtain ⟨D, h1, h2⟩ := h
  obtain ⟨c, hr, hat, -⟩ := h1.lookup_int lawS Tryd.underlying88 Tryd.underlying3 (zeroI w) (keyS hs)
  obtain ⟨-, j, hj, hat2⟩ := h2.yes nm (fst_mem hi)
  rw [hat2] at hat
  have : (j : Int) = c := by simpa using hat
  have hij := hj.uniq hi
  rw [hr, ← this, hij]
theorem FstM.look_yes {w : World} {B n : Nat} {ks : List ByteArray} (h : FstM w B n ks) {nm : ByteArray} (hs : nm.size ≤ capT) {i : Nat} (hi : IsFst ks nm (i : Int)) : (Instr.lookup 88 (.map (some B)) (.string nm) true).run Tryd.prog w = .ok (.tuple #[.int .i64 (i : Int), .bool true]) w := by
  obtain ⟨D, h1, h2⟩ := h
  obtain ⟨v, ps, hr, hv⟩ := h1.look_ok lawS Tryd.underlying88 (zeroI w) (plainElem_int (H := Unit) Tryd.underlying3 (by decide)) (keyS hs)
  obtain ⟨c, rfl, hc, -⟩ := plainElem_int_inv Tryd.underlying3 hv
  obtain ⟨hh, j, hj, hat2⟩ := h2.yes nm (fst_mem hi)
  have hat := congrArg Prod.fst hc
  rw [hat2] at hat
  have : (j : Int) = c := by simpa using hat
  have hij := hj.uniq hi
  rw [hr, ← this, hij, hh]
theorem FstM.look_no {w : World} {B n : Nat} {ks : List ByteArray} (h : FstM w B n ks) {nm : ByteArray} (hs : nm.size ≤ capT) (hi : nm ∉ ks) : ∃ c : Int, (Instr.lookup 88 (.map (some B)) (.string nm) true).run Tryd.prog w = .ok (.tuple #[.int .i64 c, .bool false]) w := by
  obtain ⟨D, h1, h2⟩ := h
  obtain ⟨v, ps, hr, hv⟩ := h1.look_ok lawS Tryd.underlying88 (zeroI w) (plainElem_int (H := Unit) Tryd.underlying3 (by decide)) (keyS hs)
  obtain ⟨c, rfl, hc, -⟩ := plainElem_int_inv Tryd.underlying3 hv
  refine ⟨c, ?_⟩
  rw [hr, h2.no nm hi]
theorem FstM.len {w : World} {B n : Nat} {ks : List ByteArray} (h : FstM w B n ks) (ty : TypeId) : (Builtin.len_ #[88] ty #[.map (some B)]).run Tryd.prog w = .ok (.int .i64 (((nubB ks).length : Nat) : Int)) w := by
  obtain ⟨D, h1, h2⟩ := h
  rw [h1.len Tryd.underlying88 ty, h2.sz]
def MemB (ks : List ByteArray) (vs : List Vt) (ks2 : List ByteArray) (vs2 : List Vt) (w : World) (e : Ending) (w' : World) : Prop := ∃ B : Bool, e = .returned (.bool B) ∧ (B = true ↔ ((nubB ks).length = (nubB ks2).length ∧ CovS ks vs ks2 vs2 ks.length)) ∧ Below w.heap.size w w'
set_option maxRecDepth 10000 in
set_option maxHeartbeats 16000000 in
theorem membersP_of (k : Int) (b : Bool) (r t : ByteArray) (ks : List ByteArray) (vs : List Vt) (ko : Option Addr) (kc : Nat) (vo : Option Addr) (vc : Nat) (X : Nat → Array Value) (k2 : Int) (b2 : Bool) (r2 t2 : ByteArray) (ks2 : List ByteArray) (vs2 : List Vt) (ko2 : Option Addr) (kc2 : Nat) (vo2 : Option Addr) (vc2 : Nat) (X2 : Nat → Array Value) (w : World)
    (hl : ks.length ≤ capT) (hl2 : ks2.length ≤ capT) (hvl : vs.length = ks.length) (hvl2 : vs2.length = ks2.length) (hk : KeysAt w ko ks) (hk2 : KeysAt w ko2 ks2) (hr : RowAt w vo vs.length X) (hr2 : RowAt w vo2 vs2.length X2) (hv : ∀ (i : Nat) (u : Vt), vs[i]? = some u → ValAt w u (.agg (X i))) (hv2 : ∀ (i : Nat) (u : Vt), vs2[i]? = some u → ValAt w u (.agg (X2 i)))
    (hkid : Hid (∀ (i q : Nat) (x y : Vt), vs[i]? = some x → vs2[q]? = some y → ∀ (va vb : Value) (u : World), ValAt u x va → ValAt u y vb → Calls Tryd.prog 32 #[va, vb] u fun e w' => AlkP x y u e w')) :
    Calls Tryd.prog 47 #[.agg #[.int .i64 k, .bool b, .string r, .string t, .slice ko ks.length kc, .slice vo vs.length vc], .agg #[.int .i64 k2, .bool b2, .string r2, .string t2, .slice ko2 ks2.length kc2, .slice vo2 vs2.length vc2]] w fun e w' => MemB ks vs ks2 vs2 w e w' := by
  rw [hvl, hvl2]
  have hk' := hid hk
  have hk2' := hid hk2
  have hr' := hid hr
  have hr2' := hid hr2
  have hv' := hid hv
  have hv2' := hid hv2
  have hvl' := hid hvl
  have hvl2' := hid hvl2
  obtain ⟨N, hN⟩ : ∃ N, Hid (ks.length = N) := ⟨_, rfl⟩
  obtain ⟨N2, hN2⟩ : ∃ N, Hid (ks2.length = N) := ⟨_, rfl⟩
  rw [hN.out] at hl
  rw [hN2.out] at hl2
  rw [hN.out, hN2.out]
  have hf1 := hid (fun u0 (hu : KeysAt u0 ko ks) => firsts_calls ks ko N kc hN hl u0 (hid hu))
  have hf2 := hid (fun u0 (hu : KeysAt u0 ko2 ks2) => firsts_calls ks2 ko2 N2 kc2 hN2 hl2 u0 (hid hu))
  have hNi : (N : Int) ≤ 140737488351232 := by unfold capT at hl; omega
  have hN2i : (N2 : Int) ≤ 140737488351232 := by unfold capT at hl2; omega
  clear hk hk2 hr hr2 hv hv2 hvl hvl2 hl hl2
  have A1 : Hid (At ((w.alloc (.cells #[.int .i64 k, .bool b, .string r, .string t, .slice ko N kc, .slice vo N vc] 35)).alloc (.cells #[.int .i64 k2, .bool b2, .string r2, .string t2, .slice ko2 N2 kc2, .slice vo2 N2 vc2] 35)) w.heap.size #[.int .i64 k, .bool b, .string r, .string t, .slice ko N kc, .slice vo N vc] 35) := (At.new _ _ _).alloc _
  have A2 : Hid (At ((w.alloc (.cells #[.int .i64 k, .bool b, .string r, .string t, .slice ko N kc, .slice vo N vc] 35)).alloc (.cells #[.int .i64 k2, .bool b2, .string r2, .string t2, .slice ko2 N2 kc2, .slice vo2 N2 vc2] 35)) (w.heap.size + 1) #[.int .i64 k2, .bool b2, .string r2, .string t2, .slice ko2 N2 kc2, .slice vo2 N2 vc2] 35) := by
    have := At.new (w.alloc (.cells #[.int .i64 k, .bool b, .string r, .string t, .slice ko N kc, .slice vo N vc] 35)) #[.int .i64 k2, .bool b2, .string r2, .string t2, .slice ko2 N2 kc2, .slice vo2 N2 vc2] 35
    rwa [World.size_alloc] at this
  have B1 : Hid (Below w.heap.size w ((w.alloc (.cells #[.int .i64 k, .bool b, .string r, .string t, .slice ko N kc, .slice vo N vc] 35)).alloc (.cells #[.int .i64 k2, .bool b2, .string r2, .string t2, .slice ko2 N2 kc2, .slice vo2 N2 vc2] 35))) := by
    show Below _ _ _
    repeat (first | with_reducible exact Below.refl _ _ | with_reducible refine Below.setCell ?_ (by first | (simp; done) | (simp; omega)) _ | with_reducible refine below_drewN ?_ _ | with_reducible refine Below.alloc ?_ (by first | (simp; done) | (simp; omega)) _ | with_reducible refine Below.drew ?_)
  go_enter Tryd.func47, Tryd.ntmps47
  go_upto_region 1 with fail
  generalize ((w.alloc (.cells #[.int .i64 k, .bool b, .string r, .string t, .slice ko N kc, .slice vo N vc] 35)).alloc (.cells #[.int .i64 k2, .bool b2, .string r2, .string t2, .slice ko2 N2 kc2, .slice vo2 N2 vc2] 35)) = W at A1 A2 B1 ⊢
  go_cut [5, 6] from 11 to 16 (fun x y wx => ∃ m1 m2 : Nat, x = .map (some m1) ∧ y = .map (some m2) ∧ Hid (FstM wx m1 N ks) ∧ Hid (FstM wx m2 N2 ks2) ∧ Hid (At wx w.heap.size #[.int .i64 k, .bool b, .string r, .string t, .slice ko N kc, .slice vo N vc] 35) ∧ Hid (At wx (w.heap.size + 1) #[.int .i64 k2, .bool b2, .string r2, .string t2, .slice ko2 N2 kc2, .slice vo2 N2 vc2] 35) ∧ Hid (Below w.heap.size w wx))
  case first =>
    have d1 : W.cell? ⟨w.heap.size, 4, none⟩ = some (.slice ko N kc) := A1.out.cell 4
    have d2 : W.cell? ⟨w.heap.size + 1, 4, none⟩ = some (.slice ko2 N2 kc2) := A2.out.cell 4
    have hx0 : W.drew.cell? ⟨w.heap.size, 4, none⟩ = some (.slice ko N kc) ∧ W.drew.cell? ⟨w.heap.size + 1, 4, none⟩ = some (.slice ko2 N2 kc2) := ⟨d1, d2⟩
    have q0 := hid (show Below W.heap.size W W.drew from (Below.refl _ _).drew)
    have C1 := hid (A1.out.keptAll q0.out)
    have C2 := hid (A2.out.keptAll q0.out)
    have Cb := hid (belowE B1.out q0.out)
    go_wp2
    refine wp_region_held_drew (S := fun w' => w'.cell? ⟨w.heap.size, 4, none⟩ = some (.slice ko N kc) ∧ w'.cell? ⟨w.heap.size + 1, 4, none⟩ = some (.slice ko2 N2 kc2)) (by kernel_rfl) hx0 (fun hHeld => ?_)
    clear hHeld d1 d2 q0 A1 A2 B1
    generalize W.drew = v0 at *
    (refine' wpAnyH_take (i := 0) rfl (by kernel_rfl) (by kernel_rfl) (by kernel_rfl) (fun _ _ _ h => h) (Or.inl ⟨by rfl, ?_⟩) (by assumption) ?_; rotate_left; (· (intro wq hq; (try dsimp only at hq); go_simp; first | done | with_reducible rfl)); simp only [Act.put, List.getElem_toArray, List.getElem_cons_zero, List.setIfInBounds_toArray, List.set_cons_zero, List.set_cons_succ])
    (refine' wpAnyH_take (i := 1) rfl (by kernel_rfl) (by kernel_rfl) (by kernel_rfl) (fun _ _ _ h => h) (Or.inl ⟨by rfl, ?_⟩) (by assumption) ?_; rotate_left; (· (intro wq hq; (try dsimp only at hq); go_simp; first | done | with_reducible rfl)); simp only [Act.put, List.getElem_toArray, List.getElem_cons_zero, List.getElem_cons_succ, List.setIfInBounds_toArray, List.set_cons_zero, List.set_cons_succ])
    (refine' wpAnyH_take (i := 3) rfl (by kernel_rfl) (by kernel_rfl) (by kernel_rfl) (fun _ _ _ h => h) (Or.inl ⟨by rfl, ?_⟩) (by assumption) ?_; rotate_left; (· (intro wq hq; (try dsimp only at hq); go_simp; first | done | with_reducible rfl)); simp only [Act.put, List.getElem_toArray, List.getElem_cons_zero, List.getElem_cons_succ, List.setIfInBounds_toArray, List.set_cons_zero, List.set_cons_succ])
    (refine' wpAnyH_take (i := 4) rfl (by kernel_rfl) (by kernel_rfl) (by kernel_rfl) (fun _ _ _ h => h) (Or.inl ⟨by rfl, ?_⟩) (by assumption) ?_; rotate_left; (· (intro wq hq; (try dsimp only at hq); go_simp; first | done | with_reducible rfl)); simp only [Act.put, List.getElem_toArray, List.getElem_cons_zero, List.getElem_cons_succ, List.setIfInBounds_toArray, List.set_cons_zero, List.set_cons_succ])
    refine wpAnyH_ready (rs := [2]) (by kernel_rfl) (by simp) ?_
    refine AllReadyH.cons rfl (fun K hK => ?_) ?_
    · rw [if_pos (by rfl)]
      go_simp
      refine Calls.mono (hf1.out v0 (hk'.out.kept Cb.out)) ?_
      rintro e v1 ⟨rfl, hM1, hb1⟩
      have M1 := hid hM1
      have D1 := hid (C1.out.keptAll hb1)
      have D2 := hid (C2.out.keptAll hb1)
      have Db := hid (belowE Cb.out hb1)
      refine hK.out _ _ ⟨D1.out.cell 4, D2.out.cell 4⟩ (fun _ => ?_)
      clear hK K hM1 hb1 C1 C2 Cb hx0 hf1
      refine wpAnyH_ready (rs := [5]) (by kernel_rfl) (by simp) ?_
      refine AllReadyH.cons rfl (fun K hK => ?_) ?_
      · rw [if_pos (by rfl)]
        go_simp
        refine Calls.mono (hf2.out v1 (hk2'.out.kept Db.out)) ?_
        rintro e v2 ⟨rfl, hM2, hb2⟩
        have M2 := hid hM2
        have M1' := hid (M1.out.kept hb2)
        have E1 := hid (D1.out.keptAll hb2)
        have E2 := hid (D2.out.keptAll hb2)
        have Eb := hid (belowE Db.out hb2)
        refine hK.out _ _ ⟨E1.out.cell 4, E2.out.cell 4⟩ (fun _ => ?_)
        clear hK K hM2 hb2 D1 D2 Db hf2 M1
        (refine' wpAnyH_take (i := 6) rfl (by kernel_rfl) (by kernel_rfl) (by kernel_rfl) (fun _ _ _ h => h) (Or.inl ⟨by rfl, ?_⟩) (by assumption) ?_; rotate_left; (· (intro wq hq; (try dsimp only at hq); go_simp; first | done | with_reducible rfl)); simp only [Act.put, List.getElem_toArray, List.getElem_cons_zero, List.getElem_cons_succ, List.setIfInBounds_toArray, List.set_cons_zero, List.set_cons_succ])
        (refine' wpAnyH_take (i := 7) rfl (by kernel_rfl) (by kernel_rfl) (by kernel_rfl) (fun _ _ _ h => h) (Or.inl ⟨by rfl, ?_⟩) (by assumption) ?_; rotate_left; (· (intro wq hq; (try dsimp only at hq); go_simp; first | done | with_reducible rfl)); simp only [Act.put, List.getElem_toArray, List.getElem_cons_zero, List.getElem_cons_succ, List.setIfInBounds_toArray, List.set_cons_zero, List.set_cons_succ])
        refine wpAnyH_done (by kernel_rfl) ?_ _
        go_wp2_with fail
        go_meet
        case rel => exact ⟨_, _, rfl, rfl, M1', M2, E1, E2, Eb⟩
      exact AllReadyH.nil
    exact AllReadyH.nil
  case rest =>
    clear A1 A2 B1 hf1 hf2
    obtain ⟨m1, m2, rfl, rfl, M1, M2, E1, E2, Eb⟩ := hcut
    have hln1 := fun ty => M1.out.len ty
    have hln2 := fun ty => M2.out.len ty
    have c4 : wc.cell? ⟨w.heap.size, 4, none⟩ = some (.slice ko N kc) := E1.out.cell 4
    obtain ⟨n1, hn1⟩ : ∃ n, Hid ((nubB ks).length = n) := ⟨_, rfl⟩
    obtain ⟨n2, hn2⟩ : ∃ n, Hid ((nubB ks2).length = n) := ⟨_, rfl⟩
    rw [hn1.out] at hln1
    rw [hn2.out] at hln2
    by_cases hnn : n1 = n2
    · have e0 : ((n1 : Int) != (n2 : Int)) = false := by simp [hnn]
      have hnn' := hid hnn
      clear hnn
      go_wp2_with fail
      clear hln1 hln2 c4
      go_loopw [25] (fun ii wr => ∃ i : Nat, i ≤ N ∧ ii = .int .i64 (i : Int) ∧ Hid (CovS ks vs ks2 vs2 i) ∧ Hid (FstM wr m1 N ks) ∧ Hid (FstM wr m2 N2 ks2) ∧ Hid (At wr w.heap.size #[.int .i64 k, .bool b, .string r, .string t, .slice ko N kc, .slice vo N vc] 35) ∧ Hid (At wr (w.heap.size + 1) #[.int .i64 k2, .bool b2, .string r2, .string t2, .slice ko2 N2 kc2, .slice vo2 N2 vc2] 35) ∧ Hid (Below w.heap.size w wr)) (fun ii _ => N - (intOf ii).toNat)
      case atStart => exact ⟨0, Nat.zero_le _, rfl, hid (fun i x nm h => by omega), M1, M2, E1, E2, Eb⟩
      case round =>
        clear M1 M2 E1 E2 Eb
        obtain ⟨i, hi, rfl, hI, M1, M2, J1, J2, Jb⟩ := hrel
        by_cases hlt : i < N
        · have hli : (i : Int) < (N : Int) := by omega
          obtain ⟨sk, hsk⟩ : ∃ sk, Hid (ks[i]? = some sk) := ⟨_, List.getElem?_eq_getElem (by rw [hN.out]; exact hlt)⟩
          obtain ⟨hss, gk, ok, rfl, hgk, cgk⟩ := hk'.out i sk hsk.out
          have ad1 : (⟨gk, ok, none⟩ : Addr).add i = ⟨gk, ok + i, none⟩ := by by_cases h : i = 0 <;> simp [Addr.add, h]
          obtain ⟨f1, hf1⟩ : ∃ f : Nat, Hid (IsFst ks sk (f : Int)) := by
            obtain ⟨f, hf⟩ := fst_ex17 ks sk
            rcases hf with ⟨_, h⟩ | ⟨j, rfl, h⟩
            · exact absurd hsk.out (h i)
            · exact ⟨j, hid (.inr ⟨j, rfl, h⟩)⟩
          have s1 := (Jb.out.cell (p := ⟨gk, ok + i, none⟩) hgk).trans cgk
          have hlk := M1.out.look hss hf1.out
          have hss' := hid hss
          clear hss cgk hgk
          by_cases hfi : f1 = i
          · have e1 : ((f1 : Int) != (i : Int)) = false := by simp [hfi]
            have hfi' := hid hfi
            clear hfi
            obtain ⟨u1, hu1⟩ : ∃ u, Hid (vs[i]? = some u) := ⟨_, List.getElem?_eq_getElem (by rw [hvl'.out, hN.out]; exact hlt)⟩
            by_cases hmem : sk ∈ ks2
            · obtain ⟨q, hq⟩ : ∃ f : Nat, Hid (IsFst ks2 sk (f : Int)) := by
                obtain ⟨f, hf⟩ := fst_ex17 ks2 sk
                obtain ⟨j0, hj0⟩ := List.getElem?_of_mem hmem
                rcases hf with ⟨_, h⟩ | ⟨j, rfl, h⟩
                · exact absurd hj0 (h j0)
                · exact ⟨j, hid (.inr ⟨j, rfl, h⟩)⟩
              have hlk2 := M2.out.look_yes hss'.out hq.out
              have hqN : q < N2 := by
                rcases hq.out with ⟨h, _⟩ | ⟨j, h1, h2, _⟩
                · omega
                · have := (List.getElem?_eq_some_iff.1 h2).1
                  have := hN2.out
                  omega
              have hqi : (q : Int) < (N2 : Int) := by omega
              obtain ⟨u2, hu2⟩ : ∃ u, Hid (vs2[q]? = some u) := ⟨_, List.getElem?_eq_getElem (by rw [hvl2'.out, hN2.out]; exact hqN)⟩
              obtain ⟨p, o, hpo, hg, hrg, hl1⟩ := row_range (hr'.out.kept Jb.out) (i := i) (by rw [hvl'.out, hN.out]; exact hlt)
              obtain ⟨p', o', hpo', hg', hrg', hl2⟩ := row_range (hr2'.out.kept Jb.out) (i := q) (by rw [hvl2'.out, hN2.out]; exact hqN)
              obtain ⟨L1, hL1⟩ : ∃ L, Hid ((X i).toList = L) := ⟨_, rfl⟩
              obtain ⟨L2, hL2⟩ : ∃ L, Hid ((X2 q).toList = L) := ⟨_, rfl⟩
              rw [hL1.out] at hrg hl1
              rw [hL2.out] at hrg' hl2
              have z1 : (Tryd.prog.info? 35).map (·.size) = some L1.length := by rw [hl1]; exact sizeVl
              have z2 : (Tryd.prog.info? 35).map (·.size) = some L2.length := by rw [hl2]; exact sizeVl
              have v1 : Hid (ValAt wr u1 (.agg L1.toArray)) := by
                have := (hv'.out i u1 hu1.out).kept Jb.out
                rw [← hL1.out, Array.toArray_toList]
                exact this
              have v2 : Hid (ValAt wr u2 (.agg L2.toArray)) := by
                have := (hv2'.out q u2 hu2.out).kept Jb.out
                rw [← hL2.out, Array.toArray_toList]
                exact this
              obtain ⟨S, hS⟩ : ∃ S : Bool, Hid (S = true ↔ Alk u1 u2) := by
                by_cases h : Alk u1 u2
                · exact ⟨true, hid ⟨fun _ => h, fun _ => rfl⟩⟩
                · exact ⟨false, hid (no_iff h)⟩
              have hcall : Hid (∀ wq : World, Below wr.heap.size wr wq → Calls Tryd.prog 32 #[.agg L1.toArray, .agg L2.toArray] wq fun e w' => e = .returned (.bool S) ∧ Below wq.heap.size wq w') := fun wq hwq => by
                refine (hkid.out i q u1 u2 hu1.out hu2.out _ _ wq (v1.out.kept hwq) (v2.out.kept hwq)).mono ?_
                rintro e w' ⟨B, rfl, hB, hbb⟩
                refine ⟨?_, hbb⟩
                have : B = S := by
                  cases B <;> cases S
                  · rfl
                  · exact absurd (hB.2 (hS.out.1 rfl)) (by simp)
                  · exact absurd (hS.out.2 (hB.1 rfl)) (by simp)
                  · rfl
                rw [this]
              have c5 : wr.cell? ⟨w.heap.size, 5, none⟩ = some (.slice vo N vc) := J1.out.cell 5
              have d5 : wr.cell? ⟨w.heap.size + 1, 5, none⟩ = some (.slice vo2 N2 vc2) := J2.out.cell 5
              rw [hpo] at c5
              rw [hpo'] at d5
              have hrgk := hid hrg
              have hrgk' := hid hrg'
              clear hrg hrg' hl1 hl2 hg hg' hmem
              go_wp2_with fail
              refine wp_region_quiet (C := (fun w' => w'.cell? ⟨w.heap.size, 5, none⟩ = some (.slice (some ⟨p, o, none⟩) N vc) ∧ w'.cell? ⟨w.heap.size + 1, 5, none⟩ = some (.slice (some ⟨p', o', none⟩) N2 vc2) ∧ Below wr.heap.size wr w')) (by kernel_rfl) (by kernel_rfl) (⟨c5, d5, (Below.refl _ _).drew⟩) ?_
              dsimp only
              repeat (first
                | (refine wpQuiet_skip (by rfl) ?_; simp only [Act.put, List.setIfInBounds_toArray, List.set_cons_zero, List.set_cons_succ])
                | (refine wpQuiet_load 35 _ (p) (o + i * 6) L1 _ (fun wq hq => range_kept hrgk.out hq.2.2) Tryd.underlying35 z1 rfl rfl rfl (by rfl) ?_; simp only [Act.put, List.setIfInBounds_toArray, List.set_cons_zero, List.set_cons_succ])
                | (refine wpQuiet_load 35 _ (p') (o' + q * 6) L2 _ (fun wq hq => range_kept hrgk'.out hq.2.2) Tryd.underlying35 z2 rfl rfl rfl (by rfl) ?_; simp only [Act.put, List.setIfInBounds_toArray, List.set_cons_zero, List.set_cons_succ])
                | (refine' wpQuiet_take (by rfl) ?_ ?_
                   rotate_left
                   · (intro wq hq; (try dsimp only at hq); go_simp
                      first
                        | done
                        | with_reducible rfl
                        | (go_at_call 32; have hzz := hcall.out wq hq.2.2; with_reducible refine hzz.mono ?_; clear hzz; rintro e wz ⟨rfl, hb⟩; exact ⟨rfl, (hb.cell (p := ⟨w.heap.size, 5, none⟩) (block_lt_of_cell hq.1)).trans hq.1, (hb.cell (p := ⟨w.heap.size + 1, 5, none⟩) (block_lt_of_cell hq.2.1)).trans hq.2.1, Below.trans hq.2.2 (Below.mono hb hq.2.2.size)⟩)
                     )
                   simp only [Act.put, List.setIfInBounds_toArray, List.set_cons_zero, List.set_cons_succ]))
              refine wpQuiet_nil ?_
              intro w5 hw5
              have G1 := hid (J1.out.keptAll hw5.2.2)
              have G2 := hid (J2.out.keptAll hw5.2.2)
              have Gb := hid (belowE Jb.out hw5.2.2)
              have Gm1 := hid (M1.out.kept hw5.2.2)
              have Gm2 := hid (M2.out.kept hw5.2.2)
              clear hw5 c5 d5 hcall hrgk hrgk' hlk hlk2 s1 J1 J2 Jb M1 M2
              cases S with
              | true =>
                have hal := hS.out.1 rfl
                go_wp2
                go_roundw
                case rel => exact ⟨i + 1, by omega, by simp, hid (fun j x nm hj h1 h2 h3 => by
                  by_cases e : j = i
                  · subst e
                    have ex : x = u1 := by have := hu1.out; rw [h1] at this; injection this
                    have en : nm = sk := by have := hsk.out; rw [h2] at this; injection this
                    rw [ex, en]
                    exact ⟨q, u2, hq.out, hu2.out, hal⟩
                  · exact hI.out j x nm (by omega) h1 h2 h3), Gm1, Gm2, G1, G2, Gb⟩
                case measure => simp [intOf]; omega
              | false =>
                go_wp2
                go_ret
                refine ⟨false, rfl, no_iff (fun h => ?_), Gb.out⟩
                obtain ⟨q', y, h1, h2, h3⟩ := h.2 i u1 sk (by rw [hN.out]; exact hlt) hu1.out hsk.out (by rw [← hfi'.out]; exact hf1.out)
                have eq' := h1.uniq hq.out
                have : q' = q := by omega
                subst this
                have ey : y = u2 := by have := hu2.out; rw [h2] at this; injection this
                rw [ey] at h3
                have := hS.out.2 h3
                cases this
            · obtain ⟨c, hlk2⟩ := M2.out.look_no hss'.out hmem
              have hmem' := hid hmem
              clear hmem
              go_wp2_with fail
              go_quiet (fail)
              go_wp2
              go_ret
              refine ⟨false, rfl, no_iff (fun h => ?_), below_drewN Jb.out _⟩
              obtain ⟨q', y, h1, h2, h3⟩ := h.2 i u1 sk (by rw [hN.out]; exact hlt) hu1.out hsk.out (by rw [← hfi'.out]; exact hf1.out)
              exact hmem'.out (fst_mem h1)
          · have e1 : ((f1 : Int) != (i : Int)) = true := by simp; omega
            have hfi' := hid hfi
            clear hfi
            go_wp2
            go_roundw
            case rel => exact ⟨i + 1, by omega, by simp, hid (fun j x nm hj h1 h2 h3 => by
              by_cases e : j = i
              · subst e
                have en : nm = sk := by have := hsk.out; rw [h2] at this; injection this
                rw [en] at h3
                have := h3.uniq hf1.out
                exact absurd (by omega : f1 = j) hfi'.out
              · exact hI.out j x nm (by omega) h1 h2 h3), M1, M2, J1, J2, Jb⟩
            case measure => simp [intOf]; omega
        · obtain rfl : i = N := by omega
          go_wp2
          go_ret
          exact ⟨true, rfl, ⟨fun _ => ⟨by rw [hn1.out, hn2.out]; exact hnn'.out, by rw [hN.out]; exact hI.out⟩, fun _ => rfl⟩, Jb.out⟩
    · have e0 : ((n1 : Int) != (n2 : Int)) = true := by simp; omega
      have hnn' := hid hnn
      clear hnn
      go_wp2
      go_ret
      refine ⟨false, rfl, no_iff (fun h => ?_), Eb.out⟩
      exact hnn'.out (by rw [← hn1.out, ← hn2.out]; exact h.1)
end Go.Proofs.YtjlcliicdclooaaDoor
