/-
 quarryref00.CopyValue: a value in new memory (by gen_rwe.py).
-/
import Derived.Test.YtlmjiocdhobopaaGreatDoorPack4
import Derived.Test.YtlmjiocdhobopaaGreatDoorPack5
import Derived.Test.YtlmjiocdhobopaaGreatDoorWrM
import Derived.Test.YtlmjiocdhobopaaGreatDoorPack6
namespace Go.Proofs.YtlmjiocdhobopaaGreatDoor
open Go.RowKit Go.Shelf
/-- A value that is being copied. -/
structure CvS (H : Nat) (w : World) (src : Array Value) (k : Int) (b : Bool) (r t : ByteArray) (bx : Nat) (kv vv : Value) (ks : List ByteArray) (vs : List Vt) (wr : World) : Prop where
 src : At wr H src 25
 res : At wr (H + 1) #[.int .i64 0, .bool false, .string ⟨#[]⟩, .string ⟨#[]⟩, .slice none 0 0, .slice none 0 0] 25
 box : At wr bx #[.int .i64 k, .bool b, .string r, .string t, kv, vv] 25
 keys : KeysG (H + 2) wr kv ks
 kids : KidsG (bx + 1) kv.ownBlock wr vv vs
 dis : ∀ g, kv.ownBlock = some g → vv.ownBlock ≠ some g
 lo : H + 2 ≤ bx
 sz : bx + 1 ≤ wr.heap.size
 bel : Below H w wr
section
variable {H bx : Nat} {w x x' y : World} {src : Array Value} {k : Int} {b : Bool} {r t : ByteArray} {kv vv vv' : Value} {ks : List ByteArray} {vs vs' : List Vt}
theorem CvS.kept (h : CvS H w src k b r t bx kv vv ks vs x) (hb : Below x.heap.size x x') : CvS H w src k b r t bx kv vv ks vs x' :=
 ⟨h.src.keptAll hb, h.res.keptAll hb, h.box.keptAll hb, h.keys.kept (SameOn.below hb), h.kids.kept (SameOn.below hb), h.dis, h.lo, Nat.le_trans h.sz hb.size, h.bel.trans (hb.mono (by have := h.lo; have := h.sz; omega))⟩
theorem CvS.low (h : CvS H w src k b r t bx kv vv ks vs x) (hg : x.grownBy y vv.ownBlock) {c : Nat} (hc : c ≤ bx) : y.heap[c]? = x.heap[c]? := hg.block c (by have := h.sz; omega) (fun e => by have := (h.kids.blk e.symm).1; omega)
theorem CvS.kid (h : CvS H w src k b r t bx kv vv ks vs x) (hk : KidsG (bx + 1) kv.ownBlock y vv' vs') (hg : x.grownBy y vv.ownBlock) (ha : vv'.ownBlock = vv.ownBlock ∨ ∃ g, vv'.ownBlock = some g ∧ x.heap.size ≤ g) : CvS H w src k b r t bx kv vv' ks vs' (y.setCell ⟨bx, 5, none⟩ vv') := by
 have hlo := h.lo
 have hset : ∀ c, c ≠ bx → (y.setCell ⟨bx, 5, none⟩ vv').heap[c]? = y.heap[c]? := fun c hc => Below.heap_setCell y ⟨bx, 5, none⟩ vv' c hc
 have hbox : At y bx #[.int .i64 k, .bool b, .string r, .string t, kv, vv] 25 := (h.low hg (Nat.le_refl _)).trans h.box
 have hkb : kv.ownBlock ≠ some bx := own_ne h.keys.1 h.box (by decide)
 refine ⟨(hset H (by omega)).trans ((h.low hg (by omega)).trans h.src), (hset (H + 1) (by omega)).trans ((h.low hg (by omega)).trans h.res), ?_, ?_, hk.kept ⟨by simp, fun c hc _ => hset c (by omega)⟩, ?_, h.lo, by have := h.sz; have := hg.size; simp; omega, ?_⟩
 ·have := hbox.set 5 vv'
  simpa using this
 ·refine ⟨own_on h.keys.1 (fun g hg1 _ hl => ?_), h.keys.2⟩
  rw [hset g (fun e => hkb (e ▸ hg1))]
  exact hg.block g hl (fun e => h.dis g hg1 e.symm)
 ·intro g hg1 hv
  rcases ha with e | ⟨g2, e, hgl⟩
  ·exact h.dis g hg1 (e ▸ hv)
  ·rw [hv] at e
   injection e with e
   have := (h.keys.blk hg1).2
   omega
 ·exact ⟨hg.os.trans h.bel.os, hg.tape.trans h.bel.tape, hg.output.trans h.bel.output, by have := h.bel.size; have := hg.size; simp; omega, fun c hc => ((hset c (by omega)).trans (h.low hg (by omega))).trans (h.bel.block c hc)⟩
theorem CvS.done {ko vo : Option Addr} {n m kc vc : Nat} (h : CvS H w src k b r t bx (.slice ko n kc) (.slice vo m vc) ks vs x) (hwf : (Lit.int .i64 k).wf = true) (hz : r.size ≤ capT ∧ t.size ≤ capT ∧ ks.length ≤ capT ∧ vs.length ≤ capT) :
  n = ks.length ∧ m = vs.length ∧ ValOn (fun c => H + 2 ≤ c) x (.mk k b r t ks vs) (.agg #[.int .i64 k, .bool b, .string r, .string t, .slice ko n kc, .slice vo m vc]) := by
 obtain ⟨X, rfl, hr, hx⟩ := h.kids.row
 obtain ⟨rfl, hkk⟩ := h.keys.row
 have hlo := h.lo
 exact ⟨rfl, rfl, .mk k b r t ks vs ko kc vo vc X hwf hz hkk (hr.kept (fun c _ hc => Nat.le_trans (show H + 2 ≤ bx + 1 by omega) hc) ⟨Nat.le_refl _, fun _ _ _ => rfl⟩) (fun i u hi => (hx i u hi).mono (fun c _ hc => Nat.le_trans (show H + 2 ≤ bx + 1 by omega) hc))⟩
end
theorem wpList_kidsR {ops : Array Oper} {rest : List Oper} {o : Oper} {a : Act} {Q : Exit → Act → World → Prop} {W : World} {x y : Operand} {B : Nat} {k : Option Nat} {v : Value} {vs : List Vt} {u : Vt} {C : Array Value} (hgd : o.guard = none) (ho : o.op = .call { callee := .builtin .append, args := #[x, y], argTypes := #[23, 23] })
  (hx : a.eval x = v) (h : KidsG B k W v vs) (hu : ValOn (fun c => B ≤ c ∧ v.ownBlock ≠ some c ∧ k ≠ some c) W u (.agg C)) (ad : Addr) (c : Nat) (hy : a.eval y = .slice (some ad) 1 c) (hC : ∀ (j : Nat) (y : Value), C[j]? = some y → W.cell? (ad.add j) = some y) (hn : vs.length < 1099511627776) (hB : B ≤ W.heap.size)
  (hr : ∀ v' W', KidsG B k W' v' (vs ++ [u]) → W.grownBy W' v.ownBlock → (v'.ownBlock = v.ownBlock ∨ ∃ g, v'.ownBlock = some g ∧ W.heap.size ≤ g) → wpList Tryz.prog ops Q rest (a.put o.dst v') W') : wpList Tryz.prog ops Q (o :: rest) a W := by
 refine wpList_plain hgd fun _ hK => ?_
 obtain ⟨v', W', hrun, h1, h2, h3⟩ := h.app (ty := o.type) hu ad c hC hn hB
 unfold Oper.wp execOp
 simp only [ho, resolve, invoke, builtin, Sem.run_bind, Sem.run_pure, Result.andThen_ok, List.map_toArray, List.map_cons, List.map_nil, hx, hy, hrun]
 exact hK _ _ (hr v' W' h1 h2 h3)
theorem own_top {e : TypeId} {z B : Nat} {w : World} {so : Option Addr} {n cap : Nat} {xs : List Value} (h : w.ownsRow B e z (.slice so n cap) n xs) : n = 0 ∨ ∃ (R : Nat) (cs : Array Value), so = some ⟨R, 0, none⟩ ∧ B ≤ R ∧ At w R cs e := by
 rcases h.2 with ⟨-, h0⟩ | ⟨g, cap', cur, he, hb, hg, -⟩
 ·exact .inl h0
 ·cases he
  exact .inr ⟨g, cur, rfl, hb, hg⟩
theorem top_grown {H bx : Nat} {wr wf : World} {k : Int} {b : Bool} {r t : ByteArray} {ko : Option Addr} {n kc : Nat} {vo : Option Addr} {m vc : Nat} {ks : List ByteArray} {vs : List Vt} {q : Option Nat}
  (hK : KeysG (H + 2) wr (.slice ko n kc) ks) (hV : KidsG (bx + 1) q wr (.slice vo m vc) vs) (hb : H + 2 ≤ bx) (hs : SameOn (fun b => b ≠ H + 1) wr wf) :
  TopAt H wf (.agg #[.int .i64 k, .bool b, .string r, .string t, .slice ko n kc, .slice vo m vc]) := by
 have e1 := hK.row.1
 obtain ⟨X, e2, -⟩ := hV.row
 have h1 := hK.1
 obtain ⟨X', h2, -⟩ := hV
 subst e1
 subst e2
 refine ⟨k, b, r, t, ko, _, kc, vo, _, vc, rfl, ?_, ?_⟩
 ·rcases own_top h1 with h | ⟨R, cs, e, hR, hA⟩
  ·exact .inl h
  ·exact .inr ⟨R, cs, e, by omega, (hs.2 R (by omega) hA.lt).trans hA⟩
 ·rcases own_top h2 with h | ⟨R, cs, e, hR, hA⟩
  ·exact .inl h
  ·exact .inr ⟨R, cs, e, by omega, (hs.2 R (by omega) hA.lt).trans hA⟩
set_option maxRecDepth 10000 in
set_option maxHeartbeats 8000000 in
theorem copyV_top : ∀ (n : Nat) (t : Vt), SizeOf.sizeOf t ≤ n → lnV t → ∀ (va : Value) (w : World), ValAt w t va →
  Calls Tryz.prog 11 #[va] w fun e w' => ∃ x : Value, e = .returned x ∧ ValOn (fun c => w.heap.size ≤ c) w' t x ∧ Below w.heap.size w w' ∧ TopAt w.heap.size w' x := by
 intro n
 induction n with
 | zero =>
  intro t hs
  cases t
  simp at hs
 | succ n ih =>
  intro t hs hln va w ha
  cases ha with
  | mk k b r t ks vs ko kc vo vc X hw hz hk hr hv =>
  unfold lnV at hln
  have ih' := hid ih
  have hs' := hid hs
  have hk' := hid hk
  have hr' := hid hr
  have hv' := hid hv
  have hz' := hid hz
  have hw' := hid hw
  have hln' := hid hln.2.2
  have hctx := hid (fun (u : World) (h : KeysAt u ko ks) => copyT_calls ks ko kc (by have := hln.1; omega) u (hid h))
  obtain ⟨N, hN⟩ : ∃ N, Hid (ks.length = N) := ⟨_, rfl⟩
  obtain ⟨M, hM⟩ : ∃ M, Hid (vs.length = M) := ⟨_, rfl⟩
  have hMi : (M : Int) ≤ 1099511627776 := by have := hln.2.1; rw [hM.out] at this; omega
  rw [hN.out] at hctx
  rw [hN.out, hM.out]
  clear ih hs hk hr hv hz hw hln
  obtain ⟨H, hH⟩ : ∃ H, Hid (w.heap.size = H) := ⟨_, rfl⟩
  have e1 : (w.alloc (.cells #[.int .i64 k, .bool b, .string r, .string t, .slice ko N kc, .slice vo M vc] 25)).heap.size = H + 1 := by rw [World.size_alloc, hH.out]
  have A1 : Hid (At ((w.alloc (.cells #[.int .i64 k, .bool b, .string r, .string t, .slice ko N kc, .slice vo M vc] 25)).alloc (.cells #[.int .i64 0, .bool false, .string ⟨#[]⟩, .string ⟨#[]⟩, .slice none 0 0, .slice none 0 0] 25)) H #[.int .i64 k, .bool b, .string r, .string t, .slice ko N kc, .slice vo M vc] 25) := by
   have h := (At.new w #[.int .i64 k, .bool b, .string r, .string t, .slice ko N kc, .slice vo M vc] 25).alloc (.cells #[.int .i64 0, .bool false, .string ⟨#[]⟩, .string ⟨#[]⟩, .slice none 0 0, .slice none 0 0] 25)
   rw [hH.out] at h
   exact h
  have R1 : Hid (At ((w.alloc (.cells #[.int .i64 k, .bool b, .string r, .string t, .slice ko N kc, .slice vo M vc] 25)).alloc (.cells #[.int .i64 0, .bool false, .string ⟨#[]⟩, .string ⟨#[]⟩, .slice none 0 0, .slice none 0 0] 25)) (H + 1) #[.int .i64 0, .bool false, .string ⟨#[]⟩, .string ⟨#[]⟩, .slice none 0 0, .slice none 0 0] 25) := by
   have h := At.new (w.alloc (.cells #[.int .i64 k, .bool b, .string r, .string t, .slice ko N kc, .slice vo M vc] 25)) #[.int .i64 0, .bool false, .string ⟨#[]⟩, .string ⟨#[]⟩, .slice none 0 0, .slice none 0 0] 25
   rw [e1] at h
   exact h
  have B1 : Hid (Below H w ((w.alloc (.cells #[.int .i64 k, .bool b, .string r, .string t, .slice ko N kc, .slice vo M vc] 25)).alloc (.cells #[.int .i64 0, .bool false, .string ⟨#[]⟩, .string ⟨#[]⟩, .slice none 0 0, .slice none 0 0] 25))) := by
   rw [← hH.out]
   exact ((Below.refl _ w).alloc (Nat.le_refl _) _).alloc (by rw [World.size_alloc]; omega) _
  have z1 : Hid (((w.alloc (.cells #[.int .i64 k, .bool b, .string r, .string t, .slice ko N kc, .slice vo M vc] 25)).alloc (.cells #[.int .i64 0, .bool false, .string ⟨#[]⟩, .string ⟨#[]⟩, .slice none 0 0, .slice none 0 0] 25)).heap.size = H + 2) := by show _ = _; rw [World.size_alloc, e1]
  clear e1
  have hkk : Hid (∀ u : World, Below H w u → KeysAt u ko ks) := fun u hu => hk'.out.kept (by rw [hH.out]; exact hu)
  go_enter Tryz.func11, Tryz.ntmps11
  go_upto_region 1 with fail
  rw [hH.out]
  generalize (w.alloc (.cells #[.int .i64 k, .bool b, .string r, .string t, .slice ko N kc, .slice vo M vc] 25)).alloc (.cells #[.int .i64 0, .bool false, .string ⟨#[]⟩, .string ⟨#[]⟩, .slice none 0 0, .slice none 0 0] 25) = W1 at A1 R1 B1 z1 ⊢
  go_cut [3] from 6 to 17 (fun t3 wx => ∃ (bx : Nat) (so : Option Addr) (cap : Nat), t3 = .pointer (some ⟨bx, 0, none⟩) ∧ Hid (CvS H w #[.int .i64 k, .bool b, .string r, .string t, .slice ko N kc, .slice vo M vc] k b r t bx (.slice so N cap) (.slice none 0 0) ks [] wx))
  case first =>
   have hx0 : W1.drew.cell? ⟨H, 0, none⟩ = some (.int .i64 k) ∧ W1.drew.cell? ⟨H, 1, none⟩ = some (.bool b) ∧ W1.drew.cell? ⟨H, 2, none⟩ = some (.string r) ∧ W1.drew.cell? ⟨H, 3, none⟩ = some (.string t) ∧ W1.drew.cell? ⟨H, 4, none⟩ = some (.slice ko N kc) ∧ W1.drew.cell? ⟨H, 5, none⟩ = some (.slice vo M vc) := ⟨A1.out.cell 0, A1.out.cell 1, A1.out.cell 2, A1.out.cell 3, A1.out.cell 4, A1.out.cell 5⟩
   have q0 := show Below W1.heap.size W1 W1.drew from (Below.refl _ _).drew
   have A2 := hid (A1.out.keptAll q0)
   have R2 := hid (R1.out.keptAll q0)
   have B2 := hid (B1.out.drew)
   have z2 : Hid (W1.drew.heap.size = H + 2) := z1.out
   rename_i Kr hKr
   refine wp_region_held_drew (S := fun w' => w'.cell? ⟨H, 0, none⟩ = some (.int .i64 k) ∧ w'.cell? ⟨H, 1, none⟩ = some (.bool b) ∧ w'.cell? ⟨H, 2, none⟩ = some (.string r) ∧ w'.cell? ⟨H, 3, none⟩ = some (.string t) ∧ w'.cell? ⟨H, 4, none⟩ = some (.slice ko N kc) ∧ w'.cell? ⟨H, 5, none⟩ = some (.slice vo M vc)) (by kernel_rfl) hx0 (fun hHeld => ?_)
   clear hHeld q0 A1 R1 B1 z1
   generalize W1.drew = v0 at *
   (refine' wpAnyH_take (i := 0) rfl (by kernel_rfl) (by kernel_rfl) (by kernel_rfl) (fun _ _ _ h => h) (Or.inl ⟨by rfl, ?_⟩) (by assumption) ?_; rotate_left; (· (intro wq hq; (try dsimp only at hq); go_simp; first | done | with_reducible rfl)); simp only [Act.put, List.getElem_toArray, List.getElem_cons_zero, List.setIfInBounds_toArray, List.set_cons_zero, List.set_cons_succ])
   (refine' wpAnyH_take (i := 1) rfl (by kernel_rfl) (by kernel_rfl) (by kernel_rfl) (fun _ _ _ h => h) (Or.inl ⟨by rfl, ?_⟩) (by assumption) ?_; rotate_left; (· (intro wq hq; (try dsimp only at hq); go_simp; first | done | with_reducible rfl)); simp only [Act.put, List.getElem_toArray, List.getElem_cons_zero, List.getElem_cons_succ, List.setIfInBounds_toArray, List.set_cons_zero, List.set_cons_succ])
   (refine' wpAnyH_take (i := 2) rfl (by kernel_rfl) (by kernel_rfl) (by kernel_rfl) (fun _ _ _ h => h) (Or.inl ⟨by rfl, ?_⟩) (by assumption) ?_; rotate_left; (· (intro wq hq; (try dsimp only at hq); go_simp; first | done | with_reducible rfl)); simp only [Act.put, List.getElem_toArray, List.getElem_cons_zero, List.getElem_cons_succ, List.setIfInBounds_toArray, List.set_cons_zero, List.set_cons_succ])
   (refine' wpAnyH_take (i := 3) rfl (by kernel_rfl) (by kernel_rfl) (by kernel_rfl) (fun _ _ _ h => h) (Or.inl ⟨by rfl, ?_⟩) (by assumption) ?_; rotate_left; (· (intro wq hq; (try dsimp only at hq); go_simp; first | done | with_reducible rfl)); simp only [Act.put, List.getElem_toArray, List.getElem_cons_zero, List.getElem_cons_succ, List.setIfInBounds_toArray, List.set_cons_zero, List.set_cons_succ])
   (refine' wpAnyH_take (i := 4) rfl (by kernel_rfl) (by kernel_rfl) (by kernel_rfl) (fun _ _ _ h => h) (Or.inl ⟨by rfl, ?_⟩) (by assumption) ?_; rotate_left; (· (intro wq hq; (try dsimp only at hq); go_simp; first | done | with_reducible rfl)); simp only [Act.put, List.getElem_toArray, List.getElem_cons_zero, List.getElem_cons_succ, List.setIfInBounds_toArray, List.set_cons_zero, List.set_cons_succ])
   (refine' wpAnyH_take (i := 5) rfl (by kernel_rfl) (by kernel_rfl) (by kernel_rfl) (fun _ _ _ h => h) (Or.inl ⟨by rfl, ?_⟩) (by assumption) ?_; rotate_left; (· (intro wq hq; (try dsimp only at hq); go_simp; first | done | with_reducible rfl)); simp only [Act.put, List.getElem_toArray, List.getElem_cons_zero, List.getElem_cons_succ, List.setIfInBounds_toArray, List.set_cons_zero, List.set_cons_succ])
   (refine' wpAnyH_take (i := 6) rfl (by kernel_rfl) (by kernel_rfl) (by kernel_rfl) (fun _ _ _ h => h) (Or.inl ⟨by rfl, ?_⟩) (by assumption) ?_; rotate_left; (· (intro wq hq; (try dsimp only at hq); go_simp; first | done | with_reducible rfl)); simp only [Act.put, List.getElem_toArray, List.getElem_cons_zero, List.getElem_cons_succ, List.setIfInBounds_toArray, List.set_cons_zero, List.set_cons_succ])
   (refine' wpAnyH_take (i := 7) rfl (by kernel_rfl) (by kernel_rfl) (by kernel_rfl) (fun _ _ _ h => h) (Or.inl ⟨by rfl, ?_⟩) (by assumption) ?_; rotate_left; (· (intro wq hq; (try dsimp only at hq); go_simp; first | done | with_reducible rfl)); simp only [Act.put, List.getElem_toArray, List.getElem_cons_zero, List.getElem_cons_succ, List.setIfInBounds_toArray, List.set_cons_zero, List.set_cons_succ])
   (refine' wpAnyH_take (i := 8) rfl (by kernel_rfl) (by kernel_rfl) (by kernel_rfl) (fun _ _ _ h => h) (Or.inl ⟨by rfl, ?_⟩) (by assumption) ?_; rotate_left; (· (intro wq hq; (try dsimp only at hq); go_simp; first | done | with_reducible rfl)); simp only [Act.put, List.getElem_toArray, List.getElem_cons_zero, List.getElem_cons_succ, List.setIfInBounds_toArray, List.set_cons_zero, List.set_cons_succ])
   (refine' wpAnyH_take (i := 9) rfl (by kernel_rfl) (by kernel_rfl) (by kernel_rfl) (fun _ _ _ h => h) (Or.inl ⟨by rfl, ?_⟩) (by assumption) ?_; rotate_left; (· (intro wq hq; (try dsimp only at hq); go_simp; first | done | with_reducible rfl)); simp only [Act.put, List.getElem_toArray, List.getElem_cons_zero, List.getElem_cons_succ, List.setIfInBounds_toArray, List.set_cons_zero, List.set_cons_succ])
   refine wpAnyH_ready (rs := [10, 12]) (by kernel_rfl) (by simp) ?_
   refine AllReadyH.cons rfl (fun K hK => ?_) ?_
   ·rw [if_pos (by rfl)]
    go_simp
    refine Calls.mono (hctx.out v0 (hkk.out v0 B2.out)) ?_
    rintro e v1 ⟨kv, rfl, hkv, hb⟩
    obtain ⟨so, cap, rfl⟩ := hkv.shape
    rw [hN.out] at hkv ⊢
    rw [z2.out] at hkv
    have K2 := hid hkv
    have A2b := hid (A2.out.keptAll hb)
    have R2b := hid (R2.out.keptAll hb)
    have B2b := hid (B2.out.trans (hb.mono (by rw [z2.out]; omega)))
    have zb : Hid (H + 2 ≤ v1.heap.size) := by have := hb.size; rw [z2.out] at this; exact this
    refine hK.out _ _ ⟨A2b.out.cell 0, A2b.out.cell 1, A2b.out.cell 2, A2b.out.cell 3, A2b.out.cell 4, A2b.out.cell 5⟩ (fun _ => ?_)
    clear hK K hkv hb A2 R2 B2 hx0 hctx
    (refine' wpAnyH_take (i := 11) rfl (by kernel_rfl) (by kernel_rfl) (by kernel_rfl) (fun _ _ _ h => h) (Or.inl ⟨by rfl, ?_⟩) (by assumption) ?_; rotate_left; (· (intro wq hq; (try dsimp only at hq); go_simp; first | done | with_reducible rfl)); simp only [Act.put, List.getElem_toArray, List.getElem_cons_zero, List.getElem_cons_succ, List.setIfInBounds_toArray, List.set_cons_zero, List.set_cons_succ])
    refine wpAnyH_ready (rs := [12]) (by kernel_rfl) (by simp) ?_
    refine AllReadyH.cons rfl (fun K hK => ?_) ?_
    ·go_simp
     obtain ⟨v2, ev2⟩ : ∃ v, World.alloc v1 (.cells #[.int .i64 0, .bool false, .string ⟨#[]⟩, .string ⟨#[]⟩, .slice none 0 0, .slice none 0 0] 25) = v := ⟨_, rfl⟩
     have q2 : Below v1.heap.size v1 v2 := by rw [← ev2]; exact (Below.refl _ _).alloc (Nat.le_refl _) _
     have E3 := hid (show At v2 v1.heap.size #[.int .i64 0, .bool false, .string ⟨#[]⟩, .string ⟨#[]⟩, .slice none 0 0, .slice none 0 0] 25 by rw [← ev2]; exact At.new v1 _ _)
     have A3 := hid (A2b.out.keptAll q2)
     have R3 := hid (R2b.out.keptAll q2)
     have K3 := hid (K2.out.kept (SameOn.below q2))
     have B3 := hid (B2b.out.trans (q2.mono (by have := zb.out; omega)))
     have hlb : Hid (H + 2 ≤ v1.heap.size) := zb.out
     rw [ev2]
     refine hK.out _ _ ⟨A3.out.cell 0, A3.out.cell 1, A3.out.cell 2, A3.out.cell 3, A3.out.cell 4, A3.out.cell 5⟩ (fun _ => ?_)
     clear hK K ev2 q2 A2b R2b K2 B2b
     have d0 := E3.out.cell 0
     have d1 := E3.out.cell 1
     have d2 := E3.out.cell 2
     have d3 := E3.out.cell 3
     have d4 := E3.out.cell 4
     have d5 := E3.out.cell 5
     simp only [List.getElem?_toArray, List.getElem?_cons_zero, List.getElem?_cons_succ] at d0 d1 d2 d3 d4 d5
     have f0 := E3.out.frozen 0
     have f1 := E3.out.frozen 1
     have f2 := E3.out.frozen 2
     have f3 := E3.out.frozen 3
     have f4 := E3.out.frozen 4
     have f5 := E3.out.frozen 5
     refine wpAnyH_ready (rs := [13]) (by kernel_rfl) (by simp) ?_
     refine AllReadyH.cons rfl (fun K hK => ?_) ?_
     ·go_simp
      have E4 := hid (E3.out.six (y0 := .int .i64 k) (y1 := .bool b) (y2 := .string r) (y3 := .string t) (y4 := .slice so N cap) (y5 := .slice none 0 0))
      have hlo := hlb.out
      have A4 := hid (show At _ H #[.int .i64 k, .bool b, .string r, .string t, .slice ko N kc, .slice vo M vc] 25 from ((same_six (w := v2) (h := v1.heap.size) (y0 := .int .i64 k) (y1 := .bool b) (y2 := .string r) (y3 := .string t) (y4 := .slice so N cap) (y5 := .slice none 0 0)).2 H (by omega) A3.out.lt).trans A3.out)
      have R4 := hid (show At _ (H + 1) #[.int .i64 0, .bool false, .string ⟨#[]⟩, .string ⟨#[]⟩, .slice none 0 0, .slice none 0 0] 25 from ((same_six (w := v2) (h := v1.heap.size) (y0 := .int .i64 k) (y1 := .bool b) (y2 := .string r) (y3 := .string t) (y4 := .slice so N cap) (y5 := .slice none 0 0)).2 (H + 1) (by omega) R3.out.lt).trans R3.out)
      have B4 := hid (below_six B3.out (show H ≤ v1.heap.size by omega) (.int .i64 k) (.bool b) (.string r) (.string t) (.slice so N cap) (.slice none 0 0))
      have K4 := hid (show KeysG (H + 2) _ (.slice so N cap) ks from ⟨own_on K3.out.1 (fun g hg1 _ hl => (same_six (w := v2) (h := v1.heap.size) (y0 := .int .i64 k) (y1 := .bool b) (y2 := .string r) (y3 := .string t) (y4 := .slice so N cap) (y5 := .slice none 0 0)).2 g (fun e => own_ne K3.out.1 E3.out (by decide) (e ▸ hg1)) hl), K3.out.2⟩)
      have hsz4 : Hid (v1.heap.size + 1 ≤ ((((((v2.setCell ⟨v1.heap.size, 0, none⟩ (.int .i64 k)).setCell ⟨v1.heap.size, 1, none⟩ (.bool b)).setCell ⟨v1.heap.size, 2, none⟩ (.string r)).setCell ⟨v1.heap.size, 3, none⟩ (.string t)).setCell ⟨v1.heap.size, 4, none⟩ (.slice so N cap)).setCell ⟨v1.heap.size, 5, none⟩ (.slice none 0 0)).heap.size) := Nat.succ_le_of_lt (Nat.lt_of_lt_of_le E3.out.lt (same_six (w := v2) (h := v1.heap.size) (y0 := .int .i64 k) (y1 := .bool b) (y2 := .string r) (y3 := .string t) (y4 := .slice so N cap) (y5 := .slice none 0 0)).1)
      refine hK.out _ _ ⟨A4.out.cell 0, A4.out.cell 1, A4.out.cell 2, A4.out.cell 3, A4.out.cell 4, A4.out.cell 5⟩ (fun _ => ?_)
      clear hK K d0 f0 d1 f1 d2 f2 d3 f3 d4 f4 d5 f5
      refine wpAnyH_done (by kernel_rfl) ?_ _
      refine hKr _ _ ?_
      have hfin := hid (show CvS H w #[.int .i64 k, .bool b, .string r, .string t, .slice ko N kc, .slice vo M vc] k b r t (v1.heap.size) (.slice so N cap) (.slice none 0 0) ks [] _ from ⟨A4.out, R4.out, E4.out, K4.out, KidsG.nil _ _ _, (fun g _ h => by cases h), hlo, hsz4.out, B4.out⟩)
      clear A3 R3 B3 K3 E3 A4 R4 B4 K4 E4 hsz4
      go_wp2
      go_meet
      case rel => exact ⟨_, so, cap, rfl, hfin⟩
     exact AllReadyH.nil
    exact AllReadyH.nil
   refine AllReadyH.cons rfl (fun K hK => ?_) ?_
   ·go_simp
    obtain ⟨v1, ev1⟩ : ∃ v, World.alloc v0 (.cells #[.int .i64 0, .bool false, .string ⟨#[]⟩, .string ⟨#[]⟩, .slice none 0 0, .slice none 0 0] 25) = v := ⟨_, rfl⟩
    have q1 : Below v0.heap.size v0 v1 := by rw [← ev1]; exact (Below.refl _ _).alloc (Nat.le_refl _) _
    have E2 := hid (show At v1 v0.heap.size #[.int .i64 0, .bool false, .string ⟨#[]⟩, .string ⟨#[]⟩, .slice none 0 0, .slice none 0 0] 25 by rw [← ev1]; exact At.new v0 _ _)
    have A2b := hid (A2.out.keptAll q1)
    have R2b := hid (R2.out.keptAll q1)
    have B2b := hid (B2.out.trans (q1.mono (by rw [z2.out]; omega)))
    have zb : Hid (H + 2 ≤ v1.heap.size) := by have := q1.size; rw [z2.out] at this; exact this
    rw [ev1]
    refine hK.out _ _ ⟨A2b.out.cell 0, A2b.out.cell 1, A2b.out.cell 2, A2b.out.cell 3, A2b.out.cell 4, A2b.out.cell 5⟩ (fun _ => ?_)
    clear hK K ev1 q1 A2 R2 B2 hx0
    refine wpAnyH_ready (rs := [10]) (by kernel_rfl) (by simp) ?_
    refine AllReadyH.cons rfl (fun K hK => ?_) ?_
    ·rw [if_pos (by rfl)]
     go_simp
     refine Calls.mono (hctx.out v1 (hkk.out v1 B2b.out)) ?_
     rintro e v2 ⟨kv, rfl, hkv, hb⟩
     obtain ⟨so, cap, rfl⟩ := hkv.shape
     rw [hN.out] at hkv ⊢
     have K3 := hid (show KeysG (H + 2) v2 (.slice so N cap) ks from ⟨hkv.1.mono zb.out, hkv.2⟩)
     have A3 := hid (A2b.out.keptAll hb)
     have R3 := hid (R2b.out.keptAll hb)
     have E3 := hid (E2.out.keptAll hb)
     have B3 := hid (B2b.out.trans (hb.mono (by have := zb.out; omega)))
     have hlb : Hid (H + 2 ≤ v0.heap.size) := Nat.le_of_eq z2.out.symm
     refine hK.out _ _ ⟨A3.out.cell 0, A3.out.cell 1, A3.out.cell 2, A3.out.cell 3, A3.out.cell 4, A3.out.cell 5⟩ (fun _ => ?_)
     clear hK K hkv hb A2b R2b B2b E2 hctx
     (refine' wpAnyH_take (i := 11) rfl (by kernel_rfl) (by kernel_rfl) (by kernel_rfl) (fun _ _ _ h => h) (Or.inl ⟨by rfl, ?_⟩) (by assumption) ?_; rotate_left; (· (intro wq hq; (try dsimp only at hq); go_simp; first | done | with_reducible rfl)); simp only [Act.put, List.getElem_toArray, List.getElem_cons_zero, List.getElem_cons_succ, List.setIfInBounds_toArray, List.set_cons_zero, List.set_cons_succ])
     have d0 := E3.out.cell 0
     have d1 := E3.out.cell 1
     have d2 := E3.out.cell 2
     have d3 := E3.out.cell 3
     have d4 := E3.out.cell 4
     have d5 := E3.out.cell 5
     simp only [List.getElem?_toArray, List.getElem?_cons_zero, List.getElem?_cons_succ] at d0 d1 d2 d3 d4 d5
     have f0 := E3.out.frozen 0
     have f1 := E3.out.frozen 1
     have f2 := E3.out.frozen 2
     have f3 := E3.out.frozen 3
     have f4 := E3.out.frozen 4
     have f5 := E3.out.frozen 5
     refine wpAnyH_ready (rs := [13]) (by kernel_rfl) (by simp) ?_
     refine AllReadyH.cons rfl (fun K hK => ?_) ?_
     ·go_simp
      have E4 := hid (E3.out.six (y0 := .int .i64 k) (y1 := .bool b) (y2 := .string r) (y3 := .string t) (y4 := .slice so N cap) (y5 := .slice none 0 0))
      have hlo := hlb.out
      have A4 := hid (show At _ H #[.int .i64 k, .bool b, .string r, .string t, .slice ko N kc, .slice vo M vc] 25 from ((same_six (w := v2) (h := v0.heap.size) (y0 := .int .i64 k) (y1 := .bool b) (y2 := .string r) (y3 := .string t) (y4 := .slice so N cap) (y5 := .slice none 0 0)).2 H (by omega) A3.out.lt).trans A3.out)
      have R4 := hid (show At _ (H + 1) #[.int .i64 0, .bool false, .string ⟨#[]⟩, .string ⟨#[]⟩, .slice none 0 0, .slice none 0 0] 25 from ((same_six (w := v2) (h := v0.heap.size) (y0 := .int .i64 k) (y1 := .bool b) (y2 := .string r) (y3 := .string t) (y4 := .slice so N cap) (y5 := .slice none 0 0)).2 (H + 1) (by omega) R3.out.lt).trans R3.out)
      have B4 := hid (below_six B3.out (show H ≤ v0.heap.size by omega) (.int .i64 k) (.bool b) (.string r) (.string t) (.slice so N cap) (.slice none 0 0))
      have K4 := hid (show KeysG (H + 2) _ (.slice so N cap) ks from ⟨own_on K3.out.1 (fun g hg1 _ hl => (same_six (w := v2) (h := v0.heap.size) (y0 := .int .i64 k) (y1 := .bool b) (y2 := .string r) (y3 := .string t) (y4 := .slice so N cap) (y5 := .slice none 0 0)).2 g (fun e => own_ne K3.out.1 E3.out (by decide) (e ▸ hg1)) hl), K3.out.2⟩)
      have hsz4 : Hid (v0.heap.size + 1 ≤ ((((((v2.setCell ⟨v0.heap.size, 0, none⟩ (.int .i64 k)).setCell ⟨v0.heap.size, 1, none⟩ (.bool b)).setCell ⟨v0.heap.size, 2, none⟩ (.string r)).setCell ⟨v0.heap.size, 3, none⟩ (.string t)).setCell ⟨v0.heap.size, 4, none⟩ (.slice so N cap)).setCell ⟨v0.heap.size, 5, none⟩ (.slice none 0 0)).heap.size) := Nat.succ_le_of_lt (Nat.lt_of_lt_of_le E3.out.lt (same_six (w := v2) (h := v0.heap.size) (y0 := .int .i64 k) (y1 := .bool b) (y2 := .string r) (y3 := .string t) (y4 := .slice so N cap) (y5 := .slice none 0 0)).1)
      refine hK.out _ _ ⟨A4.out.cell 0, A4.out.cell 1, A4.out.cell 2, A4.out.cell 3, A4.out.cell 4, A4.out.cell 5⟩ (fun _ => ?_)
      clear hK K d0 f0 d1 f1 d2 f2 d3 f3 d4 f4 d5 f5
      refine wpAnyH_done (by kernel_rfl) ?_ _
      refine hKr _ _ ?_
      have hfin := hid (show CvS H w #[.int .i64 k, .bool b, .string r, .string t, .slice ko N kc, .slice vo M vc] k b r t (v0.heap.size) (.slice so N cap) (.slice none 0 0) ks [] _ from ⟨A4.out, R4.out, E4.out, K4.out, KidsG.nil _ _ _, (fun g _ h => by cases h), hlo, hsz4.out, B4.out⟩)
      clear A3 R3 B3 K3 E3 A4 R4 B4 K4 E4 hsz4
      go_wp2
      go_meet
      case rel => exact ⟨_, so, cap, rfl, hfin⟩
     exact AllReadyH.nil
    exact AllReadyH.nil
   exact AllReadyH.nil
  case rest =>
   obtain ⟨bx, so0, cap0, rfl, hC0⟩ := hcut
   clear A1 R1 B1 z1 hctx
   go_wp2
   go_loopw [4, 5] (fun ii _ wr => ∃ (q cap : Nat) (so : Option Addr), q ≤ M ∧ ii = .int .i64 (q : Int) ∧ Hid (CvS H w #[.int .i64 k, .bool b, .string r, .string t, .slice ko N kc, .slice vo M vc] k b r t bx (.slice so0 N cap0) (.slice so q cap) ks (vs.take q) wr)) (fun ii _ _ => M - (intOf ii).toNat)
   case atStart => exact ⟨0, 0, none, Nat.zero_le _, rfl, hC0⟩
   case round =>
    clear hC0
    obtain ⟨q, cap, so, hqM, rfl, hC⟩ := hrel
    have d0 := hC.out.src.cell 0
    have d1 := hC.out.src.cell 1
    have d2 := hC.out.src.cell 2
    have d3 := hC.out.src.cell 3
    have d4 := hC.out.src.cell 4
    have d5 := hC.out.src.cell 5
    simp only [List.getElem?_toArray, List.getElem?_cons_zero, List.getElem?_cons_succ] at d0 d1 d2 d3 d4 d5
    by_cases hq : q < M
    ·have hqi : (q : Int) < (M : Int) := by omega
     have hlv : q < vs.length := by rw [hM.out]; exact hq
     obtain ⟨u, hu⟩ : ∃ u, vs[q]? = some u := ⟨_, List.getElem?_eq_getElem hlv⟩
     have hBw : Below w.heap.size w wr := by rw [hH.out]; exact hC.out.bel
     obtain ⟨g, o, rfl, hg, hrg, -⟩ := row_range (hr'.out.kept hBw) (i := q) hlv
     obtain ⟨LX, hLX⟩ : ∃ L, (X q).toList = L := ⟨_, rfl⟩
     rw [hLX] at hrg
     have hVu : ValAt wr u (.agg LX.toArray) := by
      have := (hv'.out q u hu).kept hBw
      rw [← hLX, Array.toArray_toList]
      exact this
     obtain ⟨k1, b1, r1, t1, ko1, N1, kc1, vo1, M1, vc1, rfl⟩ := hVu.six
     have hrgk := hid hrg
     have z1 : (Tryz.prog.info? 25).map (·.size) = some ([.int .i64 k1, .bool b1, .string r1, .string t1, .slice ko1 N1 kc1, .slice vo1 M1 vc1] : List Value).length := sizeVl
     have hsu := kid_size (k := k) (b := b) (r := r) (t := t) (ks := ks) hu
     have hcu := hid (ih'.out u (by have := hs'.out; omega) (lnL_get hln'.out hu) _ wr hVu)
     have hts : vs.take (q + 1) = vs.take q ++ [u] := by rw [List.take_add_one, hu]; rfl
     have hts' := hid hts
     clear hrg hVu hLX hBw hsu hts hu
     go_wp2_with (refine wpList_load_want 25 _ g (o + q * 6) [.int .i64 k1, .bool b1, .string r1, .string t1, .slice ko1 N1 kc1, .slice vo1 M1 vc1] _ hrgk.out Tryz.underlying25 z1 rfl rfl rfl (by rfl) ?_)
     refine Calls.mono hcu.out ?_
     rintro e w2 ⟨x, rfl, hV, hb, -⟩
     clear d0 d1 d2 d3 d4 d5 hrgk hcu z1
     obtain ⟨ko1, kc1, vo1, vc1, rfl⟩ := hV.six
     have hz0 := hC.out.sz
     have V1 := hid ((hV.mono (S' := fun c => bx + 1 ≤ c ∧ (Value.slice so q cap).ownBlock ≠ some c ∧ (Value.slice so0 N cap0).ownBlock ≠ some c) (fun c _ hc => ⟨Nat.le_trans hz0 hc, fun e => absurd (hC.out.kids.blk e).2 (Nat.not_lt.2 hc), fun e => absurd (hC.out.keys.blk e).2 (Nat.not_lt.2 hc)⟩)).keptB ((Below.refl _ _).alloc (Nat.le_refl _) (.cells #[.int .i64 u.kind, .bool u.b, .string u.raw, .string u.text, .slice ko1 u.keys.length kc1, .slice vo1 u.kids.length vc1] 25)))
     have s1 := hid ((hC.out.kept hb).kept ((Below.refl _ _).alloc (Nat.le_refl _) (.cells #[.int .i64 u.kind, .bool u.b, .string u.raw, .string u.text, .slice ko1 u.keys.length kc1, .slice vo1 u.kids.length vc1] 25)))
     have E1 := hid (At.new w2 #[.int .i64 u.kind, .bool u.b, .string u.raw, .string u.text, .slice ko1 u.keys.length kc1, .slice vo1 u.kids.length vc1] 25)
     clear hV hb hz0 hC
     go_upto_region 6 with fail
     obtain ⟨pe, hpe⟩ : ∃ x, w2.heap.size = x := ⟨_, rfl⟩
     rw [hpe] at E1 ⊢
     clear hpe
     generalize w2.alloc (.cells #[.int .i64 u.kind, .bool u.b, .string u.raw, .string u.text, .slice ko1 u.keys.length kc1, .slice vo1 u.kids.length vc1] 25) = W5 at V1 s1 E1 ⊢
     have qz : Below W5.heap.size W5 (W5.alloc (.cells #[.int .i64 u.kind, .bool u.b, .string u.raw, .string u.text, .slice ko1 u.keys.length kc1, .slice vo1 u.kids.length vc1] 25)) := (Below.refl _ _).alloc (Nat.le_refl _) _
     have s2 := hid (s1.out.kept qz)
     have V2 := hid (V1.out.keptB qz)
     have hpz := hid (At.new W5 #[.int .i64 u.kind, .bool u.b, .string u.raw, .string u.text, .slice ko1 u.keys.length kc1, .slice vo1 u.kids.length vc1] 25)
     have t5 : W5.cell? ⟨bx, 5, none⟩ = some (.slice so q cap) := s1.out.box.cell 5
     have g0 := E1.out.cell 0
     have g1 := E1.out.cell 1
     have g2 := E1.out.cell 2
     have g3 := E1.out.cell 3
     have g4 := E1.out.cell 4
     have g5 := E1.out.cell 5
     simp only [List.getElem?_toArray, List.getElem?_cons_zero, List.getElem?_cons_succ] at g0 g1 g2 g3 g4 g5
     go_wp2_with (at_builtin; refine wpList_kidsR rfl rfl rfl s2.out.kids V2.out ⟨W5.heap.size, 0, none⟩ 1 rfl (fun j y hj => by rw [show (⟨W5.heap.size, 0, none⟩ : Addr).add j = ⟨W5.heap.size, j, none⟩ by by_cases h : j = 0 <;> simp [Addr.add, h]]; rw [hpz.out.cell j]; exact hj) (by rw [List.length_take]; omega) s2.out.sz ?_)
     intro nv y hk1 hgr hap
     obtain ⟨no, nc, rfl⟩ := hk1.shape
     have hnn : (List.take q vs ++ [u]).length = q + 1 := by rw [List.length_append, List.length_take, List.length_singleton]; omega
     rw [hnn] at hk1 hap ⊢
     have fin := hid (s2.out.kid hk1 hgr (by rw [World.size_alloc]; exact hap))
     have hbx : At y bx #[.int .i64 k, .bool b, .string r, .string t, .slice so0 N cap0, .slice so q cap] 25 := (s2.out.low hgr (Nat.le_refl _)).trans s2.out.box
     have u5 : y.cell? ⟨bx, 5, none⟩ = some (.slice so q cap) := hbx.cell 5
     have f5 := hbx.frozen 5
     rw [← hts'.out] at fin
     clear hk1 hgr hap hbx s2 V2 hpz t5 qz hnn g0 g1 g2 g3 g4 g5
     go_wp2
     go_roundw
     case rel => exact ⟨q + 1, nc, no, by omega, by simp, fin⟩
     case measure => simp [intOf]; omega
    ·obtain rfl : q = M := by omega
     have htk : vs.take q = vs := by rw [← hM.out]; exact List.take_length
     rw [htk] at hC
     obtain ⟨y1, y2, hV⟩ := hC.out.done hw'.out hz'.out
     have hV' := hid hV
     have htop' := hid (show ∀ wf, SameOn (fun b => b ≠ H + 1) wr wf → TopAt H wf _ from fun wf hs => top_grown (k := k) (b := b) (r := r) (t := t) hC.out.keys hC.out.kids hC.out.lo hs)
     clear y1 y2 hV htk
     have e0 := hC.out.box.cell 0
     have e1 := hC.out.box.cell 1
     have e2 := hC.out.box.cell 2
     have e3 := hC.out.box.cell 3
     have e4 := hC.out.box.cell 4
     have e5 := hC.out.box.cell 5
     simp only [List.getElem?_toArray, List.getElem?_cons_zero, List.getElem?_cons_succ] at e0 e1 e2 e3 e4 e5
     have g0 := hC.out.res.cell 0
     have g1 := hC.out.res.cell 1
     have g2 := hC.out.res.cell 2
     have g3 := hC.out.res.cell 3
     have g4 := hC.out.res.cell 4
     have g5 := hC.out.res.cell 5
     simp only [List.getElem?_toArray, List.getElem?_cons_zero, List.getElem?_cons_succ] at g0 g1 g2 g3 g4 g5
     have f0 := hC.out.res.frozen 0
     have f1 := hC.out.res.frozen 1
     have f2 := hC.out.res.frozen 2
     have f3 := hC.out.res.frozen 3
     have f4 := hC.out.res.frozen 4
     have f5 := hC.out.res.frozen 5
     go_wp2
     refine ret_val1 (p := 2) rfl rfl (hC.out.res.six) rfl ?_
     have hpw := hH.out
     refine ⟨_, rfl, ?_, ?_, ?_⟩
     ·refine hV'.out.kept (fun c _ hc => ?_) ⟨same_six.1, fun c hc hl => same_six.2 c ?_ hl⟩
      ·show w.heap.size ≤ c
       have : H + 2 ≤ c := hc
       omega
      ·show c ≠ H + 1
       have : H + 2 ≤ c := hc
       omega
     ·rw [hH.out]
      exact below_six hC.out.bel (Nat.le_succ _) _ _ _ _ _ _
     ·rw [hH.out]
      exact htop'.out _ same_six
theorem copyV_ex (n : Nat) (t : Vt) (hs : SizeOf.sizeOf t ≤ n) (hln : lnV t) (va : Value) (w : World) (ha : ValAt w t va) :
  Calls Tryz.prog 11 #[va] w fun e w' => ∃ x : Value, e = .returned x ∧ ValOn (fun c => w.heap.size ≤ c) w' t x ∧ Below w.heap.size w w' :=
 (copyV_top n t hs hln va w ha).mono (fun _ _ ⟨x, h1, h2, h3, _⟩ => ⟨x, h1, h2, h3⟩)
end Go.Proofs.YtlmjiocdhobopaaGreatDoor
