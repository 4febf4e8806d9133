/-
 write.normalNumber, and write.normal of values without objects (by gen_nra.py).
-/
import Derived.Test.YtlhbgfhmcjaabaaGreatDoorNrM
import Derived.Test.YtlhbgfhmcjaabaaGreatDoorRwE
namespace Go.Proofs.YtlhbgfhmcjaabaaGreatDoor
open Go.RowKit Go.Shelf
theorem empt (D : ByteArray) : D.toList.isEmpty = decide (D = ⟨#[]⟩) := by
 have h := text_beq D ⟨#[]⟩
 have e : (⟨#[]⟩ : ByteArray).toList = [] := by decide +kernel
 rw [e] at h
 cases hd : D.toList with
 | nil =>
  rw [hd] at h
  have h2 : decide (D = ⟨#[]⟩) = true := by
   cases hx : decide (D = ⟨#[]⟩) with
   | true => rfl
   | false => rw [hx] at h; cases h
  rw [h2]
  rfl
 | cons a l =>
  have h2 : D ≠ ⟨#[]⟩ := by
   rintro rfl
   rw [e] at hd
   cases hd
  rw [decide_eq_false h2]
  rfl
set_option maxRecDepth 10000 in
set_option maxHeartbeats 8000000 in
theorem nnum_calls (r : ByteArray) (hr : r.size ≤ 4294967296) (S : ByteArray) (hS : Hid (nrmN r = S)) (w : World) (hP : PowT w) :
  Calls Tryz.prog 56 #[.string r] w fun e w' => e = .returned (.string S) ∧ Below w.heap.size w w' := by
 have hof := hid (ofD_calls r (by omega) w)
 have hcl := hid (fun u => cloneT_calls r (by omega) u)
 have hds := ds_size17 r
 have hP' := hid hP
 have P0 := hid hP
 unfold nrmN at hS
 unfold ofV decV at hof
 obtain ⟨o, ho⟩ : ∃ o, ofS r = o := ⟨_, rfl⟩
 rw [ho] at hof hds hS
 obtain ⟨⟨ng, ds, ex⟩, er⟩ := o
 dsimp only at hof hds hS
 obtain ⟨D, hD⟩ : ∃ D : ByteArray, (⟨ds.toArray⟩ : ByteArray) = D := ⟨_, rfl⟩
 rw [hD] at hof hds hS
 have hd0 : Hid (ds = [] ↔ D = ⟨#[]⟩) := by
  show _ ↔ _
  rw [← hD]
  constructor
  ·rintro rfl; rfl
  ·intro e
   have := congrArg (fun x : ByteArray => x.data.toList) e
   simpa using this
 have hre : D.size ≤ reachBytes := by
  have : reachBytes = 140737488351232 := by decide
  omega
 have htx := hid (fun (n : Bool) (A : ByteArray) (E : Int) (h : Hid (txtR n D ex = (A, E))) (u : World) (hu : PowT u) => text_calls n D ex hre A E h u hu)
 have her : (er : Int) = 111 ↔ er = 111 := by omega
 clear ho hD hre
 go_enter Tryz.func56, Tryz.ntmps56
 go_wp2_with fail
 refine Calls.mono hof.out ?_
 rintro e w1 ⟨rfl, hb1⟩
 have hP1 := hid (hP'.out.kept hb1)
 have hB1 := hid hb1
 clear hof hb1
 obtain ⟨W2, eW2⟩ : ∃ x, w1.alloc (.cells #[.bool ng, .string D, .int .i64 ex] 90) = x := ⟨_, rfl⟩
 have q2 : Below w1.heap.size w1 W2 := by rw [← eW2]; exact (Below.refl _ _).alloc (Nat.le_refl _) _
 have A2 := hid (show At W2 w1.heap.size #[.bool ng, .string D, .int .i64 ex] 90 by rw [← eW2]; exact At.new w1 _ _)
 have B2 := hid (hB1.out.trans (q2.mono hB1.out.size))
 have P2 := hid (hP1.out.kept q2)
 by_cases h111 : er = 111
 ·subst h111
  rw [if_pos rfl] at hS
  obtain rfl := hS.out
  go_wp2_with fail
  refine Calls.mono (hcl.out W2) ?_
  rintro e w3 ⟨rfl, hb3⟩
  go_wp2
  go_ret
  exact ⟨rfl, B2.out.trans (hb3.mono B2.out.size)⟩
 ·have hne : ¬ ((er : Int) = 111) := by omega
  rw [if_neg h111] at hS
  go_upto_region 4 with fail
  obtain ⟨g, hg⟩ : ∃ g, w1.heap.size = g := ⟨_, rfl⟩
  rw [hg] at A2 ⊢
  have hgw : Hid (w.heap.size ≤ g) := by show _ ≤ _; rw [← hg]; exact hB1.out.size
  clear eW2 q2 hg hB1 hP1
  have c1 : W2.cell? ⟨g, 1, none⟩ = some (.string D) := A2.out.cell 1
  have hie : Hid (D.toList.isEmpty = decide (D = ⟨#[]⟩)) := empt D
  by_cases hz : ds = []
  ·subst hz
   obtain rfl := hd0.out.1 rfl
   have A3 := hid (show At (W2.setCell ⟨g, 0, none⟩ (.bool false)) g #[.bool false, .string ⟨#[]⟩, .int .i64 ex] 90 from A2.out.set 0 (.bool false))
   have B3 := hid (B2.out.setCell (p := ⟨g, 0, none⟩) hgw.out (.bool false))
   have P3 : Hid (PowT (W2.setCell ⟨g, 0, none⟩ (.bool false))) := P0.out.kept (B3.out.mono (Nat.le_refl _))
   rw [if_pos rfl] at hS
   obtain ⟨E, hE⟩ : ∃ E, Hid (txtR false ⟨#[]⟩ ex = (S, E)) := ⟨_, hid (Prod.ext hS.out rfl)⟩
   have f0 := A2.out.frozen 0
   have c0 : W2.cell? ⟨g, 0, none⟩ = some (.bool ng) := A2.out.cell 0
   go_upto_region 6 with fail
   clear c0 c1 f0 A2 B2 P2
   generalize W2.setCell ⟨g, 0, none⟩ (.bool false) = W3 at A3 B3 P3 ⊢
   have c0 : W3.cell? ⟨g, 0, none⟩ = some (.bool false) := A3.out.cell 0
   have c1 : W3.cell? ⟨g, 1, none⟩ = some (.string ⟨#[]⟩) := A3.out.cell 1
   have c2 : W3.cell? ⟨g, 2, none⟩ = some (.int .i64 ex) := A3.out.cell 2
   go_wp2_with fail
   refine Calls.mono (htx.out false S E hE W3 P3.out) ?_
   rintro e w4 ⟨rfl, hb4⟩
   go_wp2
   go_ret
   exact ⟨rfl, B3.out.trans (hb4.mono B3.out.size)⟩
  ·have hne2 : D ≠ ⟨#[]⟩ := fun e => hz (hd0.out.2 e)
   rw [if_neg hz] at hS
   have hie2 := hie.out
   rw [decide_eq_false hne2] at hie2
   obtain ⟨E, hE⟩ : ∃ E, Hid (txtR ng D ex = (S, E)) := ⟨_, hid (Prod.ext hS.out rfl)⟩
   go_upto_region 6 with fail
   have c0 : W2.cell? ⟨g, 0, none⟩ = some (.bool ng) := A2.out.cell 0
   have c2 : W2.cell? ⟨g, 2, none⟩ = some (.int .i64 ex) := A2.out.cell 2
   go_wp2_with fail
   refine Calls.mono (htx.out ng S E hE W2 P2.out) ?_
   rintro e w4 ⟨rfl, hb4⟩
   go_wp2
   go_ret
   exact ⟨rfl, B2.out.trans (hb4.mono B2.out.size)⟩
theorem wp_append_rowN {o : Oper} {a : Act} {w w' : World} {K : Act → World → Prop} {Q : Exit → Act → World → Prop} {x y : Operand} {v v' u : Value} {ty : TypeId} (ho : o.op = .call { callee := .builtin .append, args := #[x, y], argTypes := #[ty, ty] }) (hx : a.eval x = v) (hy : a.eval y = u)
  (hr : (Builtin.append_ #[ty, ty] o.type #[v, u]).run Tryz.prog w = .ok v' w') (h : K (a.put o.dst v') w') : o.wp Tryz.prog a w K Q := by
 unfold Oper.wp execOp
 simp only [ho, resolve, invoke, builtin, Sem.run_bind, Sem.run_pure, Result.andThen_ok, List.map_toArray, List.map_cons, List.map_nil, hx, hy, hr]
 exact h
theorem CvS.raw {H bx : Nat} {w x : World} {src : Array Value} {k : Int} {b : Bool} {r t : ByteArray} {kv vv : Value} {ks : List ByteArray} {vs : List Vt} (h : CvS H w src k b r t bx kv vv ks vs x) (S : ByteArray) : CvS H w src k b S t bx kv vv ks vs (x.setCell ⟨bx, 2, none⟩ (.string S)) := by
 have hlo := h.lo
 have hset : ∀ c, c ≠ bx → (x.setCell ⟨bx, 2, none⟩ (.string S)).heap[c]? = x.heap[c]? := fun c hc => Below.heap_setCell x ⟨bx, 2, none⟩ (.string S) c hc
 have hkb : kv.ownBlock ≠ some bx := own_ne h.keys.1 h.box (by decide)
 refine ⟨(hset H (by omega)).trans h.src, (hset (H + 1) (by omega)).trans h.res, ?_, ?_, h.kids.kept ⟨by simp, fun c hc _ => hset c (by omega)⟩, h.dis, h.lo, by have := h.sz; simp; omega, h.bel.setCell (p := ⟨bx, 2, none⟩) (show H ≤ bx by omega) _⟩
 ·have := h.box.set 2 (.string S)
  simpa using this
 ·exact ⟨own_on h.keys.1 (fun g hg1 _ hl => hset g (fun e => hkb (e ▸ hg1))), h.keys.2⟩
set_option maxRecDepth 10000 in
set_option maxHeartbeats 8000000 in
theorem normal_ex (od : List ByteArray → List Nat) : ∀ (n : Nat) (t : Vt), SizeOf.sizeOf t ≤ n → lnV t → noO t → ∀ (va : Value) (w : World), ValAt w t va → PowT w →
  Calls Tryz.prog 35 #[va] w fun e w' => ∃ x : Value, e = .returned x ∧ ValOn (fun c => w.heap.size ≤ c) w' (nrmV od t) x ∧ Below w.heap.size w w' := by
 intro n
 induction n with
 | zero =>
  intro t hs
  cases t
  simp at hs
 | succ n ih =>
  intro t hs hln hno va w ha hP
  cases ha with
  | mk k b r t ks vs ko kc vo vc X hw hz hk hr hv =>
  unfold lnV at hln
  unfold noO at hno
  have ih' := hid ih
  have hs' := hid hs
  have hr' := hid hr
  have hv' := hid hv
  have hz' := hid hz
  have hw' := hid hw
  have hln' := hid hln.2.2
  have hno' := hid hno.2.2
  have hP' := hid hP
  have hn6 : ¬ (k = 6) := hno.1
  have hr32 := hno.2.1
  have hctx := hid (fun (u : World) => cloneT_calls t (by have := hz.2.1; unfold capT at this; omega) u)
  obtain ⟨NV, hNV⟩ : ∃ x, Hid (nrmV od (.mk k b r t ks vs) = x) := ⟨_, hid rfl⟩
  rw [hNV.out]
  obtain ⟨N, hN⟩ : ∃ N, Hid (ks.length = N) := ⟨_, rfl⟩
  obtain ⟨M, hM⟩ : ∃ M, Hid (vs.length = M) := ⟨_, rfl⟩
  have hMi : (M : Int) ≤ 1099511627776 := by have := hln.2.1; rw [hM.out] at this; omega
  rw [hN.out, hM.out]
  clear ih hs hk hr hv hz hw hln hno hP
  obtain ⟨H, hH⟩ : ∃ H, Hid (w.heap.size = H) := ⟨_, rfl⟩
  have e1 : (w.alloc (.cells #[.int .i64 k, .bool b, .string r, .string t, .slice ko N kc, .slice vo M vc] 25)).heap.size = H + 1 := by rw [World.size_alloc, hH.out]
  have A1 : Hid (At ((w.alloc (.cells #[.int .i64 k, .bool b, .string r, .string t, .slice ko N kc, .slice vo M vc] 25)).alloc (.cells #[.int .i64 0, .bool false, .string ⟨#[]⟩, .string ⟨#[]⟩, .slice none 0 0, .slice none 0 0] 25)) H #[.int .i64 k, .bool b, .string r, .string t, .slice ko N kc, .slice vo M vc] 25) := by
   have h := (At.new w #[.int .i64 k, .bool b, .string r, .string t, .slice ko N kc, .slice vo M vc] 25).alloc (.cells #[.int .i64 0, .bool false, .string ⟨#[]⟩, .string ⟨#[]⟩, .slice none 0 0, .slice none 0 0] 25)
   rw [hH.out] at h
   exact h
  have R1 : Hid (At ((w.alloc (.cells #[.int .i64 k, .bool b, .string r, .string t, .slice ko N kc, .slice vo M vc] 25)).alloc (.cells #[.int .i64 0, .bool false, .string ⟨#[]⟩, .string ⟨#[]⟩, .slice none 0 0, .slice none 0 0] 25)) (H + 1) #[.int .i64 0, .bool false, .string ⟨#[]⟩, .string ⟨#[]⟩, .slice none 0 0, .slice none 0 0] 25) := by
   have h := At.new (w.alloc (.cells #[.int .i64 k, .bool b, .string r, .string t, .slice ko N kc, .slice vo M vc] 25)) #[.int .i64 0, .bool false, .string ⟨#[]⟩, .string ⟨#[]⟩, .slice none 0 0, .slice none 0 0] 25
   rw [e1] at h
   exact h
  have B1 : Hid (Below H w ((w.alloc (.cells #[.int .i64 k, .bool b, .string r, .string t, .slice ko N kc, .slice vo M vc] 25)).alloc (.cells #[.int .i64 0, .bool false, .string ⟨#[]⟩, .string ⟨#[]⟩, .slice none 0 0, .slice none 0 0] 25))) := by
   rw [← hH.out]
   exact ((Below.refl _ w).alloc (Nat.le_refl _) _).alloc (by rw [World.size_alloc]; omega) _
  have z1 : Hid (((w.alloc (.cells #[.int .i64 k, .bool b, .string r, .string t, .slice ko N kc, .slice vo M vc] 25)).alloc (.cells #[.int .i64 0, .bool false, .string ⟨#[]⟩, .string ⟨#[]⟩, .slice none 0 0, .slice none 0 0] 25)).heap.size = H + 2) := by show _ = _; rw [World.size_alloc, e1]
  clear e1
  go_enter Tryz.func35, Tryz.ntmps35
  go_upto_region 1 with fail
  rw [hH.out]
  generalize (w.alloc (.cells #[.int .i64 k, .bool b, .string r, .string t, .slice ko N kc, .slice vo M vc] 25)).alloc (.cells #[.int .i64 0, .bool false, .string ⟨#[]⟩, .string ⟨#[]⟩, .slice none 0 0, .slice none 0 0] 25) = W1 at A1 R1 B1 z1 ⊢
  go_cut [3] from 8 to 15 (fun t3 wx => ∃ bx : Nat, t3 = .pointer (some ⟨bx, 0, none⟩) ∧ Hid (CvS H w #[.int .i64 k, .bool b, .string r, .string t, .slice ko N kc, .slice vo M vc] k b ⟨#[]⟩ t bx (.slice none 0 0) (.slice none 0 0) [] [] wx))
  case first =>
   have hx0 : W1.drew.cell? ⟨H, 0, none⟩ = some (.int .i64 k) ∧ W1.drew.cell? ⟨H, 1, none⟩ = some (.bool b) ∧ W1.drew.cell? ⟨H, 2, none⟩ = some (.string r) ∧ W1.drew.cell? ⟨H, 3, none⟩ = some (.string t) ∧ W1.drew.cell? ⟨H, 4, none⟩ = some (.slice ko N kc) ∧ W1.drew.cell? ⟨H, 5, none⟩ = some (.slice vo M vc) := ⟨A1.out.cell 0, A1.out.cell 1, A1.out.cell 2, A1.out.cell 3, A1.out.cell 4, A1.out.cell 5⟩
   have q0 := show Below W1.heap.size W1 W1.drew from (Below.refl _ _).drew
   have A2 := hid (A1.out.keptAll q0)
   have R2 := hid (R1.out.keptAll q0)
   have B2 := hid (B1.out.drew)
   have z2 : Hid (W1.drew.heap.size = H + 2) := z1.out
   rename_i Kr hKr
   refine wp_region_held_drew (S := fun w' => w'.cell? ⟨H, 0, none⟩ = some (.int .i64 k) ∧ w'.cell? ⟨H, 1, none⟩ = some (.bool b) ∧ w'.cell? ⟨H, 2, none⟩ = some (.string r) ∧ w'.cell? ⟨H, 3, none⟩ = some (.string t) ∧ w'.cell? ⟨H, 4, none⟩ = some (.slice ko N kc) ∧ w'.cell? ⟨H, 5, none⟩ = some (.slice vo M vc)) (by kernel_rfl) hx0 (fun hHeld => ?_)
   clear hHeld q0 A1 R1 B1 z1
   generalize W1.drew = v0 at *
   (refine' wpAnyH_take (i := 0) rfl (by kernel_rfl) (by kernel_rfl) (by kernel_rfl) (fun _ _ _ h => h) (Or.inl ⟨by rfl, ?_⟩) (by assumption) ?_; rotate_left; (· (intro wq hq; (try dsimp only at hq); go_simp; first | done | with_reducible rfl)); simp only [Act.put, List.getElem_toArray, List.getElem_cons_zero, List.setIfInBounds_toArray, List.set_cons_zero, List.set_cons_succ])
   (refine' wpAnyH_take (i := 1) rfl (by kernel_rfl) (by kernel_rfl) (by kernel_rfl) (fun _ _ _ h => h) (Or.inl ⟨by rfl, ?_⟩) (by assumption) ?_; rotate_left; (· (intro wq hq; (try dsimp only at hq); go_simp; first | done | with_reducible rfl)); simp only [Act.put, List.getElem_toArray, List.getElem_cons_zero, List.getElem_cons_succ, List.setIfInBounds_toArray, List.set_cons_zero, List.set_cons_succ])
   (refine' wpAnyH_take (i := 2) rfl (by kernel_rfl) (by kernel_rfl) (by kernel_rfl) (fun _ _ _ h => h) (Or.inl ⟨by rfl, ?_⟩) (by assumption) ?_; rotate_left; (· (intro wq hq; (try dsimp only at hq); go_simp; first | done | with_reducible rfl)); simp only [Act.put, List.getElem_toArray, List.getElem_cons_zero, List.getElem_cons_succ, List.setIfInBounds_toArray, List.set_cons_zero, List.set_cons_succ])
   (refine' wpAnyH_take (i := 3) rfl (by kernel_rfl) (by kernel_rfl) (by kernel_rfl) (fun _ _ _ h => h) (Or.inl ⟨by rfl, ?_⟩) (by assumption) ?_; rotate_left; (· (intro wq hq; (try dsimp only at hq); go_simp; first | done | with_reducible rfl)); simp only [Act.put, List.getElem_toArray, List.getElem_cons_zero, List.getElem_cons_succ, List.setIfInBounds_toArray, List.set_cons_zero, List.set_cons_succ])
   (refine' wpAnyH_take (i := 4) rfl (by kernel_rfl) (by kernel_rfl) (by kernel_rfl) (fun _ _ _ h => h) (Or.inl ⟨by rfl, ?_⟩) (by assumption) ?_; rotate_left; (· (intro wq hq; (try dsimp only at hq); go_simp; first | done | with_reducible rfl)); simp only [Act.put, List.getElem_toArray, List.getElem_cons_zero, List.getElem_cons_succ, List.setIfInBounds_toArray, List.set_cons_zero, List.set_cons_succ])
   (refine' wpAnyH_take (i := 5) rfl (by kernel_rfl) (by kernel_rfl) (by kernel_rfl) (fun _ _ _ h => h) (Or.inl ⟨by rfl, ?_⟩) (by assumption) ?_; rotate_left; (· (intro wq hq; (try dsimp only at hq); go_simp; first | done | with_reducible rfl)); simp only [Act.put, List.getElem_toArray, List.getElem_cons_zero, List.getElem_cons_succ, List.setIfInBounds_toArray, List.set_cons_zero, List.set_cons_succ])
   refine wpAnyH_ready (rs := [6, 8]) (by kernel_rfl) (by simp) ?_
   refine AllReadyH.cons rfl (fun K hK => ?_) ?_
   ·rw [if_pos (by rfl)]
    go_simp
    refine Calls.mono (hctx.out v0) ?_
    rintro e v1 ⟨rfl, hb⟩
    have A2b := hid (A2.out.keptAll hb)
    have R2b := hid (R2.out.keptAll hb)
    have B2b := hid (B2.out.trans (hb.mono (by rw [z2.out]; omega)))
    have zb : Hid (H + 2 ≤ v1.heap.size) := by have := hb.size; rw [z2.out] at this; exact this
    refine hK.out _ _ ⟨A2b.out.cell 0, A2b.out.cell 1, A2b.out.cell 2, A2b.out.cell 3, A2b.out.cell 4, A2b.out.cell 5⟩ (fun _ => ?_)
    clear hK K hb A2 R2 B2 hx0 hctx
    (refine' wpAnyH_take (i := 7) rfl (by kernel_rfl) (by kernel_rfl) (by kernel_rfl) (fun _ _ _ h => h) (Or.inl ⟨by rfl, ?_⟩) (by assumption) ?_; rotate_left; (· (intro wq hq; (try dsimp only at hq); go_simp; first | done | with_reducible rfl)); simp only [Act.put, List.getElem_toArray, List.getElem_cons_zero, List.getElem_cons_succ, List.setIfInBounds_toArray, List.set_cons_zero, List.set_cons_succ])
    refine wpAnyH_ready (rs := [8]) (by kernel_rfl) (by simp) ?_
    refine AllReadyH.cons rfl (fun K hK => ?_) ?_
    ·go_simp
     obtain ⟨v2, ev2⟩ : ∃ v, World.alloc v1 (.cells #[.int .i64 0, .bool false, .string ⟨#[]⟩, .string ⟨#[]⟩, .slice none 0 0, .slice none 0 0] 25) = v := ⟨_, rfl⟩
     have q2 : Below v1.heap.size v1 v2 := by rw [← ev2]; exact (Below.refl _ _).alloc (Nat.le_refl _) _
     have E3 := hid (show At v2 v1.heap.size #[.int .i64 0, .bool false, .string ⟨#[]⟩, .string ⟨#[]⟩, .slice none 0 0, .slice none 0 0] 25 by rw [← ev2]; exact At.new v1 _ _)
     have A3 := hid (A2b.out.keptAll q2)
     have R3 := hid (R2b.out.keptAll q2)
     have B3 := hid (B2b.out.trans (q2.mono (by have := zb.out; omega)))
     have hlb : Hid (H + 2 ≤ v1.heap.size) := zb.out
     rw [ev2]
     refine hK.out _ _ ⟨A3.out.cell 0, A3.out.cell 1, A3.out.cell 2, A3.out.cell 3, A3.out.cell 4, A3.out.cell 5⟩ (fun _ => ?_)
     clear hK K ev2 q2 A2b R2b B2b
     have d0 := E3.out.cell 0
     have d1 := E3.out.cell 1
     have d2 := E3.out.cell 2
     have d3 := E3.out.cell 3
     have d4 := E3.out.cell 4
     have d5 := E3.out.cell 5
     simp only [List.getElem?_toArray, List.getElem?_cons_zero, List.getElem?_cons_succ] at d0 d1 d2 d3 d4 d5
     have f0 := E3.out.frozen 0
     have f1 := E3.out.frozen 1
     have f2 := E3.out.frozen 2
     have f3 := E3.out.frozen 3
     have f4 := E3.out.frozen 4
     have f5 := E3.out.frozen 5
     refine wpAnyH_ready (rs := [9]) (by kernel_rfl) (by simp) ?_
     refine AllReadyH.cons rfl (fun K hK => ?_) ?_
     ·go_simp
      have E4 := hid (E3.out.six (y0 := .int .i64 k) (y1 := .bool b) (y2 := .string ⟨#[]⟩) (y3 := .string t) (y4 := .slice none 0 0) (y5 := .slice none 0 0))
      have hlo := hlb.out
      have A4 := hid (show At _ H #[.int .i64 k, .bool b, .string r, .string t, .slice ko N kc, .slice vo M vc] 25 from ((same_six (w := v2) (h := v1.heap.size) (y0 := .int .i64 k) (y1 := .bool b) (y2 := .string ⟨#[]⟩) (y3 := .string t) (y4 := .slice none 0 0) (y5 := .slice none 0 0)).2 H (by omega) A3.out.lt).trans A3.out)
      have R4 := hid (show At _ (H + 1) #[.int .i64 0, .bool false, .string ⟨#[]⟩, .string ⟨#[]⟩, .slice none 0 0, .slice none 0 0] 25 from ((same_six (w := v2) (h := v1.heap.size) (y0 := .int .i64 k) (y1 := .bool b) (y2 := .string ⟨#[]⟩) (y3 := .string t) (y4 := .slice none 0 0) (y5 := .slice none 0 0)).2 (H + 1) (by omega) R3.out.lt).trans R3.out)
      have B4 := hid (below_six B3.out (show H ≤ v1.heap.size by omega) (.int .i64 k) (.bool b) (.string ⟨#[]⟩) (.string t) (.slice none 0 0) (.slice none 0 0))
      have hsz4 : Hid (v1.heap.size + 1 ≤ ((((((v2.setCell ⟨v1.heap.size, 0, none⟩ (.int .i64 k)).setCell ⟨v1.heap.size, 1, none⟩ (.bool b)).setCell ⟨v1.heap.size, 2, none⟩ (.string ⟨#[]⟩)).setCell ⟨v1.heap.size, 3, none⟩ (.string t)).setCell ⟨v1.heap.size, 4, none⟩ (.slice none 0 0)).setCell ⟨v1.heap.size, 5, none⟩ (.slice none 0 0)).heap.size) := Nat.succ_le_of_lt (Nat.lt_of_lt_of_le E3.out.lt (same_six (w := v2) (h := v1.heap.size) (y0 := .int .i64 k) (y1 := .bool b) (y2 := .string ⟨#[]⟩) (y3 := .string t) (y4 := .slice none 0 0) (y5 := .slice none 0 0)).1)
      refine hK.out _ _ ⟨A4.out.cell 0, A4.out.cell 1, A4.out.cell 2, A4.out.cell 3, A4.out.cell 4, A4.out.cell 5⟩ (fun _ => ?_)
      clear hK K d0 f0 d1 f1 d2 f2 d3 f3 d4 f4 d5 f5
      refine wpAnyH_done (by kernel_rfl) ?_ _
      refine hKr _ _ ?_
      have hfin := hid (show CvS H w #[.int .i64 k, .bool b, .string r, .string t, .slice ko N kc, .slice vo M vc] k b ⟨#[]⟩ t (v1.heap.size) (.slice none 0 0) (.slice none 0 0) [] [] _ from ⟨A4.out, R4.out, E4.out, KeysG.nil _ _, KidsG.nil _ _ _, (fun g _ h => by cases h), hlo, hsz4.out, B4.out⟩)
      clear A3 R3 B3 E3 A4 R4 B4 E4 hsz4
      go_wp2
      go_meet
      case rel => exact ⟨_, rfl, hfin⟩
     exact AllReadyH.nil
    exact AllReadyH.nil
   refine AllReadyH.cons rfl (fun K hK => ?_) ?_
   ·go_simp
    obtain ⟨v1, ev1⟩ : ∃ v, World.alloc v0 (.cells #[.int .i64 0, .bool false, .string ⟨#[]⟩, .string ⟨#[]⟩, .slice none 0 0, .slice none 0 0] 25) = v := ⟨_, rfl⟩
    have q1 : Below v0.heap.size v0 v1 := by rw [← ev1]; exact (Below.refl _ _).alloc (Nat.le_refl _) _
    have E2 := hid (show At v1 v0.heap.size #[.int .i64 0, .bool false, .string ⟨#[]⟩, .string ⟨#[]⟩, .slice none 0 0, .slice none 0 0] 25 by rw [← ev1]; exact At.new v0 _ _)
    have A2b := hid (A2.out.keptAll q1)
    have R2b := hid (R2.out.keptAll q1)
    have B2b := hid (B2.out.trans (q1.mono (by rw [z2.out]; omega)))
    have zb : Hid (H + 2 ≤ v1.heap.size) := by have := q1.size; rw [z2.out] at this; exact this
    rw [ev1]
    refine hK.out _ _ ⟨A2b.out.cell 0, A2b.out.cell 1, A2b.out.cell 2, A2b.out.cell 3, A2b.out.cell 4, A2b.out.cell 5⟩ (fun _ => ?_)
    clear hK K ev1 q1 A2 R2 B2 hx0
    refine wpAnyH_ready (rs := [6]) (by kernel_rfl) (by simp) ?_
    refine AllReadyH.cons rfl (fun K hK => ?_) ?_
    ·rw [if_pos (by rfl)]
     go_simp
     refine Calls.mono (hctx.out v1) ?_
     rintro e v2 ⟨rfl, hb⟩
     have A3 := hid (A2b.out.keptAll hb)
     have R3 := hid (R2b.out.keptAll hb)
     have E3 := hid (E2.out.keptAll hb)
     have B3 := hid (B2b.out.trans (hb.mono (by have := zb.out; omega)))
     have hlb : Hid (H + 2 ≤ v0.heap.size) := Nat.le_of_eq z2.out.symm
     refine hK.out _ _ ⟨A3.out.cell 0, A3.out.cell 1, A3.out.cell 2, A3.out.cell 3, A3.out.cell 4, A3.out.cell 5⟩ (fun _ => ?_)
     clear hK K hb A2b R2b B2b E2 hctx
     (refine' wpAnyH_take (i := 7) rfl (by kernel_rfl) (by kernel_rfl) (by kernel_rfl) (fun _ _ _ h => h) (Or.inl ⟨by rfl, ?_⟩) (by assumption) ?_; rotate_left; (· (intro wq hq; (try dsimp only at hq); go_simp; first | done | with_reducible rfl)); simp only [Act.put, List.getElem_toArray, List.getElem_cons_zero, List.getElem_cons_succ, List.setIfInBounds_toArray, List.set_cons_zero, List.set_cons_succ])
     have d0 := E3.out.cell 0
     have d1 := E3.out.cell 1
     have d2 := E3.out.cell 2
     have d3 := E3.out.cell 3
     have d4 := E3.out.cell 4
     have d5 := E3.out.cell 5
     simp only [List.getElem?_toArray, List.getElem?_cons_zero, List.getElem?_cons_succ] at d0 d1 d2 d3 d4 d5
     have f0 := E3.out.frozen 0
     have f1 := E3.out.frozen 1
     have f2 := E3.out.frozen 2
     have f3 := E3.out.frozen 3
     have f4 := E3.out.frozen 4
     have f5 := E3.out.frozen 5
     refine wpAnyH_ready (rs := [9]) (by kernel_rfl) (by simp) ?_
     refine AllReadyH.cons rfl (fun K hK => ?_) ?_
     ·go_simp
      have E4 := hid (E3.out.six (y0 := .int .i64 k) (y1 := .bool b) (y2 := .string ⟨#[]⟩) (y3 := .string t) (y4 := .slice none 0 0) (y5 := .slice none 0 0))
      have hlo := hlb.out
      have A4 := hid (show At _ H #[.int .i64 k, .bool b, .string r, .string t, .slice ko N kc, .slice vo M vc] 25 from ((same_six (w := v2) (h := v0.heap.size) (y0 := .int .i64 k) (y1 := .bool b) (y2 := .string ⟨#[]⟩) (y3 := .string t) (y4 := .slice none 0 0) (y5 := .slice none 0 0)).2 H (by omega) A3.out.lt).trans A3.out)
      have R4 := hid (show At _ (H + 1) #[.int .i64 0, .bool false, .string ⟨#[]⟩, .string ⟨#[]⟩, .slice none 0 0, .slice none 0 0] 25 from ((same_six (w := v2) (h := v0.heap.size) (y0 := .int .i64 k) (y1 := .bool b) (y2 := .string ⟨#[]⟩) (y3 := .string t) (y4 := .slice none 0 0) (y5 := .slice none 0 0)).2 (H + 1) (by omega) R3.out.lt).trans R3.out)
      have B4 := hid (below_six B3.out (show H ≤ v0.heap.size by omega) (.int .i64 k) (.bool b) (.string ⟨#[]⟩) (.string t) (.slice none 0 0) (.slice none 0 0))
      have hsz4 : Hid (v0.heap.size + 1 ≤ ((((((v2.setCell ⟨v0.heap.size, 0, none⟩ (.int .i64 k)).setCell ⟨v0.heap.size, 1, none⟩ (.bool b)).setCell ⟨v0.heap.size, 2, none⟩ (.string ⟨#[]⟩)).setCell ⟨v0.heap.size, 3, none⟩ (.string t)).setCell ⟨v0.heap.size, 4, none⟩ (.slice none 0 0)).setCell ⟨v0.heap.size, 5, none⟩ (.slice none 0 0)).heap.size) := Nat.succ_le_of_lt (Nat.lt_of_lt_of_le E3.out.lt (same_six (w := v2) (h := v0.heap.size) (y0 := .int .i64 k) (y1 := .bool b) (y2 := .string ⟨#[]⟩) (y3 := .string t) (y4 := .slice none 0 0) (y5 := .slice none 0 0)).1)
      refine hK.out _ _ ⟨A4.out.cell 0, A4.out.cell 1, A4.out.cell 2, A4.out.cell 3, A4.out.cell 4, A4.out.cell 5⟩ (fun _ => ?_)
      clear hK K d0 f0 d1 f1 d2 f2 d3 f3 d4 f4 d5 f5
      refine wpAnyH_done (by kernel_rfl) ?_ _
      refine hKr _ _ ?_
      have hfin := hid (show CvS H w #[.int .i64 k, .bool b, .string r, .string t, .slice ko N kc, .slice vo M vc] k b ⟨#[]⟩ t (v0.heap.size) (.slice none 0 0) (.slice none 0 0) [] [] _ from ⟨A4.out, R4.out, E4.out, KeysG.nil _ _, KidsG.nil _ _ _, (fun g _ h => by cases h), hlo, hsz4.out, B4.out⟩)
      clear A3 R3 B3 E3 A4 R4 B4 E4 hsz4
      go_wp2
      go_meet
      case rel => exact ⟨_, rfl, hfin⟩
     exact AllReadyH.nil
    exact AllReadyH.nil
   exact AllReadyH.nil
  case rest =>
   obtain ⟨bx, rfl, hC0⟩ := hcut
   clear A1 R1 B1 z1 hctx
   have c0 : wc.cell? ⟨H, 0, none⟩ = some (.int .i64 k) := hC0.out.src.cell 0
   by_cases h3 : k = 3
   ·subst h3
    obtain ⟨S, hS⟩ : ∃ S, Hid (nrmN r = S) := ⟨_, hid rfl⟩
    have hnv : Hid (NV = .mk 3 b S t [] []) := by
     show _ = _
     rw [← hNV.out]
     unfold nrmV
     rw [hS.out]
     simp
    have hSz := nrmN_size r
    rw [hS.out] at hSz
    have hBw : Below w.heap.size w wc := by rw [hH.out]; exact hC0.out.bel
    have hnn := hid (nnum_calls r hr32 S hS wc (hP'.out.kept hBw))
    have c2 : wc.cell? ⟨H, 2, none⟩ = some (.string r) := hC0.out.src.cell 2
    clear hBw
    go_wp2_with fail
    refine Calls.mono hnn.out ?_
    rintro e w2 ⟨rfl, hb⟩
    have C1 := hid (hC0.out.kept hb)
    have C2 := hid (C1.out.raw S)
    have f2 := C1.out.box.frozen 2
    have c2b : w2.cell? ⟨bx, 2, none⟩ = some (.string ⟨#[]⟩) := C1.out.box.cell 2
    clear c0 c2 hb hC0 C1 hnn
    go_upto_region 18 with fail
    clear f2 c2b
    generalize w2.setCell ⟨bx, 2, none⟩ (.string S) = W3 at C2 ⊢
    obtain ⟨y1, y2, hV⟩ := C2.out.done hw'.out ⟨by unfold capT; omega, hz'.out.2.1, Nat.zero_le _, Nat.zero_le _⟩
    have hV' := hid hV
    clear y1 y2 hV
    have e0 := C2.out.box.cell 0
    have e1 := C2.out.box.cell 1
    have e2 := C2.out.box.cell 2
    have e3 := C2.out.box.cell 3
    have e4 := C2.out.box.cell 4
    have e5 := C2.out.box.cell 5
    simp only [List.getElem?_toArray, List.getElem?_cons_zero, List.getElem?_cons_succ] at e0 e1 e2 e3 e4 e5
    have g0 := C2.out.res.cell 0
    have g1 := C2.out.res.cell 1
    have g2 := C2.out.res.cell 2
    have g3 := C2.out.res.cell 3
    have g4 := C2.out.res.cell 4
    have g5 := C2.out.res.cell 5
    simp only [List.getElem?_toArray, List.getElem?_cons_zero, List.getElem?_cons_succ] at g0 g1 g2 g3 g4 g5
    have f0 := C2.out.res.frozen 0
    have f1 := C2.out.res.frozen 1
    have f2 := C2.out.res.frozen 2
    have f3 := C2.out.res.frozen 3
    have f4 := C2.out.res.frozen 4
    have f5 := C2.out.res.frozen 5
    go_wp2
    refine ret_val1 (p := 2) rfl rfl (C2.out.res.six) rfl ?_
    have hpw := hH.out
    rw [hnv.out]
    refine ⟨_, rfl, ?_, ?_⟩
    ·refine hV'.out.kept (fun c _ hc => ?_) ⟨same_six.1, fun c hc hl => same_six.2 c ?_ hl⟩
     ·show w.heap.size ≤ c
      have : H + 2 ≤ c := hc
      omega
     ·show c ≠ H + 1
      have : H + 2 ≤ c := hc
      omega
    ·rw [hH.out]
     exact below_six C2.out.bel (Nat.le_succ _) _ _ _ _ _ _
   ·by_cases h5 : k = 5
    ·subst h5
     have c5 : wc.cell? ⟨H, 5, none⟩ = some (.slice vo M vc) := hC0.out.src.cell 5
     go_wp2
     clear c0 c5
     go_loopw [29, 5] (fun ii _ wr => ∃ (q cap : Nat) (so : Option Addr), q ≤ M ∧ ii = .int .i64 (q : Int) ∧ Hid (CvS H w #[.int .i64 5, .bool b, .string r, .string t, .slice ko N kc, .slice vo M vc] 5 b ⟨#[]⟩ t bx (.slice none 0 0) (.slice so q cap) [] (nrmL od (vs.take q)) wr)) (fun ii _ _ => M - (intOf ii).toNat)
     case atStart => exact ⟨0, 0, none, Nat.zero_le _, rfl, by simpa [nrmL] using hC0⟩
     case round =>
      clear hC0
      obtain ⟨q, cap, so, hqM, rfl, hC⟩ := hrel
      have hln : Hid ((nrmL od (vs.take q)).length = q) := by show _ = _; rw [nrmL_map, List.length_map, List.length_take, hM.out]; omega
      by_cases hq : q < M
      ·have hqi : (q : Int) < (M : Int) := by omega
       have hlv : q < vs.length := by rw [hM.out]; exact hq
       obtain ⟨u, hu⟩ : ∃ u, vs[q]? = some u := ⟨_, List.getElem?_eq_getElem hlv⟩
       have hBw : Below w.heap.size w wr := by rw [hH.out]; exact hC.out.bel
       obtain ⟨g, o, rfl, hg, hrg, -⟩ := row_range (hr'.out.kept hBw) (i := q) hlv
       obtain ⟨LX, hLX⟩ : ∃ L, (X q).toList = L := ⟨_, rfl⟩
       rw [hLX] at hrg
       have hVu : ValAt w u (.agg LX.toArray) := by
        have := hv'.out q u hu
        rw [← hLX, Array.toArray_toList]
        exact this
       obtain ⟨k1, b1, r1, t1, ko1, N1, kc1, vo1, M1, vc1, rfl⟩ := hVu.six
       have hrgk := hid hrg
       have z1 : (Tryz.prog.info? 25).map (·.size) = some ([.int .i64 k1, .bool b1, .string r1, .string t1, .slice ko1 N1 kc1, .slice vo1 M1 vc1] : List Value).length := sizeVl
       have hsu := kid_size (k := 5) (b := b) (r := r) (t := t) (ks := ks) hu
       obtain ⟨u', hu'⟩ : ∃ u', Hid (nrmV od u = u') := ⟨_, hid rfl⟩
       have hkid := hid (fun x0 h1 h2 => ih'.out u (by have := hs'.out; omega) (lnL_get hln'.out hu) (noOL_get hno'.out hu) (.agg #[.int .i64 k1, .bool b1, .string r1, .string t1, .slice ko1 N1 kc1, .slice vo1 M1 vc1]) x0 h1 h2)
       rw [hu'.out] at hkid
       have hVw := hid (show ValAt w u (.agg #[.int .i64 k1, .bool b1, .string r1, .string t1, .slice ko1 N1 kc1, .slice vo1 M1 vc1]) from hVu)
       have hts : Hid (nrmL od (vs.take (q + 1)) = nrmL od (vs.take q) ++ [u']) := by
        show _ = _
        rw [List.take_add_one, hu, nrmL_map, nrmL_map, List.map_append, ← hu'.out]
        rfl
       clear hrg hVu hLX hBw hsu hu
       have q5 : Below wr.heap.size wr (wr.alloc (.cells #[.int .i64 k1, .bool b1, .string r1, .string t1, .slice ko1 N1 kc1, .slice vo1 M1 vc1] 25)) := (Below.refl _ _).alloc (Nat.le_refl _) _
       have s5 := hid (hC.out.kept q5)
       have E5 := hid (At.new wr #[.int .i64 k1, .bool b1, .string r1, .string t1, .slice ko1 N1 kc1, .slice vo1 M1 vc1] 25)
       have hne : Hid ((Value.slice so q cap).ownBlock ≠ some wr.heap.size) := fun e => by have := (hC.out.kids.blk e).2; omega
       have hbp : Hid (wr.heap.size ≠ bx) := by have := hC.out.sz; show _ ≠ _; omega
       clear q5 hC
       go_upto_region 9 with (refine wpList_load_want 25 _ g (o + q * 6) [.int .i64 k1, .bool b1, .string r1, .string t1, .slice ko1 N1 kc1, .slice vo1 M1 vc1] _ hrgk.out Tryz.underlying25 z1 rfl rfl rfl (by rfl) ?_)
       clear hrgk z1
       generalize wr.alloc (.cells #[.int .i64 k1, .bool b1, .string r1, .string t1, .slice ko1 N1 kc1, .slice vo1 M1 vc1] 25) = W5 at s5 E5 ⊢
       obtain ⟨pe, hpe⟩ : ∃ x, wr.heap.size = x := ⟨_, rfl⟩
       rw [hpe] at E5 hne hbp ⊢
       clear hpe
       rename_i Kr hKr
       have hx0 : (World.drew W5).cell? ⟨pe, 0, none⟩ = some (.int .i64 k1) ∧ (World.drew W5).cell? ⟨pe, 1, none⟩ = some (.bool b1) ∧ (World.drew W5).cell? ⟨pe, 2, none⟩ = some (.string r1) ∧ (World.drew W5).cell? ⟨pe, 3, none⟩ = some (.string t1) ∧ (World.drew W5).cell? ⟨pe, 4, none⟩ = some (.slice ko1 N1 kc1) ∧ (World.drew W5).cell? ⟨pe, 5, none⟩ = some (.slice vo1 M1 vc1) := ⟨E5.out.cell 0, E5.out.cell 1, E5.out.cell 2, E5.out.cell 3, E5.out.cell 4, E5.out.cell 5⟩
       refine wp_region_held_drew (S := fun w' => w'.cell? ⟨pe, 0, none⟩ = some (.int .i64 k1) ∧ w'.cell? ⟨pe, 1, none⟩ = some (.bool b1) ∧ w'.cell? ⟨pe, 2, none⟩ = some (.string r1) ∧ w'.cell? ⟨pe, 3, none⟩ = some (.string t1) ∧ w'.cell? ⟨pe, 4, none⟩ = some (.slice ko1 N1 kc1) ∧ w'.cell? ⟨pe, 5, none⟩ = some (.slice vo1 M1 vc1)) (by kernel_rfl) hx0 (fun hHeld => ?_)
       have s0 := hid (s5.out.kept (Below.refl _ _).drew)
       have E0 := hid (E5.out.keptAll (Below.refl _ _).drew)
       obtain ⟨x0, ex0⟩ : ∃ x, World.drew W5 = x := ⟨_, rfl⟩
       rw [ex0] at s0 E0 hx0 ⊢
       clear ex0 s5 E5
       (refine' wpAnyH_take (i := 0) rfl (by kernel_rfl) (by kernel_rfl) (by kernel_rfl) (fun _ _ _ h => h) (Or.inl ⟨by rfl, ?_⟩) (by assumption) ?_; rotate_left; (· (intro wq hq; (try dsimp only at hq); go_simp; first | done | with_reducible rfl)); simp only [Act.put, List.getElem_toArray, List.getElem_cons_zero, List.setIfInBounds_toArray, List.set_cons_zero, List.set_cons_succ])
       (refine' wpAnyH_take (i := 2) rfl (by kernel_rfl) (by kernel_rfl) (by kernel_rfl) (fun _ _ _ h => h) (Or.inl ⟨by rfl, ?_⟩) (by assumption) ?_; rotate_left; (· (intro wq hq; (try dsimp only at hq); go_simp; first | done | with_reducible rfl)); simp only [Act.put, List.getElem_toArray, List.getElem_cons_zero, List.getElem_cons_succ, List.setIfInBounds_toArray, List.set_cons_zero, List.set_cons_succ])
       refine wpAnyH_ready (rs := [1, 3]) (by kernel_rfl) (by simp) ?_
       refine AllReadyH.cons rfl (fun K hK => ?_) ?_
       ·have t5 : x0.cell? ⟨bx, 5, none⟩ = some (.slice so q cap) := s0.out.box.cell 5
        go_simp
        clear t5
        refine hK.out _ _ ⟨E0.out.cell 0, E0.out.cell 1, E0.out.cell 2, E0.out.cell 3, E0.out.cell 4, E0.out.cell 5⟩ (fun _ => ?_)
        clear hK K
        refine wpAnyH_ready (rs := [3]) (by kernel_rfl) (by simp) ?_
        refine AllReadyH.cons rfl (fun K hK => ?_) ?_
        ·rw [if_pos (by rfl)]
         go_simp
         have hBw : Below w.heap.size w x0 := by rw [hH.out]; exact s0.out.bel
         refine Calls.mono (hkid.out x0 (hVw.out.kept hBw) (hP'.out.kept hBw)) ?_
         rintro e x1 ⟨xv, rfl, hV, hb⟩
         obtain ⟨ko2, kc2, vo2, vc2, rfl⟩ := hV.six
         have hz0 := s0.out.sz
         have V1 := hid (hV.mono (S' := fun c => bx + 1 ≤ c ∧ (Value.slice so q cap).ownBlock ≠ some c ∧ (Value.slice none 0 0).ownBlock ≠ some c) (fun c _ hc => ⟨Nat.le_trans hz0 hc, fun e => absurd (s0.out.kids.blk e).2 (Nat.not_lt.2 hc), fun e => by cases e⟩))
         have s1 := hid (s0.out.kept hb)
         have E1 := hid (E0.out.keptAll hb)
         clear hV hz0 s0 E0 hb hBw
         refine hK.out _ _ ⟨E1.out.cell 0, E1.out.cell 1, E1.out.cell 2, E1.out.cell 3, E1.out.cell 4, E1.out.cell 5⟩ (fun _ => ?_)
         clear hK K
         refine wpAnyH_ready (rs := [4]) (by kernel_rfl) (by simp) ?_
         refine AllReadyH.cons rfl (fun K hK => ?_) ?_
         ·go_simp
          obtain ⟨x2, ex⟩ : ∃ x, World.alloc x1 (.cells #[.int .i64 u'.kind, .bool u'.b, .string u'.raw, .string u'.text, .slice ko2 u'.keys.length kc2, .slice vo2 u'.kids.length vc2] 25) = x := ⟨_, rfl⟩
          have qz : Below x1.heap.size x1 x2 := by rw [← ex]; exact (Below.refl _ _).alloc (Nat.le_refl _) _
          have hpz := hid (show At x2 x1.heap.size #[.int .i64 u'.kind, .bool u'.b, .string u'.raw, .string u'.text, .slice ko2 u'.keys.length kc2, .slice vo2 u'.kids.length vc2] 25 by rw [← ex]; exact At.new x1 _ _)
          rw [ex]
          obtain ⟨pz, ep⟩ : ∃ z, x1.heap.size = z := ⟨_, rfl⟩
          have s2 := hid (s1.out.kept qz)
          have V2 := hid (V1.out.keptB qz)
          have E2 := hid (E1.out.keptAll qz)
          rw [ep] at hpz ⊢
          clear ex ep qz
          refine hK.out _ _ ⟨E2.out.cell 0, E2.out.cell 1, E2.out.cell 2, E2.out.cell 3, E2.out.cell 4, E2.out.cell 5⟩ (fun _ => ?_)
          clear hK K
          obtain ⟨nv, y, hrun, hk1, hgr, hap⟩ := (s2.out.kids).app V2.out ⟨pz, 0, none⟩ 1 (fun j y hj => by rw [show (⟨pz, 0, none⟩ : Addr).add j = ⟨pz, j, none⟩ by by_cases h : j = 0 <;> simp [Addr.add, h]]; rw [hpz.out.cell j]; exact hj) (by rw [hln.out]; omega) s2.out.sz
          obtain ⟨no, nc, rfl⟩ := hk1.shape
          have hrun' := hid hrun
          have fin := hid (s2.out.kid hk1 hgr hap)
          have hnn : (nrmL od (vs.take q) ++ [u']).length = q + 1 := by rw [List.length_append, hln.out, List.length_singleton]
          rw [hnn] at hrun' fin
          have E3 := hid (show At y pe #[.int .i64 k1, .bool b1, .string r1, .string t1, .slice ko1 N1 kc1, .slice vo1 M1 vc1] 25 from (hgr.block pe E2.out.lt (fun e => hne.out e.symm)).trans E2.out)
          have hbx := (s2.out.low hgr (Nat.le_refl _)).trans s2.out.box
          have t5 : y.cell? ⟨bx, 5, none⟩ = some (.slice so q cap) := At.cell hbx 5
          have f5 := At.frozen hbx 5
          have E4 := hid (E3.out.other (p := ⟨bx, 5, none⟩) hbp.out (.slice no (q + 1) nc))
          clear hrun hk1 hgr hap hbx hnn
          refine wpAnyH_ready (rs := [5]) (by kernel_rfl) (by simp) ?_
          refine AllReadyH.cons rfl (fun K hK => ?_) ?_
          ·rw [if_pos (by rfl)]
           refine wp_append_rowN rfl rfl rfl hrun'.out ?_
           refine hK.out _ _ ⟨E3.out.cell 0, E3.out.cell 1, E3.out.cell 2, E3.out.cell 3, E3.out.cell 4, E3.out.cell 5⟩ (fun _ => ?_)
           clear hK K
           (refine' wpAnyH_take (i := 6) rfl (by kernel_rfl) (by kernel_rfl) (by kernel_rfl) (fun _ _ _ h => h) (Or.inl ⟨by rfl, ?_⟩) (by assumption) ?_; rotate_left; (· (intro wq hq; (try dsimp only at hq); go_simp; first | done | with_reducible rfl)); simp only [Act.put, List.getElem_toArray, List.getElem_cons_zero, List.getElem_cons_succ, List.setIfInBounds_toArray, List.set_cons_zero, List.set_cons_succ])
           refine wpAnyH_ready (rs := [7]) (by kernel_rfl) (by simp) ?_
           refine AllReadyH.cons rfl (fun K hK => ?_) ?_
           ·go_simp
            refine hK.out _ _ ⟨E4.out.cell 0, E4.out.cell 1, E4.out.cell 2, E4.out.cell 3, E4.out.cell 4, E4.out.cell 5⟩ (fun _ => ?_)
            clear hK K
            refine wpAnyH_done (by kernel_rfl) ?_ _
            refine hKr _ _ ?_
            obtain ⟨z, ez⟩ : ∃ z, World.setCell y ⟨bx, 5, none⟩ (.slice no (q + 1) nc) = z := ⟨_, rfl⟩
            rw [ez] at fin ⊢
            clear ez hrun' t5 f5 s2 hpz hHeld V2 E2 E3 E4
            rw [← hts.out] at fin
            go_wp2
            go_roundw
            case rel => exact ⟨q + 1, nc, no, by omega, by simp, fin⟩
            case measure => simp [intOf]; omega
           exact AllReadyH.nil
          exact AllReadyH.nil
         exact AllReadyH.nil
        exact AllReadyH.nil
       refine AllReadyH.cons rfl (fun K hK => ?_) ?_
       ·rw [if_pos (by rfl)]
        go_simp
        have hBw : Below w.heap.size w x0 := by rw [hH.out]; exact s0.out.bel
        refine Calls.mono (hkid.out x0 (hVw.out.kept hBw) (hP'.out.kept hBw)) ?_
        rintro e x1 ⟨xv, rfl, hV, hb⟩
        obtain ⟨ko2, kc2, vo2, vc2, rfl⟩ := hV.six
        have hz0 := s0.out.sz
        have V1 := hid (hV.mono (S' := fun c => bx + 1 ≤ c ∧ (Value.slice so q cap).ownBlock ≠ some c ∧ (Value.slice none 0 0).ownBlock ≠ some c) (fun c _ hc => ⟨Nat.le_trans hz0 hc, fun e => absurd (s0.out.kids.blk e).2 (Nat.not_lt.2 hc), fun e => by cases e⟩))
        have s1 := hid (s0.out.kept hb)
        have E1 := hid (E0.out.keptAll hb)
        clear hV hz0 s0 E0 hb hBw
        refine hK.out _ _ ⟨E1.out.cell 0, E1.out.cell 1, E1.out.cell 2, E1.out.cell 3, E1.out.cell 4, E1.out.cell 5⟩ (fun _ => ?_)
        clear hK K
        refine wpAnyH_ready (rs := [1, 4]) (by kernel_rfl) (by simp) ?_
        refine AllReadyH.cons rfl (fun K hK => ?_) ?_
        ·have t5 : x1.cell? ⟨bx, 5, none⟩ = some (.slice so q cap) := s1.out.box.cell 5
         go_simp
         clear t5
         refine hK.out _ _ ⟨E1.out.cell 0, E1.out.cell 1, E1.out.cell 2, E1.out.cell 3, E1.out.cell 4, E1.out.cell 5⟩ (fun _ => ?_)
         clear hK K
         refine wpAnyH_ready (rs := [4]) (by kernel_rfl) (by simp) ?_
         refine AllReadyH.cons rfl (fun K hK => ?_) ?_
         ·go_simp
          obtain ⟨x2, ex⟩ : ∃ x, World.alloc x1 (.cells #[.int .i64 u'.kind, .bool u'.b, .string u'.raw, .string u'.text, .slice ko2 u'.keys.length kc2, .slice vo2 u'.kids.length vc2] 25) = x := ⟨_, rfl⟩
          have qz : Below x1.heap.size x1 x2 := by rw [← ex]; exact (Below.refl _ _).alloc (Nat.le_refl _) _
          have hpz := hid (show At x2 x1.heap.size #[.int .i64 u'.kind, .bool u'.b, .string u'.raw, .string u'.text, .slice ko2 u'.keys.length kc2, .slice vo2 u'.kids.length vc2] 25 by rw [← ex]; exact At.new x1 _ _)
          rw [ex]
          obtain ⟨pz, ep⟩ : ∃ z, x1.heap.size = z := ⟨_, rfl⟩
          have s2 := hid (s1.out.kept qz)
          have V2 := hid (V1.out.keptB qz)
          have E2 := hid (E1.out.keptAll qz)
          rw [ep] at hpz ⊢
          clear ex ep qz
          refine hK.out _ _ ⟨E2.out.cell 0, E2.out.cell 1, E2.out.cell 2, E2.out.cell 3, E2.out.cell 4, E2.out.cell 5⟩ (fun _ => ?_)
          clear hK K
          obtain ⟨nv, y, hrun, hk1, hgr, hap⟩ := (s2.out.kids).app V2.out ⟨pz, 0, none⟩ 1 (fun j y hj => by rw [show (⟨pz, 0, none⟩ : Addr).add j = ⟨pz, j, none⟩ by by_cases h : j = 0 <;> simp [Addr.add, h]]; rw [hpz.out.cell j]; exact hj) (by rw [hln.out]; omega) s2.out.sz
          obtain ⟨no, nc, rfl⟩ := hk1.shape
          have hrun' := hid hrun
          have fin := hid (s2.out.kid hk1 hgr hap)
          have hnn : (nrmL od (vs.take q) ++ [u']).length = q + 1 := by rw [List.length_append, hln.out, List.length_singleton]
          rw [hnn] at hrun' fin
          have E3 := hid (show At y pe #[.int .i64 k1, .bool b1, .string r1, .string t1, .slice ko1 N1 kc1, .slice vo1 M1 vc1] 25 from (hgr.block pe E2.out.lt (fun e => hne.out e.symm)).trans E2.out)
          have hbx := (s2.out.low hgr (Nat.le_refl _)).trans s2.out.box
          have t5 : y.cell? ⟨bx, 5, none⟩ = some (.slice so q cap) := At.cell hbx 5
          have f5 := At.frozen hbx 5
          have E4 := hid (E3.out.other (p := ⟨bx, 5, none⟩) hbp.out (.slice no (q + 1) nc))
          clear hrun hk1 hgr hap hbx hnn
          refine wpAnyH_ready (rs := [5]) (by kernel_rfl) (by simp) ?_
          refine AllReadyH.cons rfl (fun K hK => ?_) ?_
          ·rw [if_pos (by rfl)]
           refine wp_append_rowN rfl rfl rfl hrun'.out ?_
           refine hK.out _ _ ⟨E3.out.cell 0, E3.out.cell 1, E3.out.cell 2, E3.out.cell 3, E3.out.cell 4, E3.out.cell 5⟩ (fun _ => ?_)
           clear hK K
           (refine' wpAnyH_take (i := 6) rfl (by kernel_rfl) (by kernel_rfl) (by kernel_rfl) (fun _ _ _ h => h) (Or.inl ⟨by rfl, ?_⟩) (by assumption) ?_; rotate_left; (· (intro wq hq; (try dsimp only at hq); go_simp; first | done | with_reducible rfl)); simp only [Act.put, List.getElem_toArray, List.getElem_cons_zero, List.getElem_cons_succ, List.setIfInBounds_toArray, List.set_cons_zero, List.set_cons_succ])
           refine wpAnyH_ready (rs := [7]) (by kernel_rfl) (by simp) ?_
           refine AllReadyH.cons rfl (fun K hK => ?_) ?_
           ·go_simp
            refine hK.out _ _ ⟨E4.out.cell 0, E4.out.cell 1, E4.out.cell 2, E4.out.cell 3, E4.out.cell 4, E4.out.cell 5⟩ (fun _ => ?_)
            clear hK K
            refine wpAnyH_done (by kernel_rfl) ?_ _
            refine hKr _ _ ?_
            obtain ⟨z, ez⟩ : ∃ z, World.setCell y ⟨bx, 5, none⟩ (.slice no (q + 1) nc) = z := ⟨_, rfl⟩
            rw [ez] at fin ⊢
            clear ez hrun' t5 f5 s2 hpz hHeld V2 E2 E3 E4
            rw [← hts.out] at fin
            go_wp2
            go_roundw
            case rel => exact ⟨q + 1, nc, no, by omega, by simp, fin⟩
            case measure => simp [intOf]; omega
           exact AllReadyH.nil
          exact AllReadyH.nil
         exact AllReadyH.nil
        refine AllReadyH.cons rfl (fun K hK => ?_) ?_
        ·go_simp
         obtain ⟨x2, ex⟩ : ∃ x, World.alloc x1 (.cells #[.int .i64 u'.kind, .bool u'.b, .string u'.raw, .string u'.text, .slice ko2 u'.keys.length kc2, .slice vo2 u'.kids.length vc2] 25) = x := ⟨_, rfl⟩
         have qz : Below x1.heap.size x1 x2 := by rw [← ex]; exact (Below.refl _ _).alloc (Nat.le_refl _) _
         have hpz := hid (show At x2 x1.heap.size #[.int .i64 u'.kind, .bool u'.b, .string u'.raw, .string u'.text, .slice ko2 u'.keys.length kc2, .slice vo2 u'.kids.length vc2] 25 by rw [← ex]; exact At.new x1 _ _)
         rw [ex]
         obtain ⟨pz, ep⟩ : ∃ z, x1.heap.size = z := ⟨_, rfl⟩
         have s2 := hid (s1.out.kept qz)
         have V2 := hid (V1.out.keptB qz)
         have E2 := hid (E1.out.keptAll qz)
         rw [ep] at hpz ⊢
         clear ex ep qz
         refine hK.out _ _ ⟨E2.out.cell 0, E2.out.cell 1, E2.out.cell 2, E2.out.cell 3, E2.out.cell 4, E2.out.cell 5⟩ (fun _ => ?_)
         clear hK K
         refine wpAnyH_ready (rs := [1]) (by kernel_rfl) (by simp) ?_
         refine AllReadyH.cons rfl (fun K hK => ?_) ?_
         ·have t5 : x2.cell? ⟨bx, 5, none⟩ = some (.slice so q cap) := s2.out.box.cell 5
          go_simp
          clear t5
          refine hK.out _ _ ⟨E2.out.cell 0, E2.out.cell 1, E2.out.cell 2, E2.out.cell 3, E2.out.cell 4, E2.out.cell 5⟩ (fun _ => ?_)
          clear hK K
          obtain ⟨nv, y, hrun, hk1, hgr, hap⟩ := (s2.out.kids).app V2.out ⟨pz, 0, none⟩ 1 (fun j y hj => by rw [show (⟨pz, 0, none⟩ : Addr).add j = ⟨pz, j, none⟩ by by_cases h : j = 0 <;> simp [Addr.add, h]]; rw [hpz.out.cell j]; exact hj) (by rw [hln.out]; omega) s2.out.sz
          obtain ⟨no, nc, rfl⟩ := hk1.shape
          have hrun' := hid hrun
          have fin := hid (s2.out.kid hk1 hgr hap)
          have hnn : (nrmL od (vs.take q) ++ [u']).length = q + 1 := by rw [List.length_append, hln.out, List.length_singleton]
          rw [hnn] at hrun' fin
          have E3 := hid (show At y pe #[.int .i64 k1, .bool b1, .string r1, .string t1, .slice ko1 N1 kc1, .slice vo1 M1 vc1] 25 from (hgr.block pe E2.out.lt (fun e => hne.out e.symm)).trans E2.out)
          have hbx := (s2.out.low hgr (Nat.le_refl _)).trans s2.out.box
          have t5 : y.cell? ⟨bx, 5, none⟩ = some (.slice so q cap) := At.cell hbx 5
          have f5 := At.frozen hbx 5
          have E4 := hid (E3.out.other (p := ⟨bx, 5, none⟩) hbp.out (.slice no (q + 1) nc))
          clear hrun hk1 hgr hap hbx hnn
          refine wpAnyH_ready (rs := [5]) (by kernel_rfl) (by simp) ?_
          refine AllReadyH.cons rfl (fun K hK => ?_) ?_
          ·rw [if_pos (by rfl)]
           refine wp_append_rowN rfl rfl rfl hrun'.out ?_
           refine hK.out _ _ ⟨E3.out.cell 0, E3.out.cell 1, E3.out.cell 2, E3.out.cell 3, E3.out.cell 4, E3.out.cell 5⟩ (fun _ => ?_)
           clear hK K
           (refine' wpAnyH_take (i := 6) rfl (by kernel_rfl) (by kernel_rfl) (by kernel_rfl) (fun _ _ _ h => h) (Or.inl ⟨by rfl, ?_⟩) (by assumption) ?_; rotate_left; (· (intro wq hq; (try dsimp only at hq); go_simp; first | done | with_reducible rfl)); simp only [Act.put, List.getElem_toArray, List.getElem_cons_zero, List.getElem_cons_succ, List.setIfInBounds_toArray, List.set_cons_zero, List.set_cons_succ])
           refine wpAnyH_ready (rs := [7]) (by kernel_rfl) (by simp) ?_
           refine AllReadyH.cons rfl (fun K hK => ?_) ?_
           ·go_simp
            refine hK.out _ _ ⟨E4.out.cell 0, E4.out.cell 1, E4.out.cell 2, E4.out.cell 3, E4.out.cell 4, E4.out.cell 5⟩ (fun _ => ?_)
            clear hK K
            refine wpAnyH_done (by kernel_rfl) ?_ _
            refine hKr _ _ ?_
            obtain ⟨z, ez⟩ : ∃ z, World.setCell y ⟨bx, 5, none⟩ (.slice no (q + 1) nc) = z := ⟨_, rfl⟩
            rw [ez] at fin ⊢
            clear ez hrun' t5 f5 s2 hpz hHeld V2 E2 E3 E4
            rw [← hts.out] at fin
            go_wp2
            go_roundw
            case rel => exact ⟨q + 1, nc, no, by omega, by simp, fin⟩
            case measure => simp [intOf]; omega
           exact AllReadyH.nil
          exact AllReadyH.nil
         exact AllReadyH.nil
        exact AllReadyH.nil
       exact AllReadyH.nil
      ·obtain rfl : q = M := by omega
       have htk : vs.take q = vs := by rw [← hM.out]; exact List.take_length
       rw [htk] at hC hln
       have hnv : Hid (NV = .mk 5 b ⟨#[]⟩ t [] (nrmL od vs)) := by
        show _ = _
        rw [← hNV.out]
        unfold nrmV
        simp
       obtain ⟨y1, y2, hV⟩ := hC.out.done hw'.out ⟨by decide, hz'.out.2.1, Nat.zero_le _, by rw [hln.out]; unfold capT; omega⟩
       have hV' := hid hV
       clear y1 y2 hV
       have e0 := hC.out.box.cell 0
       have e1 := hC.out.box.cell 1
       have e2 := hC.out.box.cell 2
       have e3 := hC.out.box.cell 3
       have e4 := hC.out.box.cell 4
       have e5 := hC.out.box.cell 5
       simp only [List.getElem?_toArray, List.getElem?_cons_zero, List.getElem?_cons_succ] at e0 e1 e2 e3 e4 e5
       have g0 := hC.out.res.cell 0
       have g1 := hC.out.res.cell 1
       have g2 := hC.out.res.cell 2
       have g3 := hC.out.res.cell 3
       have g4 := hC.out.res.cell 4
       have g5 := hC.out.res.cell 5
       simp only [List.getElem?_toArray, List.getElem?_cons_zero, List.getElem?_cons_succ] at g0 g1 g2 g3 g4 g5
       have f0 := hC.out.res.frozen 0
       have f1 := hC.out.res.frozen 1
       have f2 := hC.out.res.frozen 2
       have f3 := hC.out.res.frozen 3
       have f4 := hC.out.res.frozen 4
       have f5 := hC.out.res.frozen 5
       go_wp2
       refine ret_val1 (p := 2) rfl rfl (hC.out.res.six) rfl ?_
       have hpw := hH.out
       rw [hnv.out]
       refine ⟨_, rfl, ?_, ?_⟩
       ·refine hV'.out.kept (fun c _ hc => ?_) ⟨same_six.1, fun c hc hl => same_six.2 c ?_ hl⟩
        ·show w.heap.size ≤ c
         have : H + 2 ≤ c := hc
         omega
        ·show c ≠ H + 1
         have : H + 2 ≤ c := hc
         omega
       ·rw [hH.out]
        exact below_six hC.out.bel (Nat.le_succ _) _ _ _ _ _ _
    ·have hnv : Hid (NV = .mk k b ⟨#[]⟩ t [] []) := by
      show _ = _
      rw [← hNV.out]
      unfold nrmV
      rw [if_neg h3, if_neg hn6, if_neg h5, if_neg hn6]
     go_upto_region 18 with fail
     clear c0
     obtain ⟨y1, y2, hV⟩ := hC0.out.done hw'.out ⟨by decide, hz'.out.2.1, Nat.zero_le _, Nat.zero_le _⟩
     have hV' := hid hV
     clear y1 y2 hV
     have e0 := hC0.out.box.cell 0
     have e1 := hC0.out.box.cell 1
     have e2 := hC0.out.box.cell 2
     have e3 := hC0.out.box.cell 3
     have e4 := hC0.out.box.cell 4
     have e5 := hC0.out.box.cell 5
     simp only [List.getElem?_toArray, List.getElem?_cons_zero, List.getElem?_cons_succ] at e0 e1 e2 e3 e4 e5
     have g0 := hC0.out.res.cell 0
     have g1 := hC0.out.res.cell 1
     have g2 := hC0.out.res.cell 2
     have g3 := hC0.out.res.cell 3
     have g4 := hC0.out.res.cell 4
     have g5 := hC0.out.res.cell 5
     simp only [List.getElem?_toArray, List.getElem?_cons_zero, List.getElem?_cons_succ] at g0 g1 g2 g3 g4 g5
     have f0 := hC0.out.res.frozen 0
     have f1 := hC0.out.res.frozen 1
     have f2 := hC0.out.res.frozen 2
     have f3 := hC0.out.res.frozen 3
     have f4 := hC0.out.res.frozen 4
     have f5 := hC0.out.res.frozen 5
     go_wp2
     refine ret_val1 (p := 2) rfl rfl (hC0.out.res.six) rfl ?_
     have hpw := hH.out
     rw [hnv.out]
     refine ⟨_, rfl, ?_, ?_⟩
     ·refine hV'.out.kept (fun c _ hc => ?_) ⟨same_six.1, fun c hc hl => same_six.2 c ?_ hl⟩
      ·show w.heap.size ≤ c
       have : H + 2 ≤ c := hc
       omega
      ·show c ≠ H + 1
       have : H + 2 ≤ c := hc
       omega
     ·rw [hH.out]
      exact below_six hC0.out.bel (Nat.le_succ _) _ _ _ _ _ _
end Go.Proofs.YtlhbgfhmcjaabaaGreatDoor
