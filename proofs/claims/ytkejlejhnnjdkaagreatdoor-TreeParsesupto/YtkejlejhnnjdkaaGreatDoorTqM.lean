/-
 TreeParses, walked (by gen_tqm.py).
-/
import Derived.Test.YtkejlejhnnjdkaaGreatDoorTqL
namespace Go.Proofs.YtkejlejhnnjdkaaGreatDoor
open Go.RowKit Go.Shelf
theorem ValOn.keptO {S : Nat → Prop} {w w' : World} {t : Vt} {v : Value} {n : Nat} (h : ValOn S w t v) (hS : ∀ c, S c → c ≠ n) (hs : SameOn (fun c => c ≠ n) w w') : ValOn S w' t v := h.kept (fun _ _ h => h) ⟨hs.1, fun c hc hl => hs.2 c (hS c hc) hl⟩
set_option maxRecDepth 10000 in
set_option maxHeartbeats 8000000 in
theorem treeParses_walk (s : ByteArray) (hs : s.size ≤ 1048576) (d : Int) (hd : (Lit.int .i64 d).wf = true) (w : World) :
  Calls Tryz.prog 3 #[.string s, .int .i64 d] w fun e w' => e = .returned (.bool true) ∧ Below w.heap.size w w' := by
 have hEq := eqVerT
 have p1 := hid (fun u => parse_calls smallS (by decide) 2 (by decide) 1 29 0 (hid chkSmall) smallT (hid parSmall) u)
 have hsm := hid (fun u => small_calls u)
 have hs1 := hid (fun va vb u (h1 : ValAt u smallT va) (h2 : ValAt u smallT vb) => sameV_calls smallT smallT va vb true (hid ⟨fun _ => rfl, fun _ => rfl⟩) u h1 h2)
 obtain ⟨C, A, E, hI⟩ := chk_ex s d
 obtain ⟨t, ht⟩ := par_ex hI
 have p2 := hid (fun u => parse_calls s hs d hd C A E (hid hI) t (hid ht) u)
 have p3 := hid (fun u => parR_calls s hs d C A E (hid hI) t (hid ht) u)
 have hs2 := hid (fun va vb u (h1 : ValAt u t va) (h2 : ValAt u t vb) => sameV_calls t t va vb true (hid ⟨fun _ => rfl, fun _ => rfl⟩) u h1 h2)
 clear hI ht hs hd
 go_enter Tryz.func3, Tryz.ntmps3
 go_wp2_with fail
 refine Calls.mono (p1.out w) ?_
 rintro e w1 ⟨x, rfl, hV, hb⟩
 obtain ⟨ako, akc, avo, avc, rfl⟩ := hV.six
 clear p1
 go_upto_region 2 with fail
 have q1 : Below w1.heap.size w1 ((w1.alloc (.cells #[.int .i64 smallT.kind, .bool smallT.b, .string smallT.raw, .string smallT.text, .slice ako smallT.keys.length akc, .slice avo smallT.kids.length avc] 25)).alloc (.cells #[.int .i64 1, .int .i64 29] 27)) := by repeat (first | with_reducible exact Below.refl _ _ | with_reducible refine Below.setCell ?_ (by first | (simp; done) | (simp; omega)) _ | with_reducible refine below_drewN ?_ _ | with_reducible refine Below.alloc ?_ (by first | (simp; done) | (simp; omega)) _ | with_reducible refine Below.drew ?_)
 obtain ⟨a, ha⟩ : ∃ a, Hid (w1.heap.size = a) := ⟨_, rfl⟩
 have hla : Hid (w.heap.size ≤ a) := by rw [← ha.out]; exact hb.size
 have A1 : Hid (At ((w1.alloc (.cells #[.int .i64 smallT.kind, .bool smallT.b, .string smallT.raw, .string smallT.text, .slice ako smallT.keys.length akc, .slice avo smallT.kids.length avc] 25)).alloc (.cells #[.int .i64 1, .int .i64 29] 27)) a #[.int .i64 smallT.kind, .bool smallT.b, .string smallT.raw, .string smallT.text, .slice ako smallT.keys.length akc, .slice avo smallT.kids.length avc] 25) := by
  have h := (At.new w1 #[.int .i64 smallT.kind, .bool smallT.b, .string smallT.raw, .string smallT.text, .slice ako smallT.keys.length akc, .slice avo smallT.kids.length avc] 25).alloc (.cells #[.int .i64 1, .int .i64 29] 27)
  rw [ha.out] at h
  exact h
 have V1 : Hid (At ((w1.alloc (.cells #[.int .i64 smallT.kind, .bool smallT.b, .string smallT.raw, .string smallT.text, .slice ako smallT.keys.length akc, .slice avo smallT.kids.length avc] 25)).alloc (.cells #[.int .i64 1, .int .i64 29] 27)) (a + 1) #[.int .i64 1, .int .i64 29] 27) := by
  have h := At.new (w1.alloc (.cells #[.int .i64 smallT.kind, .bool smallT.b, .string smallT.raw, .string smallT.text, .slice ako smallT.keys.length akc, .slice avo smallT.kids.length avc] 25)) #[.int .i64 1, .int .i64 29] 27
  rw [World.size_alloc, ha.out] at h
  exact h
 have B1 := hid (hb.trans (q1.mono hb.size))
 have U1 := hid (hV.keptB q1)
 have z1 : Hid (((w1.alloc (.cells #[.int .i64 smallT.kind, .bool smallT.b, .string smallT.raw, .string smallT.text, .slice ako smallT.keys.length akc, .slice avo smallT.kids.length avc] 25)).alloc (.cells #[.int .i64 1, .int .i64 29] 27)).heap.size = a + 2) := by show _ = _; rw [World.size_alloc, World.size_alloc, ha.out]
 rw [ha.out]
 clear hV hb q1
 generalize (w1.alloc (.cells #[.int .i64 smallT.kind, .bool smallT.b, .string smallT.raw, .string smallT.text, .slice ako smallT.keys.length akc, .slice avo smallT.kids.length avc] 25)).alloc (.cells #[.int .i64 1, .int .i64 29] 27) = W2 at A1 V1 B1 U1 z1 ⊢
 have hx0 : (W2.drew.cell? ⟨a, 0, none⟩ = some (.int .i64 smallT.kind) ∧ W2.drew.cell? ⟨a, 1, none⟩ = some (.bool smallT.b) ∧ W2.drew.cell? ⟨a, 2, none⟩ = some (.string smallT.raw) ∧ W2.drew.cell? ⟨a, 3, none⟩ = some (.string smallT.text) ∧ W2.drew.cell? ⟨a, 4, none⟩ = some (.slice ako smallT.keys.length akc) ∧ W2.drew.cell? ⟨a, 5, none⟩ = some (.slice avo smallT.kids.length avc)) ∧ W2.drew.cell? ⟨a + 1, 0, none⟩ = some (.int .i64 1) := ⟨⟨A1.out.cell 0, A1.out.cell 1, A1.out.cell 2, A1.out.cell 3, A1.out.cell 4, A1.out.cell 5⟩, V1.out.cell 0⟩
 have q0 := hid (show Below W2.heap.size W2 W2.drew from (Below.refl _ _).drew)
 have A2 := hid (A1.out.keptAll q0.out)
 have V2 := hid (V1.out.keptAll q0.out)
 have B2 := hid (B1.out.drew)
 have U2 := hid (U1.out.keptB q0.out)
 have z2 : Hid (a + 2 ≤ W2.drew.heap.size) := Nat.le_of_eq z1.out.symm
 rename_i Kr0 hKr0
 refine wp_region_held_drew (S := fun w' => (w'.cell? ⟨a, 0, none⟩ = some (.int .i64 smallT.kind) ∧ w'.cell? ⟨a, 1, none⟩ = some (.bool smallT.b) ∧ w'.cell? ⟨a, 2, none⟩ = some (.string smallT.raw) ∧ w'.cell? ⟨a, 3, none⟩ = some (.string smallT.text) ∧ w'.cell? ⟨a, 4, none⟩ = some (.slice ako smallT.keys.length akc) ∧ w'.cell? ⟨a, 5, none⟩ = some (.slice avo smallT.kids.length avc)) ∧ w'.cell? ⟨a + 1, 0, none⟩ = some (.int .i64 1)) (by kernel_rfl) hx0 (fun hHeld => ?_)
 clear hHeld q0 A1 V1 B1 U1 z1
 generalize W2.drew = v0 at *
 (refine' wpAnyH_take (i := 0) rfl (by kernel_rfl) (by kernel_rfl) (by kernel_rfl) (fun _ _ _ h => h) (Or.inl ⟨by rfl, ?_⟩) (by assumption) ?_; rotate_left; (· (intro wq hq; (try dsimp only at hq); go_simp; first | done | with_reducible rfl)); simp only [Act.put, List.getElem_toArray, List.getElem_cons_zero, List.setIfInBounds_toArray, List.set_cons_zero, List.set_cons_succ])
 refine wpAnyH_ready (rs := [1]) (by kernel_rfl) (by simp) ?_
 refine AllReadyH.cons rfl (fun K hK => ?_) ?_
 ·rw [if_pos (by rfl)]
  go_simp
  refine Calls.mono (hsm.out v0) ?_
  rintro e v1 ⟨y, rfl, hy, hb⟩
  have A3 := hid (A2.out.keptAll hb)
  have V3 := hid (V2.out.keptAll hb)
  have B3 := hid (B2.out.trans (hb.mono B2.out.size))
  have U3 := hid (U2.out.keptB hb)
  have z3 : Hid (a + 2 ≤ v1.heap.size) := Nat.le_trans z2.out hb.size
  have Y3 := hid hy
  refine hK.out _ _ ⟨⟨A3.out.cell 0, A3.out.cell 1, A3.out.cell 2, A3.out.cell 3, A3.out.cell 4, A3.out.cell 5⟩, V3.out.cell 0⟩ (fun _ => ?_)
  clear hK K hb hy A2 V2 B2 U2 z2 hx0 hsm
  refine wpAnyH_ready (rs := [2]) (by kernel_rfl) (by simp) ?_
  refine AllReadyH.cons rfl (fun K hK => ?_) ?_
  ·rw [if_pos (by rfl)]
   go_simp
   refine Calls.mono (hs1.out _ _ v1 U3.out.at Y3.out) ?_
   rintro e v2 ⟨rfl, hb⟩
   have A4 := hid (A3.out.keptAll hb)
   have V4 := hid (V3.out.keptAll hb)
   have B4 := hid (B3.out.trans (hb.mono B3.out.size))
   have z4 : Hid (a + 2 ≤ v2.heap.size) := Nat.le_trans z3.out hb.size
   refine hK.out _ _ ⟨⟨A4.out.cell 0, A4.out.cell 1, A4.out.cell 2, A4.out.cell 3, A4.out.cell 4, A4.out.cell 5⟩, V4.out.cell 0⟩ (fun _ => ?_)
   clear hK K hb A3 V3 B3 U3 Y3 z3 hs1
   (refine' wpAnyH_take (i := 3) rfl (by kernel_rfl) (by kernel_rfl) (by kernel_rfl) (fun _ _ _ h => h) (Or.inl ⟨by rfl, ?_⟩) (by assumption) ?_; rotate_left; (· (intro wq hq; (try dsimp only at hq); go_simp; first | done | with_reducible rfl)); simp only [Act.put, List.getElem_toArray, List.getElem_cons_zero, List.getElem_cons_succ, List.setIfInBounds_toArray, List.set_cons_zero, List.set_cons_succ])
   (refine' wpAnyH_take (i := 4) rfl (by kernel_rfl) (by kernel_rfl) (by kernel_rfl) (fun _ _ _ h => h) (Or.inl ⟨by rfl, ?_⟩) (by assumption) ?_; rotate_left; (· (intro wq hq; (try dsimp only at hq); go_simp; first | done | with_reducible rfl)); simp only [Act.put, List.getElem_toArray, List.getElem_cons_zero, List.getElem_cons_succ, List.setIfInBounds_toArray, List.set_cons_zero, List.set_cons_succ])
   (refine' wpAnyH_take (i := 5) rfl (by kernel_rfl) (by kernel_rfl) (by kernel_rfl) (fun _ _ _ h => h) (Or.inl ⟨by rfl, ?_⟩) (by assumption) ?_; rotate_left; (· (intro wq hq; (try dsimp only at hq); go_simp; first | done | with_reducible rfl)); simp only [Act.put, List.getElem_toArray, List.getElem_cons_zero, List.getElem_cons_succ, List.setIfInBounds_toArray, List.set_cons_zero, List.set_cons_succ])
   (refine' wpAnyH_take (i := 6) rfl (by kernel_rfl) (by kernel_rfl) (by kernel_rfl) (fun _ _ _ h => h) (Or.inl ⟨by rfl, ?_⟩) (by assumption) ?_; rotate_left; (· (intro wq hq; (try dsimp only at hq); go_simp; first | done | with_reducible rfl)); simp only [Act.put, List.getElem_toArray, List.getElem_cons_zero, List.getElem_cons_succ, List.setIfInBounds_toArray, List.set_cons_zero, List.set_cons_succ])
   (refine' wpAnyH_take (i := 7) rfl (by kernel_rfl) (by kernel_rfl) (by kernel_rfl) (fun _ _ _ h => h) (Or.inl ⟨by rfl, ?_⟩) (by assumption) ?_; rotate_left; (· (intro wq hq; (try dsimp only at hq); go_simp; first | done | with_reducible rfl)); simp only [Act.put, List.getElem_toArray, List.getElem_cons_zero, List.getElem_cons_succ, List.setIfInBounds_toArray, List.set_cons_zero, List.set_cons_succ])
   (refine' wpAnyH_take (i := 8) rfl (by kernel_rfl) (by kernel_rfl) (by kernel_rfl) (fun _ _ _ h => h) (Or.inl ⟨by rfl, ?_⟩) (by assumption) ?_; rotate_left; (· (intro wq hq; (try dsimp only at hq); go_simp; first | done | with_reducible rfl)); simp only [Act.put, List.getElem_toArray, List.getElem_cons_zero, List.getElem_cons_succ, List.setIfInBounds_toArray, List.set_cons_zero, List.set_cons_succ])
   (refine' wpAnyH_take (i := 9) rfl (by kernel_rfl) (by kernel_rfl) (by kernel_rfl) (fun _ _ _ h => h) (Or.inl ⟨by rfl, ?_⟩) (by assumption) ?_; rotate_left; (· (intro wq hq; (try dsimp only at hq); go_simp; first | done | with_reducible rfl)); simp only [Act.put, List.getElem_toArray, List.getElem_cons_zero, List.getElem_cons_succ, List.setIfInBounds_toArray, List.set_cons_zero, List.set_cons_succ])
   (refine' wpAnyH_take (i := 10) rfl (by kernel_rfl) (by kernel_rfl) (by kernel_rfl) (fun _ _ _ h => h) (Or.inl ⟨by rfl, ?_⟩) (by assumption) ?_; rotate_left; (· (intro wq hq; (try dsimp only at hq); go_simp; first | done | with_reducible rfl)); simp only [Act.put, List.getElem_toArray, List.getElem_cons_zero, List.getElem_cons_succ, List.setIfInBounds_toArray, List.set_cons_zero, List.set_cons_succ])
   (refine' wpAnyH_take (i := 11) rfl (by kernel_rfl) (by kernel_rfl) (by kernel_rfl) (fun _ _ _ h => h) (Or.inl ⟨by rfl, ?_⟩) (by assumption) ?_; rotate_left; (· (intro wq hq; (try dsimp only at hq); go_simp; first | done | with_reducible rfl)); simp only [Act.put, List.getElem_toArray, List.getElem_cons_zero, List.getElem_cons_succ, List.setIfInBounds_toArray, List.set_cons_zero, List.set_cons_succ])
   (refine' wpAnyH_take (i := 12) rfl (by kernel_rfl) (by kernel_rfl) (by kernel_rfl) (fun _ _ _ h => h) (Or.inl ⟨by rfl, ?_⟩) (by assumption) ?_; rotate_left; (· (intro wq hq; (try dsimp only at hq); go_simp; first | done | with_reducible rfl)); simp only [Act.put, List.getElem_toArray, List.getElem_cons_zero, List.getElem_cons_succ, List.setIfInBounds_toArray, List.set_cons_zero, List.set_cons_succ])
   refine wpAnyH_done (by kernel_rfl) ?_ _
   refine hKr0 _ _ ?_
   go_wp2_with fail
   refine Calls.mono (p2.out v2) ?_
   rintro e v3 ⟨x3, rfl, hV, hb⟩
   obtain ⟨bko, bkc, bvo, bvc, rfl⟩ := hV.six
   have A5 := hid (A4.out.keptAll hb)
   have V5 := hid (V4.out.keptAll hb)
   have B5 := hid (B4.out.trans (hb.mono B4.out.size))
   have U5 := hid (hV.mono (S' := fun c => a + 2 ≤ c) (fun c _ h => Nat.le_trans z4.out h))
   have z5 : Hid (a + 2 ≤ v3.heap.size) := Nat.le_trans z4.out hb.size
   clear hV hb A4 V4 B4 z4 p2
   have d0 := A5.out.cell 0
   have d1 := A5.out.cell 1
   have d2 := A5.out.cell 2
   have d3 := A5.out.cell 3
   have d4 := A5.out.cell 4
   have d5 := A5.out.cell 5
   simp only [List.getElem?_toArray, List.getElem?_cons_zero, List.getElem?_cons_succ] at d0 d1 d2 d3 d4 d5
   have f0 := A5.out.frozen 0
   have f1 := A5.out.frozen 1
   have f2 := A5.out.frozen 2
   have f3 := A5.out.frozen 3
   have f4 := A5.out.frozen 4
   have f5 := A5.out.frozen 5
   have e0 := V5.out.cell 0
   have e1 := V5.out.cell 1
   simp only [List.getElem?_toArray, List.getElem?_cons_zero, List.getElem?_cons_succ] at e0 e1
   have g0 := V5.out.frozen 0
   have g1 := V5.out.frozen 1
   have A6 := hid (A5.out.six (y0 := (.int .i64 t.kind)) (y1 := (.bool t.b)) (y2 := (.string t.raw)) (y3 := (.string t.text)) (y4 := (.slice bko t.keys.length bkc)) (y5 := (.slice bvo t.kids.length bvc)))
   have V6 := hid (show At ((((((v3.setCell ⟨a, 0, none⟩ (.int .i64 t.kind)).setCell ⟨a, 1, none⟩ (.bool t.b)).setCell ⟨a, 2, none⟩ (.string t.raw)).setCell ⟨a, 3, none⟩ (.string t.text)).setCell ⟨a, 4, none⟩ (.slice bko t.keys.length bkc)).setCell ⟨a, 5, none⟩ (.slice bvo t.kids.length bvc)) (a + 1) #[.int .i64 1, .int .i64 29] 27 from (same_six.2 (a + 1) (by omega) V5.out.lt).trans V5.out)
   have B6 := hid (below_six B5.out hla.out (.int .i64 t.kind) (.bool t.b) (.string t.raw) (.string t.text) (.slice bko t.keys.length bkc) (.slice bvo t.kids.length bvc))
   have U6 := hid (U5.out.keptO (n := a) (fun c h => by omega) (same_six (w := v3) (h := a) (y0 := (.int .i64 t.kind)) (y1 := (.bool t.b)) (y2 := (.string t.raw)) (y3 := (.string t.text)) (y4 := (.slice bko t.keys.length bkc)) (y5 := (.slice bvo t.kids.length bvc))))
   have W6 := hid (show At ((((((((v3.setCell ⟨a, 0, none⟩ (.int .i64 t.kind)).setCell ⟨a, 1, none⟩ (.bool t.b)).setCell ⟨a, 2, none⟩ (.string t.raw)).setCell ⟨a, 3, none⟩ (.string t.text)).setCell ⟨a, 4, none⟩ (.slice bko t.keys.length bkc)).setCell ⟨a, 5, none⟩ (.slice bvo t.kids.length bvc)).setCell ⟨a + 1, 0, none⟩ (.int .i64 (C : Int))).setCell ⟨a + 1, 1, none⟩ (.int .i64 (A : Int))) (a + 1) #[.int .i64 (C : Int), .int .i64 (A : Int)] 27 by simpa using (V6.out.set 0 (.int .i64 (C : Int))).set 1 (.int .i64 (A : Int)))
   have A7 := hid ((A6.out.other (p := ⟨a + 1, 0, none⟩) (show a ≠ a + 1 by omega) (.int .i64 (C : Int))).other (p := ⟨a + 1, 1, none⟩) (show a ≠ a + 1 by omega) (.int .i64 (A : Int)))
   have B7 := hid ((B6.out.setCell (p := ⟨a + 1, 0, none⟩) (show w.heap.size ≤ a + 1 by have := hla.out; omega) (.int .i64 (C : Int))).setCell (p := ⟨a + 1, 1, none⟩) (show w.heap.size ≤ a + 1 by have := hla.out; omega) (.int .i64 (A : Int)))
   have U7 := hid (U6.out.keptO (w' := (((((((v3.setCell ⟨a, 0, none⟩ (.int .i64 t.kind)).setCell ⟨a, 1, none⟩ (.bool t.b)).setCell ⟨a, 2, none⟩ (.string t.raw)).setCell ⟨a, 3, none⟩ (.string t.text)).setCell ⟨a, 4, none⟩ (.slice bko t.keys.length bkc)).setCell ⟨a, 5, none⟩ (.slice bvo t.kids.length bvc)).setCell ⟨a + 1, 0, none⟩ (.int .i64 (C : Int))).setCell ⟨a + 1, 1, none⟩ (.int .i64 (A : Int))) (n := a + 1) (fun c h => by omega) ⟨by simp, fun c hc _ => by rw [Below.heap_setCell _ _ _ _ hc, Below.heap_setCell _ _ _ _ hc]⟩)
   go_upto_region 5 with fail
   clear d0 f0 d1 f1 d2 f2 d3 f3 d4 f4 d5 f5 e0 e1 g0 g1 A5 V5 B5 U5 z5 A6 V6 B6 U6
   generalize (((((((v3.setCell ⟨a, 0, none⟩ (.int .i64 t.kind)).setCell ⟨a, 1, none⟩ (.bool t.b)).setCell ⟨a, 2, none⟩ (.string t.raw)).setCell ⟨a, 3, none⟩ (.string t.text)).setCell ⟨a, 4, none⟩ (.slice bko t.keys.length bkc)).setCell ⟨a, 5, none⟩ (.slice bvo t.kids.length bvc)).setCell ⟨a + 1, 0, none⟩ (.int .i64 (C : Int))).setCell ⟨a + 1, 1, none⟩ (.int .i64 (A : Int)) = W7 at W6 A7 B7 U7 ⊢
   go_wp2_with fail
   refine Calls.mono (p3.out W7) ?_
   rintro e v4 ⟨x4, rfl, hV, hb⟩
   obtain ⟨cko, ckc, cvo, cvc, rfl⟩ := hV.six
   have q1 : Below v4.heap.size v4 ((v4.alloc (.cells #[.int .i64 t.kind, .bool t.b, .string t.raw, .string t.text, .slice cko t.keys.length ckc, .slice cvo t.kids.length cvc] 25)).alloc (.cells #[.int .i64 (C : Int), .int .i64 (A : Int)] 27)) := by repeat (first | with_reducible exact Below.refl _ _ | with_reducible refine Below.setCell ?_ (by first | (simp; done) | (simp; omega)) _ | with_reducible refine below_drewN ?_ _ | with_reducible refine Below.alloc ?_ (by first | (simp; done) | (simp; omega)) _ | with_reducible refine Below.drew ?_)
   obtain ⟨r, hr⟩ : ∃ a, Hid (v4.heap.size = a) := ⟨_, rfl⟩
   have R1 : Hid (At ((v4.alloc (.cells #[.int .i64 t.kind, .bool t.b, .string t.raw, .string t.text, .slice cko t.keys.length ckc, .slice cvo t.kids.length cvc] 25)).alloc (.cells #[.int .i64 (C : Int), .int .i64 (A : Int)] 27)) r #[.int .i64 t.kind, .bool t.b, .string t.raw, .string t.text, .slice cko t.keys.length ckc, .slice cvo t.kids.length cvc] 25) := by
    have h := (At.new v4 #[.int .i64 t.kind, .bool t.b, .string t.raw, .string t.text, .slice cko t.keys.length ckc, .slice cvo t.kids.length cvc] 25).alloc (.cells #[.int .i64 (C : Int), .int .i64 (A : Int)] 27)
    rw [hr.out] at h
    exact h
   have R2 : Hid (At ((v4.alloc (.cells #[.int .i64 t.kind, .bool t.b, .string t.raw, .string t.text, .slice cko t.keys.length ckc, .slice cvo t.kids.length cvc] 25)).alloc (.cells #[.int .i64 (C : Int), .int .i64 (A : Int)] 27)) (r + 1) #[.int .i64 (C : Int), .int .i64 (A : Int)] 27) := by
    have h := At.new (v4.alloc (.cells #[.int .i64 t.kind, .bool t.b, .string t.raw, .string t.text, .slice cko t.keys.length ckc, .slice cvo t.kids.length cvc] 25)) #[.int .i64 (C : Int), .int .i64 (A : Int)] 27
    rw [World.size_alloc, hr.out] at h
    exact h
   have W8 := hid ((W6.out.keptAll hb).keptAll q1)
   have A8 := hid ((A7.out.keptAll hb).keptAll q1)
   have B8 := hid ((B7.out.trans (hb.mono B7.out.size)).trans (q1.mono (Nat.le_trans B7.out.size hb.size)))
   have U8 := hid ((U7.out.keptB hb).keptB q1)
   have S8 := hid (hV.keptB q1)
   clear hV hb q1 W6 A7 B7 U7 p3
   go_upto_region 6 with fail
   rw [hr.out]
   generalize (v4.alloc (.cells #[.int .i64 t.kind, .bool t.b, .string t.raw, .string t.text, .slice cko t.keys.length ckc, .slice cvo t.kids.length cvc] 25)).alloc (.cells #[.int .i64 (C : Int), .int .i64 (A : Int)] 27) = W9 at R1 R2 W8 A8 B8 U8 S8 ⊢
   have d0 := A8.out.cell 0
   have d1 := A8.out.cell 1
   have d2 := A8.out.cell 2
   have d3 := A8.out.cell 3
   have d4 := A8.out.cell 4
   have d5 := A8.out.cell 5
   simp only [List.getElem?_toArray, List.getElem?_cons_zero, List.getElem?_cons_succ] at d0 d1 d2 d3 d4 d5
   have e0 := R1.out.cell 0
   have e1 := R1.out.cell 1
   have e2 := R1.out.cell 2
   have e3 := R1.out.cell 3
   have e4 := R1.out.cell 4
   have e5 := R1.out.cell 5
   simp only [List.getElem?_toArray, List.getElem?_cons_zero, List.getElem?_cons_succ] at e0 e1 e2 e3 e4 e5
   go_wp2_with fail
   refine Calls.mono (hs2.out _ _ W9 U8.out.at S8.out.at) ?_
   rintro e v5 ⟨rfl, hb⟩
   have W10 := W8.out.keptAll hb
   have R10 := R2.out.keptAll hb
   have B10 := hid (B8.out.trans (hb.mono B8.out.size))
   clear d0 e0 d1 e1 d2 e2 d3 e3 d4 e4 d5 e5 hb hs2 R1 W8 A8 B8 U8 S8 R2
   have d0 := W10.cell 0
   have d1 := W10.cell 1
   simp only [List.getElem?_toArray, List.getElem?_cons_zero, List.getElem?_cons_succ] at d0 d1
   have e0 := R10.cell 0
   have e1 := R10.cell 1
   simp only [List.getElem?_toArray, List.getElem?_cons_zero, List.getElem?_cons_succ] at e0 e1
   go_wp2
   go_ret
   exact ⟨rfl, B10.out⟩
  exact AllReadyH.nil
 exact AllReadyH.nil
end Go.Proofs.YtkejlejhnnjdkaaGreatDoor
